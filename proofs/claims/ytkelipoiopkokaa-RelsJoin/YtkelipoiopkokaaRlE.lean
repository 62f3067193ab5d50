
/-
  Layer 12 (rels): are two lists the same: the program's question and the reference's.
-/
import Derived.Test.YtkelipoiopkokaaRlD
set_option linter.unusedVariables false
namespace Go.Proofs.Ytkelipoiopkokaa
open Go.RowKit Go.PlainAid Go.Sort
open Classical
theorem take_same {l m : List Rl} {i : Nat} (h : l.take i = m.take i) (hl : i < l.length) (hm : i < m.length) (e : l[i] = m[i]) : l.take (i + 1) = m.take (i + 1) := by
  rw [List.take_succ_eq_append_getElem hl, List.take_succ_eq_append_getElem hm, h, e]
theorem Rl.parts {x y : Rl} (h : x ≠ y) : x.pl ≠ y.pl ∨ (x.pl = y.pl ∧ x.type ≠ y.type) ∨ (x.pl = y.pl ∧ x.type = y.type ∧ x.sym ≠ y.sym) ∨ (x.pl = y.pl ∧ x.type = y.type ∧ x.sym = y.sym ∧ x.add ≠ y.add) ∨ (x.pl = y.pl ∧ x.type = y.type ∧ x.sym = y.sym ∧ x.add = y.add ∧ x.has ≠ y.has) := by
  obtain ⟨a, b, c, d, e⟩ := x
  obtain ⟨a', b', c', d', e'⟩ := y
  simp only [ne_eq, Rl.mk.injEq, not_and] at h ⊢
  by_cases h1 : a = a'
  · by_cases h2 : b = b'
    · by_cases h3 : c = c'
      · by_cases h4 : d = d'
        · exact .inr (.inr (.inr (.inr ⟨h1, h2, h3, h4, h h1 h2 h3 h4⟩)))
        · exact .inr (.inr (.inr (.inl ⟨h1, h2, h3, h4⟩)))
      · exact .inr (.inr (.inl ⟨h1, h2, h3⟩))
    · exact .inr (.inl ⟨h1, h2⟩)
  · exact .inl h1
set_option maxHeartbeats 4000000 in
set_option maxRecDepth 20000 in
theorem rels_Same (w : World) (v1 v2 : Value) (l m : List Rl) (h1 : ArgR w v1 l) (h2 : ArgR w v2 m) :
    Calls Try.prog 10 #[v1, v2] w fun e w' => e = .returned (.bool (decide (l = m))) ∧ Below w.heap.size w w' := by
  have HB : Hid (Below w.heap.size w w) := Below.refl _ _
  obtain ⟨a1, c1, rfl, p1, p2⟩ := h1.form
  obtain ⟨a2, c2, rfl, p3, p4⟩ := h2.form
  have HA1 := hide h1
  have HA2 := hide h2
  clear h1 h2
  by_cases hl : l.length = m.length
  · have hne : ((l.length : Int) != (m.length : Int)) = false := by simp; omega
    go_enter Try.func10, Try.ntmps10
    go_wp2
    go_loopw [5, 13] (fun _ vi wr => (∃ k : Nat, wr = w.drewN k) ∧ ∃ i : Nat, i ≤ l.length ∧ vi = .int .i64 (i : Int) ∧ Hid (l.take i = m.take i)) (fun _ vi _ => l.length - (intOf vi).toNat)
    case atStart => exact ⟨⟨0, rfl⟩, 0, by omega, rfl, by simp [Hid]⟩
    case round =>
      obtain ⟨⟨k, rfl⟩, i, hi, rfl, HT⟩ := hrel
      by_cases hlt : i < l.length
      · have hltI : (i : Int) < (l.length : Int) := by omega
        have hltJ : (i : Int) < (m.length : Int) := by omega
        obtain ⟨g1, o1, rfl, y0, y1, y2, y3, y4⟩ := HA1.out.at i hlt
        obtain ⟨g2, o2, rfl, z0, z1, z2, z3, z4⟩ := HA2.out.at i (by omega)
        by_cases hE : l[i] = m[i]'(by omega)
        · have HT2 : Hid (l.take (i + 1) = m.take (i + 1)) := take_same HT.out hlt (by omega) hE
          rw [← hE] at z0 z1 z2 z3 z4
          generalize l[i] = p at *
          obtain ⟨n0, n1, n2, n3, b⟩ := p
          simp only at y0 y1 y2 y3 y4 z0 z1 z2 z3 z4
          clear hE
          go_wp2_with fail
          go_quiet (fail)
          go_wp2
          go_roundw
          case rel => exact ⟨⟨_, rfl⟩, i + 1, by omega, by go_num, HT2⟩
          case measure => simp [intOf]; omega
        · have hd : decide (l = m) = false := by
            rw [decide_eq_false_iff_not]; intro e; subst e; exact hE rfl
          have HD := hide hd
          clear hd
          have hp := Rl.parts hE
          generalize l[i] = p at *
          generalize m[i] = q at *
          obtain ⟨n0, n1, n2, n3, b⟩ := p
          obtain ⟨m0, m1, m2, m3, c⟩ := q
          simp only at y0 y1 y2 y3 y4 z0 z1 z2 z3 z4 hp
          clear hE
          have HBk : Hid (Below w.heap.size w (w.drewN k)) := ⟨rfl, rfl, rfl, Nat.le_refl _, fun _ _ => rfl⟩
          rcases hp with h0 | ⟨rfl, h0⟩ | ⟨rfl, rfl, h0⟩ | ⟨rfl, rfl, rfl, h0⟩ | ⟨rfl, rfl, rfl, rfl, h0⟩
          · have d0 : ((n0 : Int) == (m0 : Int)) = false := by simp; omega
            go_wp2_with fail
            go_quiet (fail)
            go_wp2
            go_ret
            exact ⟨by rw [HD.out]; rfl, by first | exact bel_drewN (bel_drewN HB.out _) _ | exact bel_drewN HB.out _⟩
          · have d0 : ((n1 : Int) == (m1 : Int)) = false := by simp; omega
            go_wp2_with fail
            go_quiet (fail)
            go_wp2
            go_ret
            exact ⟨by rw [HD.out]; rfl, by first | exact bel_drewN (bel_drewN HB.out _) _ | exact bel_drewN HB.out _⟩
          · have d0 : ((n2 : Int) == (m2 : Int)) = false := by simp; omega
            go_wp2_with fail
            go_quiet (fail)
            go_wp2
            go_ret
            exact ⟨by rw [HD.out]; rfl, by first | exact bel_drewN (bel_drewN HB.out _) _ | exact bel_drewN HB.out _⟩
          · have d0 : ((n3 : Int) == (m3 : Int)) = false := by simp; omega
            go_wp2_with fail
            go_quiet (fail)
            go_wp2
            go_ret
            exact ⟨by rw [HD.out]; rfl, by first | exact bel_drewN (bel_drewN HB.out _) _ | exact bel_drewN HB.out _⟩
          · have d0 : (b == c) = false := by simp [h0]
            go_wp2_with fail
            go_quiet (fail)
            go_wp2
            go_ret
            exact ⟨by rw [HD.out]; rfl, by first | exact bel_drewN (bel_drewN HB.out _) _ | exact bel_drewN HB.out _⟩
      · have hd : decide (l = m) = true := by
          have := HT.out
          rw [List.take_of_length_le (by omega), List.take_of_length_le (by omega)] at this
          rw [decide_eq_true_iff]; exact this
        have HD := hide hd
        clear hd
        go_wp2
        go_ret
        exact ⟨by rw [HD.out]; rfl, by first | exact bel_drewN (bel_drewN HB.out _) _ | exact bel_drewN HB.out _⟩
  · have hne : ((l.length : Int) != (m.length : Int)) = true := by simp; omega
    have hd : decide (l = m) = false := by
      rw [decide_eq_false_iff_not]; intro e; exact hl (by rw [e])
    rw [hd]
    clear hd
    go_enter Try.func10, Try.ntmps10
    go_wp2
    go_ret
    exact ⟨rfl, HB.out⟩
set_option maxHeartbeats 4000000 in
set_option maxRecDepth 20000 in
theorem ref12_Same (w : World) (v1 v2 : Value) (l m : List Rl) (h1 : ArgR w v1 l) (h2 : ArgR w v2 m) :
    Calls Try.prog 9 #[v1, v2] w fun e w' => e = .returned (.bool (decide (l = m))) ∧ Below w.heap.size w w' := by
  have HB : Hid (Below w.heap.size w w) := Below.refl _ _
  obtain ⟨a1, c1, rfl, p1, p2⟩ := h1.form
  obtain ⟨a2, c2, rfl, p3, p4⟩ := h2.form
  have HA1 := hide h1
  have HA2 := hide h2
  clear h1 h2
  by_cases hl : l.length = m.length
  · have hne : ((l.length : Int) != (m.length : Int)) = false := by simp; omega
    go_enter Try.func9, Try.ntmps9
    go_wp2
    go_loopw [5] (fun vi wr => (∃ k : Nat, wr = w.drewN k) ∧ ∃ i : Nat, i ≤ l.length ∧ vi = .int .i64 (i : Int) ∧ Hid (l.take i = m.take i)) (fun vi _ => l.length - (intOf vi).toNat)
    case atStart => exact ⟨⟨0, rfl⟩, 0, by omega, rfl, by simp [Hid]⟩
    case round =>
      obtain ⟨⟨k, rfl⟩, i, hi, rfl, HT⟩ := hrel
      by_cases hlt : i < l.length
      · have hltI : (i : Int) < (l.length : Int) := by omega
        have hltJ : (i : Int) < (m.length : Int) := by omega
        obtain ⟨g1, o1, rfl, y0, y1, y2, y3, y4⟩ := HA1.out.at i hlt
        obtain ⟨g2, o2, rfl, z0, z1, z2, z3, z4⟩ := HA2.out.at i (by omega)
        by_cases hE : l[i] = m[i]'(by omega)
        · have HT2 : Hid (l.take (i + 1) = m.take (i + 1)) := take_same HT.out hlt (by omega) hE
          rw [← hE] at z0 z1 z2 z3 z4
          generalize l[i] = p at *
          obtain ⟨n0, n1, n2, n3, b⟩ := p
          simp only at y0 y1 y2 y3 y4 z0 z1 z2 z3 z4
          clear hE
          go_wp2_with fail
          go_quiet (fail)
          go_wp2
          go_roundw
          case rel => exact ⟨⟨_, rfl⟩, i + 1, by omega, by go_num, HT2⟩
          case measure => simp [intOf]; omega
        · have hd : decide (l = m) = false := by
            rw [decide_eq_false_iff_not]; intro e; subst e; exact hE rfl
          have HD := hide hd
          clear hd
          have hp := Rl.parts hE
          generalize l[i] = p at *
          generalize m[i] = q at *
          obtain ⟨n0, n1, n2, n3, b⟩ := p
          obtain ⟨m0, m1, m2, m3, c⟩ := q
          simp only at y0 y1 y2 y3 y4 z0 z1 z2 z3 z4 hp
          clear hE
          have HBk : Hid (Below w.heap.size w (w.drewN k)) := ⟨rfl, rfl, rfl, Nat.le_refl _, fun _ _ => rfl⟩
          rcases hp with h0 | ⟨rfl, h0⟩ | ⟨rfl, rfl, h0⟩ | ⟨rfl, rfl, rfl, h0⟩ | ⟨rfl, rfl, rfl, rfl, h0⟩
          · have d0 : ((n0 : Int) == (m0 : Int)) = false := by simp; omega
            go_wp2_with fail
            go_quiet (fail)
            go_wp2
            go_ret
            exact ⟨by rw [HD.out]; rfl, by first | exact bel_drewN (bel_drewN HB.out _) _ | exact bel_drewN HB.out _⟩
          · have d0 : ((n1 : Int) == (m1 : Int)) = false := by simp; omega
            go_wp2_with fail
            go_quiet (fail)
            go_wp2
            go_ret
            exact ⟨by rw [HD.out]; rfl, by first | exact bel_drewN (bel_drewN HB.out _) _ | exact bel_drewN HB.out _⟩
          · have d0 : ((n2 : Int) == (m2 : Int)) = false := by simp; omega
            go_wp2_with fail
            go_quiet (fail)
            go_wp2
            go_ret
            exact ⟨by rw [HD.out]; rfl, by first | exact bel_drewN (bel_drewN HB.out _) _ | exact bel_drewN HB.out _⟩
          · have d0 : ((n3 : Int) == (m3 : Int)) = false := by simp; omega
            go_wp2_with fail
            go_quiet (fail)
            go_wp2
            go_ret
            exact ⟨by rw [HD.out]; rfl, by first | exact bel_drewN (bel_drewN HB.out _) _ | exact bel_drewN HB.out _⟩
          · have d0 : (b == c) = false := by simp [h0]
            go_wp2_with fail
            go_quiet (fail)
            go_wp2
            go_ret
            exact ⟨by rw [HD.out]; rfl, by first | exact bel_drewN (bel_drewN HB.out _) _ | exact bel_drewN HB.out _⟩
      · have hd : decide (l = m) = true := by
          have := HT.out
          rw [List.take_of_length_le (by omega), List.take_of_length_le (by omega)] at this
          rw [decide_eq_true_iff]; exact this
        have HD := hide hd
        clear hd
        go_wp2
        go_ret
        exact ⟨by rw [HD.out]; rfl, by first | exact bel_drewN (bel_drewN HB.out _) _ | exact bel_drewN HB.out _⟩
  · have hne : ((l.length : Int) != (m.length : Int)) = true := by simp; omega
    have hd : decide (l = m) = false := by
      rw [decide_eq_false_iff_not]; intro e; exact hl (by rw [e])
    rw [hd]
    clear hd
    go_enter Try.func9, Try.ntmps9
    go_wp2
    go_ret
    exact ⟨rfl, HB.out⟩
end Go.Proofs.Ytkelipoiopkokaa
