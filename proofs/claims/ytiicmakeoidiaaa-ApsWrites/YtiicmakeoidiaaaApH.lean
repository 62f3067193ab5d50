
/-
  Layer 14 (aps), the program: fit and alike keep their contracts.
-/
import Derived.Test.YtiicmakeoidiaaaApG
import Derived.BigQuiet
set_option linter.unusedVariables false
namespace Go.Proofs.Ytiicmakeoidiaaa
open Go.RowKit Go.PlainAid
theorem all_snoc (rela : Bool) (l : List Rl) (i : Nat) (h : i < l.length) : (l.take (i + 1)).all (rlGood rela) = ((l.take i).all (rlGood rela) && rlGood rela l[i]) := by
  rw [List.take_succ_eq_append_getElem h, List.all_append]; simp
theorem all_badR (rela : Bool) (l : List Rl) (i : Nat) (h : i < l.length) (hb : rlGood rela l[i] = false) : l.all (rlGood rela) = false := by
  rw [List.all_eq_false]
  exact ⟨l[i], List.getElem_mem h, by rw [hb]; simp⟩
set_option maxHeartbeats 4000000 in
set_option maxRecDepth 20000 in
theorem ap_fit (w : World) (v : Value) (l : List Rl) (rela : Bool) (h : ArgR w v l) (hl : l.length ≤ 1000) :
    Calls Try.prog 21 #[v, .bool rela] w fun e w' => e = .returned (.bool (l.all (rlGood rela))) ∧ Below w.heap.size w w' := by
  obtain ⟨a, cap, rfl, p1, p2⟩ := h.form
  have HA := hide (fun W (hW : Below w.heap.size w W) => h.below hW)
  clear h
  go_enter Try.func21, Try.ntmps21
  go_wp2_with fail
  go_loopw [6, 9] (fun _ vi wr => ∃ i : Nat, i ≤ l.length ∧ vi = .int .i64 (i : Int) ∧ Hid ((l.take i).all (rlGood rela) = true) ∧ Hid (Below w.heap.size w wr)) (fun _ vi _ => l.length - (intOf vi).toNat)
  case atStart => exact ⟨0, by omega, rfl, by simp [Hid], Below.refl _ _⟩
  case round =>
    obtain ⟨i, hi, rfl, HT, HB⟩ := hrel
    by_cases hlt : i < l.length
    · have hltI : (i : Int) < (l.length : Int) := by omega
      obtain ⟨g1, o1, rfl, y0, y1, y2, y3, y4⟩ := (HA.out wr HB.out).at i hlt
      have HSN := hide (all_snoc rela l i hlt)
      have HBD := hide (all_badR rela l i hlt)
      have HB2 : Hid (∀ o, Below w.heap.size w (wr.alloc o)) := fun o => HB.out.trans ((below1 wr o).mono HB.out.size)
      have hi5 : (i : Int) ≤ 1000 := by omega
      generalize l[i] = p at *
      obtain ⟨n0, n1, n2, n3, b⟩ := p
      simp only at y0 y1 y2 y3 y4
      have HGO : Hid ((b = rela ∧ (rela = true ∨ n3 = 0)) → (l.take (i + 1)).all (rlGood rela) = true) := by
        rintro ⟨e1, e2⟩; rw [HSN.out, HT.out]; simp [rlGood, e1]; exact e2
      have HNO : Hid (¬ (b = rela ∧ (rela = true ∨ n3 = 0)) → l.all (rlGood rela) = false) := fun hh => HBD.out (by
        cases hc : rlGood rela ⟨n0, n1, n2, n3, b⟩ with
        | false => rfl
        | true => simp [rlGood] at hc; exact absurd hc hh)
      cases b with
      | true =>
        cases rela with
        | true =>
          have HT2 := hide (HGO.out ⟨rfl, .inl rfl⟩)
          go_wp2
          go_roundw
          case rel => exact ⟨i + 1, by omega, by go_num, HT2, HB2.out _⟩
          case measure => simp [intOf]; omega
        | false =>
          have HF := hide (HNO.out (by simp))
          go_wp2
          go_ret
          exact ⟨by rw [HF.out]; rfl, HB2.out _⟩
      | false =>
        cases rela with
        | true =>
          have HF := hide (HNO.out (by simp))
          go_wp2
          go_ret
          exact ⟨by rw [HF.out]; rfl, HB2.out _⟩
        | false =>
          by_cases h0 : n3 = 0
          · have d0 : (n3 != 0) = false := by simp [h0]
            have HT2 := hide (HGO.out ⟨rfl, .inr h0⟩)
            clear h0
            go_wp2
            go_roundw
            case rel => exact ⟨i + 1, by omega, by go_num, HT2, HB2.out _⟩
            case measure => simp [intOf]; omega
          · have d0 : (n3 == 0) = false := by simp [h0]
            have HF := hide (HNO.out (by simp [h0]))
            clear h0
            go_wp2
            go_ret
            exact ⟨by rw [HF.out]; rfl, HB2.out _⟩
    · have hltI : decide ((i : Int) < (l.length : Int)) = false := decide_eq_false (by omega)
      have hltN : decide (i < l.length) = false := decide_eq_false hlt
      have HF : Hid (l.all (rlGood rela) = true) := by have := HT.out; rw [List.take_of_length_le (by omega)] at this; exact this
      clear hlt
      go_wp2
      go_ret
      exact ⟨by rw [HF.out]; rfl, HB.out⟩
theorem sameR_is (a b : Rl) : sameR a b = (a.type == b.type && a.sym == b.sym) := rfl
set_option maxHeartbeats 4000000 in
set_option maxRecDepth 20000 in
theorem ap_alike (w : World) (v : Value) (r : Rl) (t : List Rl) (h : ArgR w v (r :: t)) (hl : (r :: t).length ≤ 1000) :
    Calls Try.prog 23 #[v] w fun e w' => e = .returned (.int .i64 (alikeN r (r :: t) : Nat)) ∧ Below w.heap.size w w' := by
  obtain ⟨a, cap, rfl, p1, p2⟩ := h.form
  have HA := hide (fun W (hW : Below w.heap.size w W) => h.below hW)
  have HIS := hide (fun n => alike_is r (r :: t) n)
  obtain ⟨g1, o1, hga, x0, x1, x2, x3, x4⟩ := h.at 0 (by simp)
  subst hga
  have HX := hide (fun W (hW : Below w.heap.size w W) => h.below hW)
  have HG : Hid (∀ W, Below w.heap.size w W → ∀ j (hj : j < (r :: t).length), W.cell? ⟨g1, o1 + j * 5, none⟩ = some (.int .u64 (r :: t)[j].pl) ∧ W.cell? ⟨g1, o1 + j * 5 + 1, none⟩ = some (.int .u32 (r :: t)[j].type) ∧
      W.cell? ⟨g1, o1 + j * 5 + 2, none⟩ = some (.int .u32 (r :: t)[j].sym) ∧ W.cell? ⟨g1, o1 + j * 5 + 3, none⟩ = some (.int .i64 (r :: t)[j].add) ∧ W.cell? ⟨g1, o1 + j * 5 + 4, none⟩ = some (.bool (r :: t)[j].has)) := fun W hW j hj => by
    obtain ⟨g2, o2, e, q⟩ := (h.below hW).at j hj
    injection e with e
    injection e with e1 e2
    subst e1 e2
    exact q
  have HGS : Hid (g1 < w.heap.size) := World.block_lt_of_cell? _ _ x0
  obtain ⟨L, hL⟩ : ∃ L, (r :: t).length = L := ⟨_, rfl⟩
  have h0L : 0 < L := by rw [← hL]; simp
  have HLE := hide hL
  rw [hL] at hl p1 ⊢
  clear h x0 x1 x2 x3 x4 hL HA HX
  go_enter Try.func23, Try.ntmps23
  go_wp2_with fail
  go_loopw [3, 4, 7] (fun _ _ vi wr => ∃ i : Nat, i ≤ L ∧ vi = .int .i64 (i : Int) ∧ Hid (∀ j (hj : j < (r :: t).length), j < i → sameR (r :: t)[j] r = true) ∧ Hid (Below w.heap.size w wr)) (fun _ _ vi _ => L - (intOf vi).toNat)
  case atStart => exact ⟨0, by omega, rfl, fun j _ hj => absurd hj (by omega), Below.refl _ _⟩
  case round =>
    obtain ⟨i, hi, rfl, HT, HB⟩ := hrel
    by_cases hlt : i < L
    · have hltI : (i : Int) < (L : Int) := by omega
      have h0I : (0 : Int) < (L : Int) := by omega
      have hil : i < (r :: t).length := by rw [HLE.out]; exact hlt
      obtain ⟨y0, y1, y2, y3, y4⟩ := HG.out wr HB.out i hil
      have HB2 : Hid (∀ o, Below w.heap.size w (wr.alloc o)) := fun o => HB.out.trans ((below1 wr o).mono HB.out.size)
      have HZ : Hid (∀ o, (wr.alloc o).cell? ⟨g1, o1 + 1, none⟩ = some (.int .u32 r.type) ∧ (wr.alloc o).cell? ⟨g1, o1 + 2, none⟩ = some (.int .u32 r.sym)) := fun o => by
        have := HG.out _ (HB2.out o) 0 (by rw [HLE.out]; omega)
        simp only [Nat.zero_mul, Nat.add_zero, List.getElem_cons_zero] at this
        exact ⟨this.2.1, this.2.2.1⟩
      have hi5 : (i : Int) ≤ 1000 := by omega
      have HNX : Hid (sameR (r :: t)[i] r = true → ∀ j (hj : j < (r :: t).length), j < i + 1 → sameR (r :: t)[j] r = true) := fun hs j hj hji => by
        by_cases e : j = i
        · subst e; exact hs
        · exact HT.out j hj (by omega)
      have HST : Hid (sameR (r :: t)[i] r = false → alikeN r (r :: t) = i) := fun hs => HIS.out i (by omega) (fun j hj hji => HT.out j hj hji) (fun _ => hs)
      have hS := sameR_is (r :: t)[i] r
      have HS := hide hS
      generalize (r :: t)[i] = p at *
      have hne : g1 ≠ wr.heap.size := by have := HGS.out; have := HB.out.size; omega
      have z1 := fun o => (HZ.out o).1
      have z2 := fun o => (HZ.out o).2
      obtain ⟨n0, n1, n2, n3, b⟩ := p
      obtain ⟨q0, q1, q2, q3, c⟩ := r
      simp only at y0 y1 y2 y3 y4 z1 z2 hS
      clear hS HG HIS HLE
      by_cases c1 : n1 = q1
      · subst c1
        by_cases c2 : n2 = q2
        · subst c2
          have d1 : ((n1 : Int) != (n1 : Int)) = false := by simp
          have d2 : ((n2 : Int) != (n2 : Int)) = false := by simp
          have HT2 := hide (HNX.out (by simp [sameR]))
          go_wp2_with fail
          go_quiet (fail)
          go_wp2
          go_roundw
          case rel => exact ⟨i + 1, by omega, by go_num, HT2, by first | exact bel_drewN (HB2.out _) _ | exact (HB2.out _).drew⟩
          case measure => simp [intOf]; omega
        · have d1 : ((n1 : Int) != (n1 : Int)) = false := by simp
          have d2 : ((n2 : Int) == (q2 : Int)) = false := by simp; omega
          have HF := hide (HST.out (by simp [sameR, c2]))
          clear c2
          go_wp2_with fail
          go_quiet (fail)
          go_wp2
          go_ret
          exact ⟨by rw [HF.out]; rfl, by first | exact bel_drewN (HB2.out _) _ | exact (HB2.out _).drew⟩
      · have d1 : ((n1 : Int) != (q1 : Int)) = true := by simp; omega
        have HF := hide (HST.out (by simp [sameR, c1]))
        clear c1
        go_wp2_with fail
        go_quiet (fail)
        go_wp2
        go_ret
        exact ⟨by rw [HF.out]; rfl, by first | exact bel_drewN (HB2.out _) _ | exact (HB2.out _).drew⟩
    · have hltI : decide ((i : Int) < (L : Int)) = false := decide_eq_false (by omega)
      have hltN : decide (i < L) = false := decide_eq_false hlt
      have HF := hide (HIS.out L (by rw [HLE.out]; omega) (fun j hj _ => HT.out j hj (by rw [HLE.out] at hj; omega)) (fun h => absurd h (by rw [HLE.out]; omega)))
      clear hlt
      go_wp2
      go_ret
      exact ⟨by rw [HF.out]; rfl, HB.out⟩
end Go.Proofs.Ytiicmakeoidiaaa
