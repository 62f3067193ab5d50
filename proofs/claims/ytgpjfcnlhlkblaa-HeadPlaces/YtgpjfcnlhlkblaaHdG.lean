
/-
  Layer 8 (head): which headers are of a type, and whether parts may be.
-/
import Derived.Test.YtgpjfcnlhlkblaaHdF
set_option linter.unusedVariables false
namespace Go.Proofs.Ytgpjfcnlhlkblaa
open Go.RowKit Go.PlainAid
theorem ofT_len (ps : List Ph) (k : Nat) : (ofT ps k).length ≤ ps.length := List.length_filter_le _ _
set_option maxHeartbeats 4000000 in
theorem head_ofType (w : World) (v : Value) (ps : List Ph) (h : ArgH w v ps) (ok : ∀ p ∈ ps, p.ok) (k : Nat) (hk : k < 4294967296) :
    Calls Try.prog 36 #[v, .int .u32 k] w fun e w' => (∃ v', e = .returned v' ∧ OwnH w' w.heap.size v' (ofT ps k)) ∧ Below w.heap.size w w' := by
  have HA := hide h
  have hl := h.1
  obtain ⟨a, cap, rfl⟩ := h.form
  obtain ⟨O, hO⟩ : ∃ O, ofT ps k = O := ⟨_, rfl⟩
  have HO : Hid ([] ++ ofT (ps.drop 0) k = O) := hO
  rw [hO]
  clear h hO ok
  go_enter Try.func36, Try.ntmps36
  go_wp2
  go_loopw [5, 7, 10] (fun v5 _ vi wr => ∃ (i : Nat) (acc : List Ph), i ≤ ps.length ∧ vi = .int .i64 i ∧ Hid (acc.length ≤ i) ∧ Hid (OwnH wr w.heap.size v5 acc) ∧ Hid (Below w.heap.size w wr) ∧ Hid (acc ++ ofT (ps.drop i) k = O)) (fun _ _ vi _ => ps.length - (intOf vi).toNat)
  case atStart => exact ⟨0, [], by omega, rfl, Nat.le_refl _, OwnH.nil _ _, Below.refl _ _, HO⟩
  case round =>
    obtain ⟨i, acc, hi, rfl, HAC, HOW, HW, HF⟩ := hrel
    by_cases hlt : i < ps.length
    · have hltI : (i : Int) < (ps.length : Int) := by omega
      obtain ⟨g, rfl, hc1, hc2, hg, y0, y1, y2, y3, y4, y5, y6⟩ := (HA.out.below HW.out).at i hlt
      have hF := HF.out
      rw [List.drop_eq_getElem_cons hlt] at hF
      unfold ofT at hF
      rw [List.filter_cons] at hF
      clear HF
      generalize ps[i] = p at *
      obtain ⟨ty, fl, off, va, fs, ms, al⟩ := p
      simp only at y0 y1 y2 y3 y4 y5 y6 hF
      have HB1 : Hid (Below w.heap.size w (wr.alloc (.cells #[.int .u32 ty, .int .u32 fl, .int .u64 off, .int .u64 va, .int .u64 fs, .int .u64 ms, .int .u64 al] 32))) := HW.out.alloc HW.out.size _
      have HOW1 := hide (OwnH.stay HOW.out ((Below.refl _ _).alloc (Nat.le_refl _) (.cells #[.int .u32 ty, .int .u32 fl, .int .u64 off, .int .u64 va, .int .u64 fs, .int .u64 ms, .int .u64 al] 32)))
      by_cases ct : ty = k
      · subst ct
        rw [if_pos (by simp)] at hF
        have HF : Hid ((acc ++ [⟨ty, fl, off, va, fs, ms, al⟩]) ++ ofT (ps.drop (i + 1)) ty = O) := by rw [Hid, ← hF, List.append_assoc]; rfl
        have bt : ((ty : Int) == (ty : Int)) = true := by simp
        clear hF
        go_wp2_with (at_builtin; refine append_ph rfl _ _ rfl w.heap.size (wr.alloc (.cells #[.int .u32 ty, .int .u32 fl, .int .u64 off, .int .u64 va, .int .u64 fs, .int .u64 ms, .int .u64 al] 32)) _ acc HOW1.out ⟨ty, fl, off, va, fs, ms, al⟩ rfl _ (by simp) rfl (by have := HAC.out; omega) HB1.out.size ?_)
        intro v' w3 h1 h2
        have HB3 : Hid (Below w.heap.size w w3) := HB1.out.trans h2
        have HOW3 := hide h1
        clear h1 h2 HOW1 HB1
        go_wp2
        go_roundw
        case rel => exact ⟨i + 1, acc ++ [⟨ty, fl, off, va, fs, ms, al⟩], by omega, by go_num, by have := HAC.out; rw [Hid, List.length_append]; simp; omega, HOW3, HB3, HF⟩
        case measure => simp [intOf]; omega
      · rw [if_neg (by simpa using ct)] at hF
        have HF : Hid (acc ++ ofT (ps.drop (i + 1)) k = O) := hF
        have bt : ((ty : Int) == (k : Int)) = false := by simp; omega
        clear hF ct
        go_wp2
        go_roundw
        case rel => exact ⟨i + 1, acc, by omega, by go_num, by have := HAC.out; rw [Hid]; omega, HOW1, HB1, HF⟩
        case measure => simp [intOf]; omega
    · have hltI : ¬ (i : Int) < (ps.length : Int) := by omega
      have he : i = ps.length := by omega
      subst he
      have hF := HF.out
      rw [List.drop_length, show ofT [] k = [] from rfl, List.append_nil] at hF
      subst hF
      clear HF
      go_wp2
      go_ret
      exact ⟨⟨_, rfl, HOW.out⟩, HW.out⟩
set_option maxHeartbeats 4000000 in
theorem head_loadsRight (w : World) (v : Value) (ps : List Ph) (h : ArgH w v ps) (ok : ∀ p ∈ ps, p.ok) (size : Nat) (hs : size ≤ 140737488351232) :
    Calls Try.prog 37 #[v, .int .u64 size] w fun e w' => e = .returned (.bool (loadsOk ps size)) ∧ Below w.heap.size w w' := by
  have HA := hide h
  have hl := h.1
  have HK := hide ok
  obtain ⟨a, cap, rfl⟩ := h.form
  obtain ⟨O, hO⟩ : ∃ O, loadsOk ps size = O := ⟨_, rfl⟩
  have HO : Hid ((loadsFrom size (decide (0 = 0)) 0 (ps.drop 0) && !decide (ps = [])) = O) := hO
  rw [hO]
  clear h hO ok
  go_enter Try.func37, Try.ntmps37
  go_wp2
  go_loopw [5, 6, 7, 10] (fun v5 _ _ vi wr => ∃ (i E : Nat), i ≤ ps.length ∧ vi = .int .i64 i ∧ v5 = .int .u64 E ∧ E < 18446744073709551616 ∧ Hid (Below w.heap.size w wr) ∧ Hid ((loadsFrom size (decide (i = 0)) E (ps.drop i) && !decide (ps = [])) = O)) (fun _ _ _ vi _ => ps.length - (intOf vi).toNat)
  case atStart => exact ⟨0, 0, by omega, rfl, rfl, by omega, Below.refl _ _, HO⟩
  case round =>
    obtain ⟨i, E, hi, rfl, rfl, hE, HW, HF⟩ := hrel
    by_cases hlt : i < ps.length
    · have hltI : (i : Int) < (ps.length : Int) := by omega
      obtain ⟨g, rfl, hc1, hc2, hg, y0, y1, y2, y3, y4, y5, y6⟩ := (HA.out.below HW.out).at i hlt
      have hF := HF.out
      have hok := HK.out ps[i] (List.getElem_mem hlt)
      rw [List.drop_eq_getElem_cons hlt, loadsFrom] at hF
      clear HF
      generalize ps[i] = p at *
      have hP := head_partRight (wr.alloc (.cells p.cells.toArray 32)) p hok size hs
      have HEn := hide (fun W => head_End W p hok)
      have hEl := endN_le p
      have hva := hok.vaddr
      generalize partOk p size = b at *
      obtain ⟨EN, hEN⟩ : ∃ EN, endN p = EN := ⟨_, rfl⟩
      rw [hEN] at HEn hEl hF
      clear hEN hok
      obtain ⟨ty, fl, off, va, fs, ms, al⟩ := p
      simp only [Ph.cells] at y0 y1 y2 y3 y4 y5 y6 hF hP HEn hva
      have HB1 : Hid (Below w.heap.size w (wr.alloc (.cells #[.int .u32 ty, .int .u32 fl, .int .u64 off, .int .u64 va, .int .u64 fs, .int .u64 ms, .int .u64 al] 32))) := HW.out.alloc HW.out.size _
      have z3 : (wr.alloc (.cells #[.int .u32 ty, .int .u32 fl, .int .u64 off, .int .u64 va, .int .u64 fs, .int .u64 ms, .int .u64 al] 32)).cell? ⟨wr.heap.size, 3, none⟩ = some (.int .u64 va) := by simp
      have zz := fun (w1 : World) (hb : Below (wr.alloc (.cells #[.int .u32 ty, .int .u32 fl, .int .u64 off, .int .u64 va, .int .u64 fs, .int .u64 ms, .int .u64 al] 32)).heap.size (wr.alloc (.cells #[.int .u32 ty, .int .u32 fl, .int .u64 off, .int .u64 va, .int .u64 fs, .int .u64 ms, .int .u64 al] 32)) w1) (k : Nat) =>
        hb.cell (p := ⟨wr.heap.size, k, none⟩) (by simp)
      have HZ := hide zz
      clear zz z3
      cases b with
      | false =>
        rw [if_neg (fun e => by simp at e)] at hF
        have HF := hide hF
        clear hF
        go_wp2_with fail
        refine hP.mono ?_
        rintro e w1 ⟨rfl, hb1⟩
        have HB2 : Hid (Below w.heap.size w w1) := HB1.out.trans (hb1.mono HB1.out.size)
        clear hb1 hP
        go_wp2
        go_ret
        exact ⟨by rw [← HF.out]; rfl, HB2.out⟩
      | true =>
        go_wp2_with fail
        refine hP.mono ?_
        rintro e w1 ⟨rfl, hb1⟩
        have HB2 : Hid (Below w.heap.size w w1) := HB1.out.trans (hb1.mono HB1.out.size)
        have z0 := HZ.out w1 hb1 0
        have z1 := HZ.out w1 hb1 1
        have z2 := HZ.out w1 hb1 2
        have z3 := HZ.out w1 hb1 3
        have z4 := HZ.out w1 hb1 4
        have z5 := HZ.out w1 hb1 5
        have z6 := HZ.out w1 hb1 6
        simp at z0 z1 z2 z3 z4 z5 z6
        clear hb1 hP HZ HB1
        by_cases c1 : va < E
        · rw [if_neg (fun e => e.2.1 c1)] at hF
          have HF := hide hF
          clear hF
          go_wp2
          go_ret
          exact ⟨by rw [← HF.out]; rfl, HB2.out⟩
        · have d1 : decide (va < E) = false := decide_eq_false c1
          by_cases c2 : i = 0 ∧ va ≠ 0
          · obtain ⟨rfl, c3⟩ := c2
            rw [if_neg (fun e => e.2.2 ⟨by simp, c3⟩)] at hF
            have HF := hide hF
            have d3 : ((va : Int) != 0) = true := by simp; omega
            clear hF c3 c1
            go_wp2
            go_ret
            exact ⟨by rw [← HF.out]; rfl, HB2.out⟩
          · rw [if_pos ⟨trivial, c1, fun e => c2 ⟨by simpa using e.1, e.2⟩⟩] at hF
            have HF : Hid ((loadsFrom size (decide (i + 1 = 0)) EN (ps.drop (i + 1)) && !decide (ps = [])) = O) := by rw [Hid, show decide (i + 1 = 0) = false by simp]; exact hF
            have hEn := HEn.out w1
            clear hF c1
            by_cases ci : i = 0
            · subst ci
              obtain rfl : va = 0 := by
                by_cases c : va = 0
                · exact c
                · exact absurd ⟨rfl, c⟩ c2
              clear c2
              go_wp2_with fail
              refine hEn.mono ?_
              rintro e w2 ⟨rfl, hb2⟩
              have HB3 : Hid (Below w.heap.size w w2) := HB2.out.trans (hb2.mono HB2.out.size)
              clear hb2 hEn
              go_wp2
              go_roundw
              case rel => exact ⟨1, EN, by omega, by go_num, rfl, by omega, HB3, HF⟩
              case measure => simp [intOf]; omega
            · have di : ((i : Int) == 0) = false := by simp; omega
              clear c2
              go_wp2_with fail
              refine hEn.mono ?_
              rintro e w2 ⟨rfl, hb2⟩
              have HB3 : Hid (Below w.heap.size w w2) := HB2.out.trans (hb2.mono HB2.out.size)
              clear hb2 hEn
              go_wp2
              go_roundw
              case rel => exact ⟨i + 1, EN, by omega, by go_num, rfl, by omega, HB3, HF⟩
              case measure => simp [intOf]; omega
    · have hltI : ¬ (i : Int) < (ps.length : Int) := by omega
      have he : i = ps.length := by omega
      subst he
      have hF := HF.out
      rw [List.drop_length, show ∀ b e, loadsFrom size b e [] = true from fun _ _ => rfl, Bool.true_and] at hF
      have hb : ((ps.length : Int) != 0) = !decide (ps = []) := by
        cases ps with
        | nil => rfl
        | cons p t => simp; omega
      rw [hF] at hb
      clear HF hF
      go_wp2
      go_ret
      exact ⟨rfl, HW.out⟩
set_option maxHeartbeats 4000000 in
theorem head_dynamicRight (w : World) (m : Nat) (v : Value) (d r : Ph) (ps : List Ph) (h : ArgH w v ps) (ok : ∀ p ∈ ps, p.ok) (x : Ph) (hx : x.ok) :
    Calls Try.prog 38 #[.agg (hdCells m v d r).toArray, .agg x.cells.toArray] w fun e w' => e = .returned (.bool (dynOk ps x)) ∧ Below w.heap.size w w' := by
  have HB : Hid (Below w.heap.size w ((w.alloc (.cells (hdCells m v d r).toArray 37)).alloc (.cells x.cells.toArray 32))) := ((Below.refl _ w).alloc (Nat.le_refl _) _).alloc (by simp) _
  have hOf := head_Off _ m v d r ps (h.below HB.out) ok x.vaddr x.filesz hx.vaddr hx.filesz
  obtain ⟨a2, cap2, rfl⟩ := h.form
  have h1 := hx.vaddr
  have h2 := hx.filesz
  unfold dynOk
  generalize offN ps x.vaddr x.filesz = y at *
  obtain ⟨o, b⟩ := y
  obtain ⟨ty, fl, off, va, fs, ms, al⟩ := x
  clear h ok hx
  unfold hdCells at *
  simp only [Ph.cells, offV] at *
  have HZ := hide (fun (w1 : World) (hb : Below ((w.alloc (.cells (hdCells m (.slice a2 ps.length cap2) d r).toArray 37)).alloc (.cells (Ph.cells ⟨ty, fl, off, va, fs, ms, al⟩).toArray 32)).heap.size ((w.alloc (.cells (hdCells m (.slice a2 ps.length cap2) d r).toArray 37)).alloc (.cells (Ph.cells ⟨ty, fl, off, va, fs, ms, al⟩).toArray 32)) w1) (k : Nat) (hk : k < 7) =>
        hb.cell (p := ⟨w.heap.size + 1, k, none⟩) (by simp))
  have m1 : ((fs : Int) != 0) = !decide (fs = 0) := by
    by_cases c : fs = 0
    · rw [decide_eq_true c]; simp; omega
    · rw [decide_eq_false c]; simp; omega
  have m2 : ((va : Int) % 8 == 0) = decide (va % 8 = 0) := by
    by_cases c : va % 8 = 0
    · rw [decide_eq_true c]; simp; omega
    · rw [decide_eq_false c]; simp; omega
  generalize decide (fs = 0) = b1 at *
  generalize decide (va % 8 = 0) = b2 at *
  go_enter Try.func38, Try.ntmps38
  go_wp2_with fail
  refine hOf.mono ?_
  rintro e w1 ⟨rfl, hb1⟩
  have HB1 : Hid (Below w.heap.size w w1) := HB.out.trans (hb1.mono HB.out.size)
  have z3 := HZ.out w1 hb1 3 (by omega)
  have z4 := HZ.out w1 hb1 4 (by omega)
  have ec : ∀ k, ((w.alloc (.cells (hdCells m (.slice a2 ps.length cap2) d r).toArray 37)).alloc (.cells (Ph.cells ⟨ty, fl, off, va, fs, ms, al⟩).toArray 32)).cell? ⟨w.heap.size + 1, k, none⟩ = (Ph.cells ⟨ty, fl, off, va, fs, ms, al⟩)[k]? := fun k => by
    unfold World.cell?
    rw [show w.heap.size + 1 = (w.alloc (.cells (hdCells m (.slice a2 ps.length cap2) d r).toArray 37)).heap.size by simp, heap_alloc_new]
    simp
  rw [ec 3] at z3
  rw [ec 4] at z4
  simp only [Ph.cells] at z3 z4
  have z3' : w1.cell? ⟨w.heap.size + 1, 3, none⟩ = some (.int .u64 va) := z3
  have z4' : w1.cell? ⟨w.heap.size + 1, 4, none⟩ = some (.int .u64 fs) := z4
  clear hb1 hOf HZ z3 z4 ec
  cases b with
  | false =>
    go_wp2
    go_ret
    exact ⟨rfl, HB1.out⟩
  | true =>
    cases b1 with
    | true =>
      go_wp2
      go_ret
      exact ⟨rfl, HB1.out⟩
    | false =>
      go_wp2
      go_ret
      exact ⟨by simp, HB1.out⟩
end Go.Proofs.Ytgpjfcnlhlkblaa
