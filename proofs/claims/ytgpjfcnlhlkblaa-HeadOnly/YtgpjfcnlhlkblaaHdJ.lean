
/-
  Layer 8 (head): what the headers of a library say: Parse keeps its contract.
-/
import Derived.Test.YtgpjfcnlhlkblaaHdI
set_option linter.unusedVariables false
namespace Go.Proofs.Ytgpjfcnlhlkblaa
open Go.RowKit Go.PlainAid Go.Sort
set_option maxHeartbeats 4000000 in
set_option maxRecDepth 20000 in
theorem head_Parse (w : World) (v : Value) (l : List UInt8) (h : Arg w v l) (hl : l.length ≤ 140737488351232) :
    Calls Try.prog 12 #[v] w fun e w' => ParseIs w' w.heap.size (parseZ l) e ∧ Below w.heap.size w w' := by
  have HB0 : Hid (Below w.heap.size w (w.alloc (.cells zeroHd.toArray 37))) := (Below.refl _ w).alloc (Nat.le_refl _) _
  have HG0 : Hid ((w.alloc (.cells zeroHd.toArray 37)).heap[w.heap.size]? = some (.cells zeroHd.toArray 37 (0, 0))) := heap_alloc_new _ _
  have HA := hide (h.below' HB0.out)
  have hT := head_Table _ _ l HA.out hl
  obtain ⟨a, cap, rfl, _⟩ := h.isSlice
  obtain ⟨O, hO⟩ : ∃ O, parseZ l = O := ⟨_, rfl⟩
  rw [hO]
  unfold parseZ at hO
  have HO := hide hO
  clear h hO
  simp only [zeroHd, hdCells, noPh] at HB0 HG0 HA hT
  go_enter Try.func12, Try.ntmps12
  go_wp2_with fail
  refine hT.mono ?_
  rintro e w1 ⟨hE, hb1⟩
  have HB1 : Hid (Below w.heap.size w w1) := HB0.out.trans (hb1.mono HB0.out.size)
  have HG1 := hide (block_stay HG0.out hb1)
  have HA1 := hide (HA.out.below' hb1)
  have HSz : Hid (w.heap.size < w1.heap.size) := Nat.lt_of_lt_of_le (by simp) hb1.size
  clear hT hb1 HG0 HB0 HA
  cases hTZ : tableZ l with
  | error n =>
    rw [hTZ] at hE
    have hO := HO.out
    rw [hTZ] at hO
    subst hO
    have hE' : e = _ := hE
    subst hE'
    clear HO
    have hn : ((n : Int) != 0) = true := by
      have : n ≠ 0 := by
        intro e
        subst e
        unfold tableZ at hTZ
        split at hTZ
        · injection hTZ; contradiction
        · split at hTZ
          · cases hTZ
          · cases hTZ
      simp; omega
    clear hE hTZ
    go_wp2_with (first
      | (refine build_eq rfl _ _ rfl (.agg zeroHd.toArray) (by kernel_rfl) ?_)
      | (refine store_part rfl _ _ _ rfl w.heap.size 0 37 _ zeroHd zeroHd.toArray HG1.out rfl rfl hd_size (hd_one _ _ _ _ _ _) (by decide) (by rfl) ?_))
    intro w2 hg2 hb2
    have HB2 := hide (grown_below (Nat.le_refl _) HB1.out hb2)
    have HG2 := hide hg2
    clear hg2 hb2
    go_wp2
    refine bodyPost_ret (results_cell2 rfl _ _ w.heap.size _ _ _ _ rfl HG2.out Try.underlying37 rfl (by kernel_rfl)) rfl ?_
    exact ⟨rfl, HB2.out⟩
  | ok all =>
    rw [hTZ] at hE
    have hO := HO.out
    clear HO
    rw [hTZ] at hO
    obtain ⟨v1, rfl, hown⟩ := hE
    obtain ⟨hok, hlen⟩ := tab_ok hTZ
    have HOK := hide hok
    have HLN := hide hlen
    have HV1 := hide (hown.arg (by omega))
    have HS1 := HSz
    clear HSz
    obtain ⟨a1, c1, rfl⟩ := HV1.out.form
    have h18 := head_two w1 _ l HA1.out 18 (by omega)
    have hT1 := head_ofType w1 _ all HV1.out hok 1 (by omega)
    have HO := hide hO
    have hmI := rd2 l 18
    generalize rd l 18 2 = m at *
    clear hown hok hTZ hO
    have HS : Hid (w.heap.size < w1.heap.size) := HS1
    go_wp2_with fail
    refine h18.mono ?_
    rintro e w2 ⟨rfl, rfl⟩
    go_wp2_with fail
    refine hT1.mono ?_
    rintro e w2 ⟨⟨v2, rfl, hown2⟩, hb2⟩
    have HLs := hide hown2
    have HB2 : Hid (Below w.heap.size w w2) := HB1.out.trans (hb2.mono HB1.out.size)
    have HG2 := hide (block_stay HG1.out hb2)
    have HV2 := hide (HV1.out.below hb2)
    have hL2 := hown2.arg (Nat.le_trans (ofT_len _ _) (by have := HLN.out; omega))
    obtain ⟨a2, c2, rfl⟩ := hL2.form
    have HL2 := hide hL2
    have HOL := hide (ofT_ok HOK.out 1)
    clear h18 hT1 HB1 HG1 HA1 HV1 hown2 hL2 hb2 hlen HS1
    have hO := HO.out
    clear HO
    unfold headsOf at hO
    have HO := hide hO
    clear hO
    generalize ofT all 1 = ls at *
    go_wp2_with (refine build_eq rfl _ _ rfl (.agg #[.int .u16 m, .slice a2 ls.length c2, .int .u32 0, .int .u32 0, .int .u64 0, .int .u64 0, .int .u64 0, .int .u64 0, .int .u64 0, .int .u32 0, .int .u32 0, .int .u64 0, .int .u64 0, .int .u64 0, .int .u64 0, .int .u64 0]) (by kernel_rfl) ?_)
    have HC : Hid (Below w2.heap.size w2 (w2.alloc (.cells #[.int .u16 m, .slice a2 ls.length c2, .int .u32 0, .int .u32 0, .int .u64 0, .int .u64 0, .int .u64 0, .int .u64 0, .int .u64 0, .int .u32 0, .int .u32 0, .int .u64 0, .int .u64 0, .int .u64 0, .int .u64 0, .int .u64 0] 37))) := (Below.refl _ _).alloc (Nat.le_refl _) _
    have HH : Hid ((w2.alloc (.cells #[.int .u16 m, .slice a2 ls.length c2, .int .u32 0, .int .u32 0, .int .u64 0, .int .u64 0, .int .u64 0, .int .u64 0, .int .u64 0, .int .u32 0, .int .u32 0, .int .u64 0, .int .u64 0, .int .u64 0, .int .u64 0, .int .u64 0] 37)).heap[w2.heap.size]? = some (.cells #[.int .u16 m, .slice a2 ls.length c2, .int .u32 0, .int .u32 0, .int .u64 0, .int .u64 0, .int .u64 0, .int .u64 0, .int .u64 0, .int .u32 0, .int .u32 0, .int .u64 0, .int .u64 0, .int .u64 0, .int .u64 0, .int .u64 0] 37 (0, 0))) := heap_alloc_new _ _
    have hLR := head_loadsRight _ _ ls (HL2.out.below HC.out) HOL.out l.length (by omega)
    generalize w2.alloc (.cells #[.int .u16 m, .slice a2 ls.length c2, .int .u32 0, .int .u32 0, .int .u64 0, .int .u64 0, .int .u64 0, .int .u64 0, .int .u64 0, .int .u32 0, .int .u32 0, .int .u64 0, .int .u64 0, .int .u64 0, .int .u64 0, .int .u64 0] 37) = w3 at *
    refine hLR.mono ?_
    rintro e w4 ⟨rfl, hb4⟩
    have HC4 : Hid (Below w2.heap.size w2 w4) := HC.out.trans (hb4.mono HC.out.size)
    have HH4 := hide (block_stay HH.out hb4)
    have HLE := hide (fun h => loadsOk_end (ps := ls) (size := l.length) h)
    clear HC HH hb4 hLR
    have HC := HC4
    have HH := HH4
    clear HC4 HH4
    generalize loadsOk ls l.length = b at *
    cases b with
    | false =>
      have hO := HO.out
      clear HO
      rw [if_neg (by simp)] at hO
      have HO := hide hO
      clear hO HLE
      have HGz := hide (block_stay HG2.out HC.out)
      have HBz := hide (HB2.out.trans (HC.out.mono HB2.out.size))
      go_wp2_with (first
            | (refine build_eq rfl _ _ rfl (.agg zeroHd.toArray) (by kernel_rfl) ?_)
            | (refine store_part rfl _ _ _ rfl w.heap.size 0 37 _ zeroHd zeroHd.toArray HGz.out rfl rfl hd_size (hd_one _ _ _ _ _ _) (by decide) (by rfl) ?_))
      intro wz hgz hbz
      have HBy := hide (grown_below (Nat.le_refl _) HBz.out hbz)
      have HGy := hide hgz
      clear hgz hbz
      go_wp2
      refine bodyPost_ret (results_cell2 rfl _ _ w.heap.size _ _ _ _ rfl HGy.out Try.underlying37 rfl (by kernel_rfl)) rfl ?_
      exact ⟨by rw [← HO.out]; rfl, HBy.out⟩
    | true =>
      have HE := hide (HLE.out rfl)
      have hO := HO.out
      clear HO
      rw [if_pos rfl] at hO
      have HO := hide hO
      have hT2 := head_ofType w4 _ all (HV2.out.below HC.out) HOK.out 2 (by omega)
      clear hO HLE
      go_wp2_with fail
      refine hT2.mono ?_
      rintro e w5 ⟨⟨v5, rfl, hown5⟩, hb5⟩
      have hD5 := hown5.arg (Nat.le_trans (ofT_len _ _) (by have := HLN.out; omega))
      have HOD := hide (ofT_ok HOK.out 2)
      have hdl : (ofT all 2).length ≤ 16 := Nat.le_trans (ofT_len _ _) HLN.out
      obtain ⟨a5, c5, rfl⟩ := hD5.form
      have HD5 := hide hD5
      have HC5 : Hid (Below w2.heap.size w2 w5) := HC.out.trans (hb5.mono HC.out.size)
      have HH5 := hide (block_stay HH.out hb5)
      clear hT2 HC HH hb5 hown5 hD5
      have HC := HC5
      have HH := HH5
      clear HC5 HH5
      generalize ofT all 2 = ds at *
      by_cases cd : ds.length = 1
      rotate_left
      · have bd : ((ds.length : Int) != 1) = true := by simp; omega
        have HO2 : Hid (Except.error 86 = O) := by
          rw [Hid, ← HO.out]
          match ds, cd with
          | [], _ => rfl
          | [x], cd => exact absurd rfl cd
          | _ :: _ :: _, _ => rfl
        clear HO cd HD5 HOD
        have HO := HO2
        clear HO2
        go_wp2_with fail
        try simp only [List.append_eq, List.cons_append, List.nil_append]
        refine wp_region_quiet_below (by kernel_rfl) (by kernel_rfl) ?_
        repeat (go_big_quiet_step (fail))
        refine wpQuiet_nil ?_
        intro _ hwq
        obtain ⟨⟨dq, osq⟩, hwq2⟩ := hwq
        subst hwq2
        have HC6 : Hid (Below w2.heap.size w2 (grow (redrawn w5 dq) osq)) := HC.out.trans ((below_regrown _ dq osq).mono HC.out.size)
        clear HC HH
        have HC := HC6
        clear HC6
        generalize grow _ _ = w6 at *
        have HGz := hide (block_stay HG2.out HC.out)
        have HBz := hide (HB2.out.trans (HC.out.mono HB2.out.size))
        go_wp2_with (first
              | (refine build_eq rfl _ _ rfl (.agg zeroHd.toArray) (by kernel_rfl) ?_)
              | (refine store_part rfl _ _ _ rfl w.heap.size 0 37 _ zeroHd zeroHd.toArray HGz.out rfl rfl hd_size (hd_one _ _ _ _ _ _) (by decide) (by rfl) ?_))
        intro wz hgz hbz
        have HBy := hide (grown_below (Nat.le_refl _) HBz.out hbz)
        have HGy := hide hgz
        clear hgz hbz
        go_wp2
        refine bodyPost_ret (results_cell2 rfl _ _ w.heap.size _ _ _ _ rfl HGy.out Try.underlying37 rfl (by kernel_rfl)) rfl ?_
        exact ⟨by rw [← HO.out]; rfl, HBy.out⟩
      obtain ⟨d0, rfl⟩ : ∃ d0, ds = [d0] := List.length_eq_one_iff.1 cd
      clear cd hdl
      have hok0 := HOD.out d0 (by simp)
      have hD := HD5.out
      simp only [List.length_cons, List.length_nil, Nat.zero_add] at hD
      obtain ⟨g5, rfl, hc51, hc52, hg5, y0, y1, y2, y3, y4, y5, y6⟩ := hD.at 0 (by simp)
      simp only [List.getElem_cons_zero, Nat.zero_mul, Nat.zero_add] at y0 y1 y2 y3 y4 y5 y6
      have HDy := hide (fun d os => head_dynamicRight (grow (redrawn w5 d) os) m (.slice a2 ls.length c2) noPh noPh ls ((HL2.out.below HC.out).below (below_regrown _ d os)) HOL.out d0 hok0)
      have hO := HO.out
      clear HO
      unfold heads1 at hO
      have HO := hide hO
      clear hO hD HD5 HOD
      simp only [hdCells, noPh] at HDy
      generalize hbd : dynOk ls d0 = bd at *
      have HYY := hide (⟨y0, y1, y2, y3, y4, y5, y6⟩ : _ ∧ _ ∧ _ ∧ _ ∧ _ ∧ _ ∧ _)
      obtain ⟨ty, fl, off, va, fs, ms, al⟩ := d0
      simp only [Ph.cells, List.length_cons, List.length_nil, Nat.zero_add] at HDy HYY y0 y1 y2 y3 y4 y5 y6 hc51 ⊢
      go_wp2_with fail
      try simp only [List.append_eq, List.cons_append, List.nil_append]
      refine wp_region_quiet_below (by kernel_rfl) (by kernel_rfl) ?_
      have x0 := cell_regrown (cells_of_block HH.out 0 _ rfl)
      have x1 := cell_regrown (cells_of_block HH.out 1 _ rfl)
      have x2 := cell_regrown (cells_of_block HH.out 2 _ rfl)
      have x3 := cell_regrown (cells_of_block HH.out 3 _ rfl)
      have x4 := cell_regrown (cells_of_block HH.out 4 _ rfl)
      have x5 := cell_regrown (cells_of_block HH.out 5 _ rfl)
      have x6 := cell_regrown (cells_of_block HH.out 6 _ rfl)
      have x7 := cell_regrown (cells_of_block HH.out 7 _ rfl)
      have x8 := cell_regrown (cells_of_block HH.out 8 _ rfl)
      have x9 := cell_regrown (cells_of_block HH.out 9 _ rfl)
      have x10 := cell_regrown (cells_of_block HH.out 10 _ rfl)
      have x11 := cell_regrown (cells_of_block HH.out 11 _ rfl)
      have x12 := cell_regrown (cells_of_block HH.out 12 _ rfl)
      have x13 := cell_regrown (cells_of_block HH.out 13 _ rfl)
      have x14 := cell_regrown (cells_of_block HH.out 14 _ rfl)
      have x15 := cell_regrown (cells_of_block HH.out 15 _ rfl)
      have z0 := cell_regrown y0
      have z1 := cell_regrown y1
      have z2 := cell_regrown y2
      have z3 := cell_regrown y3
      have z4 := cell_regrown y4
      have z5 := cell_regrown y5
      have z6 := cell_regrown y6
      repeat (go_big_quiet_step (exact Calls.regrown_of (HDy.out _ _)))
      refine wpQuiet_nil ?_
      intro _ hwq
      obtain ⟨⟨dq, osq⟩, hwq2⟩ := hwq
      subst hwq2
      have HC6 : Hid (Below w2.heap.size w2 (grow (redrawn w5 dq) osq)) := HC.out.trans ((below_regrown _ dq osq).mono HC.out.size)
      have HH6 := hide (block_stay HH.out (below_regrown _ dq osq))
      have u0 := z0 dq osq
      have u1 := z1 dq osq
      have u2 := z2 dq osq
      have u3 := z3 dq osq
      have u4 := z4 dq osq
      have u5 := z5 dq osq
      have u6 := z6 dq osq
      clear HC HH HDy HYY y0 y1 y2 y3 y4 y5 y6
      clear x0 x1 x2 x3 x4 x5 x6 x7 x8 x9 x10 x11 x12 x13 x14 x15 z0 z1 z2 z3 z4 z5 z6
      have HC := HC6
      have HH := HH6
      clear HC6 HH6
      generalize grow _ _ = w6 at *
      cases bd with
      | false =>
        have hO := HO.out
        clear HO
        simp only [hbd] at hO
        rw [if_neg (by simp)] at hO
        have HO := hide hO
        clear hO hbd
        have HGz := hide (block_stay HG2.out HC.out)
        have HBz := hide (HB2.out.trans (HC.out.mono HB2.out.size))
        go_wp2_with (first
              | (refine build_eq rfl _ _ rfl (.agg zeroHd.toArray) (by kernel_rfl) ?_)
              | (refine store_part rfl _ _ _ rfl w.heap.size 0 37 _ zeroHd zeroHd.toArray HGz.out rfl rfl hd_size (hd_one _ _ _ _ _ _) (by decide) (by rfl) ?_))
        intro wz hgz hbz
        have HBy := hide (grown_below (Nat.le_refl _) HBz.out hbz)
        have HGy := hide hgz
        clear hgz hbz
        go_wp2
        refine bodyPost_ret (results_cell2 rfl _ _ w.heap.size _ _ _ _ rfl HGy.out Try.underlying37 rfl (by kernel_rfl)) rfl ?_
        exact ⟨by rw [← HO.out]; rfl, HBy.out⟩
      | true =>
        have hO := HO.out
        clear HO
        simp only [hbd] at hO
        have hO : heads2 m ls ⟨ty, fl, off, va, fs, ms, al⟩ (ofT all 1685382482) = O := hO
        have HO := hide hO
        clear hO hbd
        go_wp2_with (refine store_part rfl _ _ _ rfl w2.heap.size 2 37 _ (Ph.cells ⟨ty, fl, off, va, fs, ms, al⟩) (hdCells m (.slice a2 ls.length c2) ⟨ty, fl, off, va, fs, ms, al⟩ noPh).toArray HH.out rfl rfl ph_size (Ph.one _) (by simp [Ph.cells]) (by rfl) ?_)
        intro w7 hg7 hb7
        have HC7 := hide (grown_below (Nat.le_refl _) HC.out hb7)
        have HH7 := hide hg7
        clear hg7 hb7 HC HH u0 u1 u2 u3 u4 u5 u6
        have HC := HC7
        have HH := HH7
        clear HC7 HH7
        have hT3 := head_ofType w7 _ all (HV2.out.below HC.out) HOK.out 1685382482 (by omega)
        go_wp2_with fail
        refine hT3.mono ?_
        rintro e w8 ⟨⟨v8, rfl, hown8⟩, hb8⟩
        have hD8 := hown8.arg (Nat.le_trans (ofT_len _ _) (by have := HLN.out; omega))
        have HOD := hide (ofT_ok HOK.out 1685382482)
        have hdl : (ofT all 1685382482).length ≤ 16 := Nat.le_trans (ofT_len _ _) HLN.out
        obtain ⟨a8, c8, rfl⟩ := hD8.form
        have HD8 := hide hD8
        have HC8 : Hid (Below w2.heap.size w2 w8) := HC.out.trans (hb8.mono HC.out.size)
        have HH8 := hide (block_stay HH.out hb8)
        clear hT3 HC HH hb8 hown8 hD8
        have HC := HC8
        have HH := HH8
        clear HC8 HH8
        generalize ofT all 1685382482 = rs at *
        cases rs with
        | nil =>
          simp only [List.length_nil] at *
          have hO := HO.out
          clear HO
          have HO : Hid (Except.ok ⟨m, ls, ⟨ty, fl, off, va, fs, ms, al⟩, noPh⟩ = O) := hO
          clear hO
          have HGz := hide (block_stay HG2.out HC.out)
          have HBz := hide (HB2.out.trans (HC.out.mono HB2.out.size))
          have HLz := hide (HLs.out.stay HC.out)
          go_wp2_with (first
            | (refine load_row rfl _ _ rfl w2.heap.size _ (load_hd HH.out rfl) rfl ?_)
            | (refine store_part rfl _ _ _ rfl w.heap.size 0 37 _ (hdCells m (.slice a2 ls.length c2) ⟨ty, fl, off, va, fs, ms, al⟩ noPh) (hdCells m (.slice a2 ls.length c2) ⟨ty, fl, off, va, fs, ms, al⟩ noPh).toArray HGz.out rfl rfl hd_size (hd_one _ _ _ _ _ _) (by simp [hdCells]) (by rfl) ?_))
          intro wz hgz hbz
          have HBy := hide (grown_below (Nat.le_refl _) HBz.out hbz)
          have HGy := hide hgz
          have HLy := hide ((HLz.out.grown hbz HS.out).low (Nat.le_of_lt HS.out))
          clear hgz hbz
          go_wp2
          refine bodyPost_ret (results_cell2 rfl _ _ w.heap.size _ _ _ _ rfl HGy.out Try.underlying37 rfl (by kernel_rfl)) rfl ?_
          exact ⟨by rw [← HO.out]; exact ⟨_, rfl, HLy.out⟩, HBy.out⟩
        | cons r0 t =>
          have b0 : (((r0 :: t).length : Nat) : Int) = (t.length : Int) + 1 := by simp
          have b1 : ((t.length : Int) + 1 == 0) = false := by simp; omega
          have htl : t.length ≤ 15 := by simp at hdl; omega
          cases t with
          | cons r1 t =>
            have HO2 : Hid (Except.error 87 = O) := HO.out
            clear HO b0 b1 htl
            have HO := HO2
            clear HO2 HD8 HOD
            have hn2 : 2 ≤ (r0 :: r1 :: t).length := by simp
            generalize (r0 :: r1 :: t).length = n at *
            have b1 : ((n : Int) == 0) = false := by simp; omega
            have b2 : (1 : Int) < (n : Int) := by omega
            have b3 : decide ((1 : Int) < (n : Int)) = true := decide_eq_true b2
            have b4 : 1 < n := by omega
            have b5 : decide (1 < n) = true := decide_eq_true b4
            clear hn2
            go_wp2_with fail
            try simp only [List.append_eq, List.cons_append, List.nil_append]
            refine wp_region_quiet_below (by kernel_rfl) (by kernel_rfl) ?_
            repeat (go_big_quiet_step (fail))
            refine wpQuiet_nil ?_
            intro _ hwq
            obtain ⟨⟨dq, osq⟩, hwq2⟩ := hwq
            subst hwq2
            have HC6 : Hid (Below w2.heap.size w2 (grow (redrawn w8 dq) osq)) := HC.out.trans ((below_regrown _ dq osq).mono HC.out.size)
            clear HC HH
            have HC := HC6
            clear HC6
            generalize grow _ _ = w9 at *
            have HGz := hide (block_stay HG2.out HC.out)
            have HBz := hide (HB2.out.trans (HC.out.mono HB2.out.size))
            go_wp2_with (first
                  | (refine build_eq rfl _ _ rfl (.agg zeroHd.toArray) (by kernel_rfl) ?_)
                  | (refine store_part rfl _ _ _ rfl w.heap.size 0 37 _ zeroHd zeroHd.toArray HGz.out rfl rfl hd_size (hd_one _ _ _ _ _ _) (by decide) (by rfl) ?_))
            intro wz hgz hbz
            have HBy := hide (grown_below (Nat.le_refl _) HBz.out hbz)
            have HGy := hide hgz
            clear hgz hbz
            go_wp2
            refine bodyPost_ret (results_cell2 rfl _ _ w.heap.size _ _ _ _ rfl HGy.out Try.underlying37 rfl (by kernel_rfl)) rfl ?_
            exact ⟨by rw [← HO.out]; rfl, HBy.out⟩
          | nil =>
            clear b0 b1 htl hdl
            have hok8 := HOD.out r0 (by simp)
            have hD := HD8.out
            simp only [List.length_cons, List.length_nil, Nat.zero_add] at hD
            obtain ⟨g8, rfl, hc81, hc82, hg8, y0, y1, y2, y3, y4, y5, y6⟩ := hD.at 0 (by simp)
            simp only [List.getElem_cons_zero, Nat.zero_mul, Nat.zero_add] at y0 y1 y2 y3 y4 y5 y6
            have HDy := hide (fun d os => head_relroRight (grow (redrawn w8 d) os) m (.slice a2 ls.length c2) ⟨ty, fl, off, va, fs, ms, al⟩ noPh ls ((HL2.out.below HC.out).below (below_regrown _ d os)) HOL.out HE.out r0 hok8)
            have hO := HO.out
            clear HO
            unfold heads2 at hO
            have HO := hide hO
            clear hO hD HD8 HOD
            simp only [hdCells, noPh] at HDy
            simp only [hdCells, noPh] at HH
            generalize hbd : relroOk ls r0 = bd at *
            obtain ⟨rty, rfl', roff, rva, rfs, rms, ral⟩ := r0
            simp only [Ph.cells, List.length_cons, List.length_nil, Nat.zero_add] at HDy y0 y1 y2 y3 y4 y5 y6 hc81 ⊢
            go_wp2_with fail
            try simp only [List.append_eq, List.cons_append, List.nil_append]
            refine wp_region_quiet_below (by kernel_rfl) (by kernel_rfl) ?_
            have x0 := cell_regrown (cells_of_block HH.out 0 _ rfl)
            have x1 := cell_regrown (cells_of_block HH.out 1 _ rfl)
            have x2 := cell_regrown (cells_of_block HH.out 2 _ rfl)
            have x3 := cell_regrown (cells_of_block HH.out 3 _ rfl)
            have x4 := cell_regrown (cells_of_block HH.out 4 _ rfl)
            have x5 := cell_regrown (cells_of_block HH.out 5 _ rfl)
            have x6 := cell_regrown (cells_of_block HH.out 6 _ rfl)
            have x7 := cell_regrown (cells_of_block HH.out 7 _ rfl)
            have x8 := cell_regrown (cells_of_block HH.out 8 _ rfl)
            have x9 := cell_regrown (cells_of_block HH.out 9 _ rfl)
            have x10 := cell_regrown (cells_of_block HH.out 10 _ rfl)
            have x11 := cell_regrown (cells_of_block HH.out 11 _ rfl)
            have x12 := cell_regrown (cells_of_block HH.out 12 _ rfl)
            have x13 := cell_regrown (cells_of_block HH.out 13 _ rfl)
            have x14 := cell_regrown (cells_of_block HH.out 14 _ rfl)
            have x15 := cell_regrown (cells_of_block HH.out 15 _ rfl)
            have z0 := cell_regrown y0
            have z1 := cell_regrown y1
            have z2 := cell_regrown y2
            have z3 := cell_regrown y3
            have z4 := cell_regrown y4
            have z5 := cell_regrown y5
            have z6 := cell_regrown y6
            repeat (go_big_quiet_step (exact Calls.regrown_of (HDy.out _ _)))
            refine wpQuiet_nil ?_
            intro _ hwq
            obtain ⟨⟨dq, osq⟩, hwq2⟩ := hwq
            subst hwq2
            have HC6 : Hid (Below w2.heap.size w2 (grow (redrawn w8 dq) osq)) := HC.out.trans ((below_regrown _ dq osq).mono HC.out.size)
            have HH6 := hide (block_stay HH.out (below_regrown _ dq osq))
            have u0 := z0 dq osq
            have u1 := z1 dq osq
            have u2 := z2 dq osq
            have u3 := z3 dq osq
            have u4 := z4 dq osq
            have u5 := z5 dq osq
            have u6 := z6 dq osq
            clear HC HH HDy y0 y1 y2 y3 y4 y5 y6
            clear x0 x1 x2 x3 x4 x5 x6 x7 x8 x9 x10 x11 x12 x13 x14 x15 z0 z1 z2 z3 z4 z5 z6
            have HC := HC6
            have HH := HH6
            clear HC6 HH6
            generalize grow _ _ = w9 at *
            cases bd with
            | false =>
              have hO := HO.out
              clear HO
              simp only [hbd] at hO
              rw [if_neg (by simp)] at hO
              have HO := hide hO
              clear hO hbd
              have HGz := hide (block_stay HG2.out HC.out)
              have HBz := hide (HB2.out.trans (HC.out.mono HB2.out.size))
              go_wp2_with (first
                    | (refine build_eq rfl _ _ rfl (.agg zeroHd.toArray) (by kernel_rfl) ?_)
                    | (refine store_part rfl _ _ _ rfl w.heap.size 0 37 _ zeroHd zeroHd.toArray HGz.out rfl rfl hd_size (hd_one _ _ _ _ _ _) (by decide) (by rfl) ?_))
              intro wz hgz hbz
              have HBy := hide (grown_below (Nat.le_refl _) HBz.out hbz)
              have HGy := hide hgz
              clear hgz hbz
              go_wp2
              refine bodyPost_ret (results_cell2 rfl _ _ w.heap.size _ _ _ _ rfl HGy.out Try.underlying37 rfl (by kernel_rfl)) rfl ?_
              exact ⟨by rw [← HO.out]; rfl, HBy.out⟩
            | true =>
              have hO := HO.out
              clear HO
              simp only [hbd] at hO
              have HO : Hid (Except.ok ⟨m, ls, ⟨ty, fl, off, va, fs, ms, al⟩, ⟨rty, rfl', roff, rva, rfs, rms, ral⟩⟩ = O) := hO
              clear hO hbd
              go_wp2_with (refine store_part rfl _ _ _ rfl w2.heap.size 9 37 _ (Ph.cells ⟨rty, rfl', roff, rva, rfs, rms, ral⟩) (hdCells m (.slice a2 ls.length c2) ⟨ty, fl, off, va, fs, ms, al⟩ ⟨rty, rfl', roff, rva, rfs, rms, ral⟩).toArray HH.out rfl rfl ph_size (Ph.one _) (by simp [Ph.cells]) (by rfl) ?_)
              intro w10 hg10 hb10
              have HC7 := hide (grown_below (Nat.le_refl _) HC.out hb10)
              have HH7 := hide hg10
              clear hg10 hb10 HC HH u0 u1 u2 u3 u4 u5 u6
              have HC := HC7
              have HH := HH7
              clear HC7 HH7
              have HGz := hide (block_stay HG2.out HC.out)
              have HBz := hide (HB2.out.trans (HC.out.mono HB2.out.size))
              have HLz := hide (HLs.out.stay HC.out)
              go_wp2_with (first
                | (refine load_row rfl _ _ rfl w2.heap.size _ (load_hd HH.out rfl) rfl ?_)
                | (refine store_part rfl _ _ _ rfl w.heap.size 0 37 _ (hdCells m (.slice a2 ls.length c2) ⟨ty, fl, off, va, fs, ms, al⟩ ⟨rty, rfl', roff, rva, rfs, rms, ral⟩) (hdCells m (.slice a2 ls.length c2) ⟨ty, fl, off, va, fs, ms, al⟩ ⟨rty, rfl', roff, rva, rfs, rms, ral⟩).toArray HGz.out rfl rfl hd_size (hd_one _ _ _ _ _ _) (by simp [hdCells]) (by rfl) ?_))
              intro wz hgz hbz
              have HBy := hide (grown_below (Nat.le_refl _) HBz.out hbz)
              have HGy := hide hgz
              have HLy := hide ((HLz.out.grown hbz HS.out).low (Nat.le_of_lt HS.out))
              clear hgz hbz
              go_wp2
              refine bodyPost_ret (results_cell2 rfl _ _ w.heap.size _ _ _ _ rfl HGy.out Try.underlying37 rfl (by kernel_rfl)) rfl ?_
              exact ⟨by rw [← HO.out]; exact ⟨_, rfl, HLy.out⟩, HBy.out⟩
end Go.Proofs.Ytgpjfcnlhlkblaa
