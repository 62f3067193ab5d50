
/-
  Layer 9's reference: what the dynamic section of a library says.
-/
import Derived.Test.YtndlfgjkfbdikaaDyKt
set_option linter.unusedVariables false
namespace Go.Proofs.Ytndlfgjkfbdikaa
open Go.RowKit Go.PlainAid Go.Sort
theorem ArgD.below3 {w : World} {a : Option Addr} {n c : Nat} {ps : List De} (h : ArgD w (.slice a n c) ps) : ∀ g, a = some ⟨g, 0, none⟩ → g < w.heap.size := fun g hg => by
  rcases h.2 with ⟨e, _⟩ | ⟨q, cap, e, _, _, h3, _⟩
  · injection e with e; rw [hg] at e; cases e
  · injection e with e; rw [hg] at e; injection e with e; injection e with e; omega
set_option maxHeartbeats 8000000 in
set_option maxRecDepth 20000 in
theorem ref9_Parse (w : World) (b : Value) (l : List UInt8) (hb : Arg w b l) (hl : l.length ≤ 1000000) (h : Hd) (v : Value) (ha : ArgH w v h.loads) (ok : ∀ p ∈ h.loads, p.ok) (sm : ∀ p ∈ h.loads, p.off + p.filesz ≤ 1000000) (hdo : h.dynamic.ok) :
    Calls Try.prog 17 #[b, .agg (hdCells h.machine v h.dynamic h.relro).toArray] w fun e w' => DynIs w' w.heap.size (dynZ l h) e ∧ Below w.heap.size w w' := by
  obtain ⟨O, hO⟩ : ∃ O, dynZ l h = O := ⟨_, rfl⟩
  rw [hO]
  unfold dynZ at hO
  obtain ⟨m, ps, ⟨dt, df, dof, dva, dfs, dms, dal⟩, r⟩ := h
  have hva := hdo.vaddr
  have hfs := hdo.filesz
  simp only at hO ha ok sm hva hfs ⊢
  have HB0 : Hid (Below w.heap.size w ((w.alloc (.cells (hdCells m v ⟨dt, df, dof, dva, dfs, dms, dal⟩ r).toArray 55)).alloc (.cells zeroDy.toArray 62))) := ((Below.refl _ w).alloc (Nat.le_refl _) _).alloc (by simp) _
  have HG0 : Hid (((w.alloc (.cells (hdCells m v ⟨dt, df, dof, dva, dfs, dms, dal⟩ r).toArray 55)).alloc (.cells zeroDy.toArray 62)).heap[w.heap.size]? = some (.cells (hdCells m v ⟨dt, df, dof, dva, dfs, dms, dal⟩ r).toArray 55 (0, 0))) := by
    rw [Hid, heap_alloc_old _ _ (by simp)]; exact heap_alloc_new _ _
  have hs1 : (w.alloc (.cells (hdCells m v ⟨dt, df, dof, dva, dfs, dms, dal⟩ r).toArray 55)).heap.size = w.heap.size + 1 := by simp
  have HR0 : Hid (((w.alloc (.cells (hdCells m v ⟨dt, df, dof, dva, dfs, dms, dal⟩ r).toArray 55)).alloc (.cells zeroDy.toArray 62)).heap[w.heap.size + 1]? = some (.cells zeroDy.toArray 62 (0, 0))) := by
    rw [Hid, ← hs1]; exact heap_alloc_new _ _
  have c5 := cells_of_block HG0.out 5 (.int .u64 dva) rfl
  have c6 := cells_of_block HG0.out 6 (.int .u64 dfs) rfl
  have HST := hide (fun W (hB : Below w.heap.size w W) cs hz x s h7 h8 hx hs => ref9_Strings W b l (hb.below' hB) m v ⟨dt, df, dof, dva, dfs, dms, dal⟩ r ps (ha.below hB) ok sm cs hz x s h7 h8 hx hs)
  have HPT := hide (fun W (hB : Below w.heap.size w W) => ref8_Part W b l (hb.below' hB) m v ⟨dt, df, dof, dva, dfs, dms, dal⟩ r ps (ha.below hB) ok sm dva dfs (by omega) (by omega))
  have hP := HPT.out _ HB0.out
  have hxl := part_len l ps dva dfs
  have HSL := hide (fun x s => Nat.le_trans (part_len l ps x s) hl)
  obtain ⟨⟨X, xb⟩, hX⟩ : ∃ X, partZ l ps dva dfs = X := ⟨_, rfl⟩
  simp only [hX] at hP hO hxl
  obtain ⟨a, cap, rfl, _⟩ := hb.isSlice
  have HO := hide hO
  clear hb ha ok sm hdo HPT hX hO hs1
  simp only [hdCells, zeroDy, zeroAr, List.replicate, List.cons_append, List.nil_append] at HB0 HG0 HR0 hP c5 c6 ⊢
  go_enter Try.func17, Try.ntmps17
  go_wp2_with ((with_reducible refine at_load ?_); refine load_row rfl _ _ rfl w.heap.size _ (load_hd HG0.out rfl) rfl ?_)
  refine hP.mono ?_
  rintro e w1 ⟨⟨vx, rfl, own1⟩, hb1⟩
  have HB1 : Hid (Below w.heap.size w w1) := HB0.out.trans (hb1.mono HB0.out.size)
  have HR1 := hide (block_stay HR0.out hb1)
  have HG1 := hide (block_stay HG0.out hb1)
  have HX1 := hide (own1.arg (by omega))
  have HL1 : Hid (w.heap.size + 1 < w1.heap.size) := Nat.lt_of_lt_of_le (by simp) hb1.size
  clear hP hb1 own1 HB0 HR0 HG0 c5 c6
  cases xb with
  | false =>
    have HF : Hid (Except.error 86 = O) := HO.out
    clear HO
    go_wp2_with ((with_reducible refine at_store ?_); refine store_part rfl _ _ _ rfl (w.heap.size + 1) 0 62 _ zeroDy zeroDy.toArray HR1.out rfl rfl dy_size zeroDy_one (by decide) (by rfl) ?_)
    intro wz hgz hbz
    have HBy := hide (grown_below (Nat.le_succ _) HB1.out hbz)
    have HGy := hide hgz
    clear hgz hbz
    go_wp2
    (try simp only [Exit.inBlock, Exit.then])
    refine bodyPost_ret (results_cell2 rfl _ _ (w.heap.size + 1) _ _ _ _ rfl HGy.out Try.underlying62 rfl (by kernel_rfl)) rfl ?_
    exact ⟨by rw [← HF.out]; rfl, HBy.out⟩
  | true =>
    have hO := HO.out
    rw [if_neg (by simp)] at hO
    have HO2 := hide hO
    have hE := ref9_Entries w1 vx X HX1.out (by omega)
    obtain ⟨ax, cx, rfl, _⟩ := HX1.out.isSlice
    clear hO HO
    go_wp2_with fail
    refine hE.mono ?_
    rintro e w2 ⟨hE2, hb2⟩
    have HB2 : Hid (Below w.heap.size w w2) := HB1.out.trans (hb2.mono HB1.out.size)
    have HR2 := hide (block_stay HR1.out hb2)
    have HG2 := hide (block_stay HG1.out hb2)
    have HL2 : Hid (w.heap.size + 1 < w2.heap.size) := Nat.lt_of_lt_of_le HL1.out hb2.size
    clear hE hb2 HB1 HR1 HG1 HX1 HL1
    have HEO := hide (fun E => entsZ_ok (l := X) (L := E))
    cases hEZ : entsZ X with
    | none =>
      rw [hEZ] at hE2
      have hE3 : e = _ := hE2
      subst hE3
      have HF : Hid (Except.error 90 = O) := by have := HO2.out; rw [hEZ] at this; exact this
      clear hE2 HO2 hEZ HEO
      go_wp2_with ((with_reducible refine at_store ?_); refine store_part rfl _ _ _ rfl (w.heap.size + 1) 0 62 _ zeroDy zeroDy.toArray HR2.out rfl rfl dy_size zeroDy_one (by decide) (by rfl) ?_)
      intro wz hgz hbz
      have HBy := hide (grown_below (Nat.le_succ _) HB2.out hbz)
      have HGy := hide hgz
      clear hgz hbz
      go_wp2
      (try simp only [Exit.inBlock, Exit.then])
      refine bodyPost_ret (results_cell2 rfl _ _ (w.heap.size + 1) _ _ _ _ rfl HGy.out Try.underlying62 rfl (by kernel_rfl)) rfl ?_
      exact ⟨by rw [← HF.out]; rfl, HBy.out⟩
    | some E =>
      rw [hEZ] at hE2
      obtain ⟨hEok, hEl⟩ := HEO.out E hEZ
      have hO := HO2.out
      simp only [hEZ] at hO
      have HO3 := hide hO
      obtain ⟨ve, rfl, own2⟩ := hE2
      have HE2 := hide (own2.arg (by omega))
      obtain ⟨ae, en, ce, rfl, hen⟩ := HE2.out.form3
      have HEN := hide hen
      have HEL : Hid (en ≤ 65536) := by rw [Hid, ← hen]; omega
      clear hen
      have HEK := hide hEok
      have hR := ref9_right w2 _ E HE2.out
      clear hO HO2 hEZ HEO own2 hEok
      go_wp2_with fail
      refine hR.mono ?_
      rintro e w3 ⟨rfl, hb3⟩
      have HB3 : Hid (Below w.heap.size w w3) := HB2.out.trans (hb3.mono HB2.out.size)
      have HR3 := hide (block_stay HR2.out hb3)
      have HG3 := hide (block_stay HG2.out hb3)
      have HE3 := hide (HE2.out.below hb3)
      have HL3 : Hid (w.heap.size + 1 < w3.heap.size) := Nat.lt_of_lt_of_le HL2.out hb3.size
      clear hR hb3 HB2 HR2 HG2 HE2 HL2
      cases hrt : rightB E with
      | false =>
        have HF : Hid (Except.error 90 = O) := by have := HO3.out; rw [if_pos hrt] at this; exact this
        clear HO3 hrt
        go_wp2_with ((with_reducible refine at_store ?_); refine store_part rfl _ _ _ rfl (w.heap.size + 1) 0 62 _ zeroDy zeroDy.toArray HR3.out rfl rfl dy_size zeroDy_one (by decide) (by rfl) ?_)
        intro wz hgz hbz
        have HBy := hide (grown_below (Nat.le_succ _) HB3.out hbz)
        have HGy := hide hgz
        clear hgz hbz
        go_wp2
        (try simp only [Exit.inBlock, Exit.then])
        refine bodyPost_ret (results_cell2 rfl _ _ (w.heap.size + 1) _ _ _ _ rfl HGy.out Try.underlying62 rfl (by kernel_rfl)) rfl ?_
        exact ⟨by rw [← HF.out]; rfl, HBy.out⟩
      | true =>
        have hO := HO3.out
        rw [if_neg (by rw [hrt]; simp)] at hO
        have HO4 := hide hO
        clear hO HO3 hrt
        have HAb5 : Hid (areaC E 5 10 = [.bool (decide (cntT E 5 = 1)), .int .u64 (valT E 5 : Nat), .int .u64 (valT E 10 : Nat)]) := rfl
        generalize decide (cntT E 5 = 1) = b5 at HAb5
        have HAb17 : Hid (areaC E 17 18 = [.bool (decide (cntT E 17 = 1)), .int .u64 (valT E 17 : Nat), .int .u64 (valT E 18 : Nat)]) := rfl
        generalize decide (cntT E 17 = 1) = b17 at HAb17
        have HAb7 : Hid (areaC E 7 8 = [.bool (decide (cntT E 7 = 1)), .int .u64 (valT E 7 : Nat), .int .u64 (valT E 8 : Nat)]) := rfl
        generalize decide (cntT E 7 = 1) = b7 at HAb7
        have HAb23 : Hid (areaC E 23 2 = [.bool (decide (cntT E 23 = 1)), .int .u64 (valT E 23 : Nat), .int .u64 (valT E 2 : Nat)]) := rfl
        generalize decide (cntT E 23 = 1) = b23 at HAb23
        have HAb36 : Hid (areaC E 36 35 = [.bool (decide (cntT E 36 = 1)), .int .u64 (valT E 36 : Nat), .int .u64 (valT E 35 : Nat)]) := rfl
        generalize decide (cntT E 36 = 1) = b36 at HAb36
        have HAbp : Hid (areaC E 1610612751 1610612752 = [.bool (decide (cntT E 1610612751 = 1)), .int .u64 (valT E 1610612751 : Nat), .int .u64 (valT E 1610612752 : Nat)]) := rfl
        generalize decide (cntT E 1610612751 = 1) = bp at HAbp
        have HAb25 : Hid (areaC E 25 27 = [.bool (decide (cntT E 25 = 1)), .int .u64 (valT E 25 : Nat), .int .u64 (valT E 27 : Nat)]) := rfl
        generalize decide (cntT E 25 = 1) = b25 at HAb25
        have HAb26 : Hid (areaC E 26 28 = [.bool (decide (cntT E 26 = 1)), .int .u64 (valT E 26 : Nat), .int .u64 (valT E 28 : Nat)]) := rfl
        generalize decide (cntT E 26 = 1) = b26 at HAb26
        have HC0 : Hid (Below w3.heap.size w3 w3) := Below.refl _ _
        have kA := ref9_area w3 _ E (HE3.out.below HC0.out) 5 10
        rw [HAb5.out] at kA
        go_wp2_with fail
        refine kA.mono ?_
        rintro e x0 ⟨rfl, hb9⟩
        have HC1 : Hid (Below w3.heap.size w3 x0) := HC0.out.trans (hb9.mono HC0.out.size)
        clear kA hb9 HC0
        have kA := ref9_area x0 _ E (HE3.out.below HC1.out) 17 18
        rw [HAb17.out] at kA
        go_wp2_with fail
        refine kA.mono ?_
        rintro e x1 ⟨rfl, hb9⟩
        have HC2 : Hid (Below w3.heap.size w3 x1) := HC1.out.trans (hb9.mono HC1.out.size)
        clear kA hb9 HC1
        have kA := ref9_area x1 _ E (HE3.out.below HC2.out) 7 8
        rw [HAb7.out] at kA
        go_wp2_with fail
        refine kA.mono ?_
        rintro e x2 ⟨rfl, hb9⟩
        have HC3 : Hid (Below w3.heap.size w3 x2) := HC2.out.trans (hb9.mono HC2.out.size)
        clear kA hb9 HC2
        have kA := ref9_area x2 _ E (HE3.out.below HC3.out) 23 2
        rw [HAb23.out] at kA
        go_wp2_with fail
        refine kA.mono ?_
        rintro e x3 ⟨rfl, hb9⟩
        have HC4 : Hid (Below w3.heap.size w3 x3) := HC3.out.trans (hb9.mono HC3.out.size)
        clear kA hb9 HC3
        have kA := ref9_area x3 _ E (HE3.out.below HC4.out) 36 35
        rw [HAb36.out] at kA
        go_wp2_with fail
        refine kA.mono ?_
        rintro e x4 ⟨rfl, hb9⟩
        have HC5 : Hid (Below w3.heap.size w3 x4) := HC4.out.trans (hb9.mono HC4.out.size)
        clear kA hb9 HC4
        have kA := ref9_area x4 _ E (HE3.out.below HC5.out) 1610612751 1610612752
        rw [HAbp.out] at kA
        go_wp2_with fail
        refine kA.mono ?_
        rintro e x5 ⟨rfl, hb9⟩
        have HC6 : Hid (Below w3.heap.size w3 x5) := HC5.out.trans (hb9.mono HC5.out.size)
        clear kA hb9 HC5
        have kA := ref9_area x5 _ E (HE3.out.below HC6.out) 25 27
        rw [HAb25.out] at kA
        go_wp2_with fail
        refine kA.mono ?_
        rintro e x6 ⟨rfl, hb9⟩
        have HC7 : Hid (Below w3.heap.size w3 x6) := HC6.out.trans (hb9.mono HC6.out.size)
        clear kA hb9 HC6
        have kA := ref9_area x6 _ E (HE3.out.below HC7.out) 26 28
        rw [HAb26.out] at kA
        go_wp2_with fail
        refine kA.mono ?_
        rintro e x7 ⟨rfl, hb9⟩
        have HC8 : Hid (Below w3.heap.size w3 x7) := HC7.out.trans (hb9.mono HC7.out.size)
        clear kA hb9 HC7
        have HB4 : Hid (Below w.heap.size w x7) := HB3.out.trans (HC8.out.mono HB3.out.size)
        have HR4 := hide (block_stay HR3.out HC8.out)
        have HG4 := hide (block_stay HG3.out HC8.out)
        have HE4 := hide (HE3.out.below HC8.out)
        have HL4 : Hid (w.heap.size + 1 < x7.heap.size) := Nat.lt_of_lt_of_le HL3.out HC8.out.size
        clear HB3 HR3 HG3 HE3 HL3 HC8
        have hkc := fun W (hB : Below x7.heap.size x7 W) => ref9_count W _ E (HE4.out.below hB) 1610612753
        have HKC := hide hkc
        have HKV := hide (fun t W (hB : Below x7.heap.size x7 W) => ref9_value W _ E (HE4.out.below hB) t)
        have HKA := hide (fun t u W (hB : Below x7.heap.size x7 W) => ref9_area W _ E (HE4.out.below hB) t u)
        have HKN := hide (fun t W (hB : Below x7.heap.size x7 W) => ref9_count W _ E (HE4.out.below hB) t)
        have HZZ : Hid ((x7.alloc (.cells zeroDy.toArray 62)).heap[x7.heap.size]? = some (.cells zeroDy.toArray 62 (0, 0))) := heap_alloc_new _ _
        have HZB : Hid (Below x7.heap.size x7 (x7.alloc (.cells zeroDy.toArray 62))) := (Below.refl _ _).alloc (Nat.le_refl _) _
        have hone : ∀ u ∈ ([.string ⟨#[]⟩, .string ⟨#[]⟩, .slice none 0 0, .bool false, .bool false, .bool false, .bool b5, .int .u64 (valT E 5 : Nat), .int .u64 (valT E 10 : Nat), .int .u64 0, .int .u64 0, .int .u64 0, .int .u64 0, .int .u64 0, .int .u64 0, .int .u64 0, .int .u64 0, .bool b17, .int .u64 (valT E 17 : Nat), .int .u64 (valT E 18 : Nat), .bool b7, .int .u64 (valT E 7 : Nat), .int .u64 (valT E 8 : Nat), .bool b23, .int .u64 (valT E 23 : Nat), .int .u64 (valT E 2 : Nat), .bool b36, .int .u64 (valT E 36 : Nat), .int .u64 (valT E 35 : Nat), .bool bp, .int .u64 (valT E 1610612751 : Nat), .int .u64 (valT E 1610612752 : Nat), .bool false, .bool false, .bool b25, .int .u64 (valT E 25 : Nat), .int .u64 (valT E 27 : Nat), .bool b26, .int .u64 (valT E 26 : Nat), .int .u64 (valT E 28 : Nat)] : List Value), u.oneCell' = true := by
          intro u hu
          simp only [List.mem_cons, List.not_mem_nil, or_false] at hu
          rcases hu with rfl | rfl | rfl | rfl | rfl | rfl | rfl | rfl | rfl | rfl | rfl | rfl | rfl | rfl | rfl | rfl | rfl | rfl | rfl | rfl | rfl | rfl | rfl | rfl | rfl | rfl | rfl | rfl | rfl | rfl | rfl | rfl | rfl | rfl | rfl | rfl | rfl | rfl | rfl | rfl <;> rfl
        have HON := hide hone
        simp only [zeroDy, zeroAr, List.replicate, List.cons_append, List.nil_append] at HZZ HZB
        clear hkc HKC hone
        go_wp2_with (first
          | ((with_reducible refine at_build ?_); refine build_eq rfl _ _ rfl (.agg #[.string ⟨#[]⟩, .string ⟨#[]⟩, .slice none 0 0, .bool false, .bool false, .bool false, .bool b5, .int .u64 (valT E 5 : Nat), .int .u64 (valT E 10 : Nat), .int .u64 0, .int .u64 0, .int .u64 0, .int .u64 0, .int .u64 0, .int .u64 0, .int .u64 0, .int .u64 0, .bool b17, .int .u64 (valT E 17 : Nat), .int .u64 (valT E 18 : Nat), .bool b7, .int .u64 (valT E 7 : Nat), .int .u64 (valT E 8 : Nat), .bool b23, .int .u64 (valT E 23 : Nat), .int .u64 (valT E 2 : Nat), .bool b36, .int .u64 (valT E 36 : Nat), .int .u64 (valT E 35 : Nat), .bool bp, .int .u64 (valT E 1610612751 : Nat), .int .u64 (valT E 1610612752 : Nat), .bool false, .bool false, .bool b25, .int .u64 (valT E 25 : Nat), .int .u64 (valT E 27 : Nat), .bool b26, .int .u64 (valT E 26 : Nat), .int .u64 (valT E 28 : Nat)]) ?hr ?_; (simp only [List.map_toArray, List.map_cons, List.map_nil]; go_loud (exact build_dy _ b5 b17 b7 b23 b36 bp b25 b26 (valT E 5) (valT E 10) (valT E 17) (valT E 18) (valT E 7) (valT E 8) (valT E 23) (valT E 2) (valT E 36) (valT E 35) (valT E 1610612751) (valT E 1610612752) (valT E 25) (valT E 27) (valT E 26) (valT E 28))))
          | ((with_reducible refine at_store ?_); go_loud (refine store_part rfl _ _ _ rfl x7.heap.size 0 62 _ [.string ⟨#[]⟩, .string ⟨#[]⟩, .slice none 0 0, .bool false, .bool false, .bool false, .bool b5, .int .u64 (valT E 5 : Nat), .int .u64 (valT E 10 : Nat), .int .u64 0, .int .u64 0, .int .u64 0, .int .u64 0, .int .u64 0, .int .u64 0, .int .u64 0, .int .u64 0, .bool b17, .int .u64 (valT E 17 : Nat), .int .u64 (valT E 18 : Nat), .bool b7, .int .u64 (valT E 7 : Nat), .int .u64 (valT E 8 : Nat), .bool b23, .int .u64 (valT E 23 : Nat), .int .u64 (valT E 2 : Nat), .bool b36, .int .u64 (valT E 36 : Nat), .int .u64 (valT E 35 : Nat), .bool bp, .int .u64 (valT E 1610612751 : Nat), .int .u64 (valT E 1610612752 : Nat), .bool false, .bool false, .bool b25, .int .u64 (valT E 25 : Nat), .int .u64 (valT E 27 : Nat), .bool b26, .int .u64 (valT E 26 : Nat), .int .u64 (valT E 28 : Nat)] #[.string ⟨#[]⟩, .string ⟨#[]⟩, .slice none 0 0, .bool false, .bool false, .bool false, .bool b5, .int .u64 (valT E 5 : Nat), .int .u64 (valT E 10 : Nat), .int .u64 0, .int .u64 0, .int .u64 0, .int .u64 0, .int .u64 0, .int .u64 0, .int .u64 0, .int .u64 0, .bool b17, .int .u64 (valT E 17 : Nat), .int .u64 (valT E 18 : Nat), .bool b7, .int .u64 (valT E 7 : Nat), .int .u64 (valT E 8 : Nat), .bool b23, .int .u64 (valT E 23 : Nat), .int .u64 (valT E 2 : Nat), .bool b36, .int .u64 (valT E 36 : Nat), .int .u64 (valT E 35 : Nat), .bool bp, .int .u64 (valT E 1610612751 : Nat), .int .u64 (valT E 1610612752 : Nat), .bool false, .bool false, .bool b25, .int .u64 (valT E 25 : Nat), .int .u64 (valT E 27 : Nat), .bool b26, .int .u64 (valT E 26 : Nat), .int .u64 (valT E 28 : Nat)] HZZ.out rfl rfl dy_size HON.out (Nat.le_refl 40) (by rfl) ?_)))
        intro w4 hg4 hb4
        have HBD := hide (grown_below (Nat.le_refl _) HZB.out hb4)
        have HDD := hide hg4
        have hkc1 := HKN.out 1610612753 w4 HBD.out
        clear hg4 hb4 HZZ HZB HON
        go_wp2_with fail
        refine hkc1.mono ?_
        rintro e w5 ⟨rfl, rfl⟩
        clear hkc1
        obtain ⟨q1, q2, q3, hq⟩ : ∃ (q1 : Bool) (q2 q3 : Nat), (if packB E then areaC E 1610612753 1610612754 else areaC E 1610612751 1610612752) = [.bool q1, .int .u64 q2, .int .u64 q3] := by
          split
          · exact ⟨_, _, _, rfl⟩
          · exact ⟨_, _, _, rfl⟩
        have HQ := hide hq
        have HPB : Hid (packB E = decide (cntT E 1610612753 = 1)) := rfl
        generalize hpk : packB E = pk at HQ HPB
        have HPK := hide hpk
        generalize cntT E 1610612753 = ck at *
        clear hq hpk
        go_upto_if 66 with fail
        go_cut [] from 19 (fun wx => Hid (Below x7.heap.size x7 wx) ∧ Hid (wx.heap[x7.heap.size]? = some (.cells #[.string ⟨#[]⟩, .string ⟨#[]⟩, .slice none 0 0, .bool false, .bool false, .bool false, .bool b5, .int .u64 (valT E 5 : Nat), .int .u64 (valT E 10 : Nat), .int .u64 0, .int .u64 0, .int .u64 0, .int .u64 0, .int .u64 0, .int .u64 0, .int .u64 0, .int .u64 0, .bool b17, .int .u64 (valT E 17 : Nat), .int .u64 (valT E 18 : Nat), .bool b7, .int .u64 (valT E 7 : Nat), .int .u64 (valT E 8 : Nat), .bool b23, .int .u64 (valT E 23 : Nat), .int .u64 (valT E 2 : Nat), .bool b36, .int .u64 (valT E 36 : Nat), .int .u64 (valT E 35 : Nat), .bool q1, .int .u64 (q2 : Nat), .int .u64 (q3 : Nat), .bool false, .bool pk, .bool b25, .int .u64 (valT E 25 : Nat), .int .u64 (valT E 27 : Nat), .bool b26, .int .u64 (valT E 26 : Nat), .int .u64 (valT E 28 : Nat)] 62 (0, 0))))
        case first =>
          by_cases hck : ck = 1
          · have hcb : ((ck : Int) == 1) = true := by simp; omega
            have hpt : pk = true := by rw [HPB.out, decide_eq_true hck]
            have kA := HKA.out 1610612753 1610612754 w4 HBD.out
            have hq := HQ.out
            rw [if_pos hpt] at hq
            rw [hq] at kA
            subst hpt
            clear hq hck
            go_wp2_with fail
            refine kA.mono ?_
            rintro e w6 ⟨rfl, hb6⟩
            have HB6 : Hid (Below x7.heap.size x7 w6) := HBD.out.trans (hb6.mono HBD.out.size)
            have HD6 := hide (block_stay HDD.out hb6)
            clear kA hb6 HBD HDD
            go_wp2_with ((with_reducible refine at_store ?_); refine store_part rfl _ _ _ rfl x7.heap.size 29 62 _ [.bool q1, .int .u64 (q2 : Nat), .int .u64 (q3 : Nat)] #[.string ⟨#[]⟩, .string ⟨#[]⟩, .slice none 0 0, .bool false, .bool false, .bool false, .bool b5, .int .u64 (valT E 5 : Nat), .int .u64 (valT E 10 : Nat), .int .u64 0, .int .u64 0, .int .u64 0, .int .u64 0, .int .u64 0, .int .u64 0, .int .u64 0, .int .u64 0, .bool b17, .int .u64 (valT E 17 : Nat), .int .u64 (valT E 18 : Nat), .bool b7, .int .u64 (valT E 7 : Nat), .int .u64 (valT E 8 : Nat), .bool b23, .int .u64 (valT E 23 : Nat), .int .u64 (valT E 2 : Nat), .bool b36, .int .u64 (valT E 36 : Nat), .int .u64 (valT E 35 : Nat), .bool q1, .int .u64 (q2 : Nat), .int .u64 (q3 : Nat), .bool false, .bool false, .bool b25, .int .u64 (valT E 25 : Nat), .int .u64 (valT E 27 : Nat), .bool b26, .int .u64 (valT E 26 : Nat), .int .u64 (valT E 28 : Nat)] HD6.out rfl rfl ar_size (by intro u hu; simp only [List.mem_cons, List.not_mem_nil, or_false] at hu; rcases hu with rfl | rfl | rfl <;> rfl) (show 29 + 3 ≤ 40 by decide) (by rfl) ?_)
            intro w7 hg7 hb7
            have HB7 := hide (grown_below (Nat.le_refl _) HB6.out hb7)
            have HD7 := hide hg7
            clear hg7 hb7 HB6 HD6
            go_wp2_with ((with_reducible refine at_store ?_); refine store_any rfl _ _ _ rfl x7.heap.size 33 62 _ (.bool true) [.bool true] #[.string ⟨#[]⟩, .string ⟨#[]⟩, .slice none 0 0, .bool false, .bool false, .bool false, .bool b5, .int .u64 (valT E 5 : Nat), .int .u64 (valT E 10 : Nat), .int .u64 0, .int .u64 0, .int .u64 0, .int .u64 0, .int .u64 0, .int .u64 0, .int .u64 0, .int .u64 0, .bool b17, .int .u64 (valT E 17 : Nat), .int .u64 (valT E 18 : Nat), .bool b7, .int .u64 (valT E 7 : Nat), .int .u64 (valT E 8 : Nat), .bool b23, .int .u64 (valT E 23 : Nat), .int .u64 (valT E 2 : Nat), .bool b36, .int .u64 (valT E 36 : Nat), .int .u64 (valT E 35 : Nat), .bool q1, .int .u64 (q2 : Nat), .int .u64 (q3 : Nat), .bool false, .bool true, .bool b25, .int .u64 (valT E 25 : Nat), .int .u64 (valT E 27 : Nat), .bool b26, .int .u64 (valT E 26 : Nat), .int .u64 (valT E 28 : Nat)] HD7.out rfl rfl rfl bo_size (by intro u hu; rw [List.mem_singleton.1 hu]; rfl) (show 33 + 1 ≤ 40 by decide) (by rfl) ?_)
            intro w8 hg8 hb8
            have HB8 := hide (grown_below (Nat.le_refl _) HB7.out hb8)
            have HD8 := hide hg8
            clear hg8 hb8 HB7 HD7
            go_wp2
            go_meet
            case rel => exact ⟨HB8, HD8⟩
          · have hcb : ((ck : Int) == 1) = false := by simp; omega
            have hpt : pk = false := by rw [HPB.out, decide_eq_false hck]
            have hq := HQ.out
            rw [if_neg (by rw [hpt]; simp), HAbp.out] at hq
            injection hq with e1 hq
            injection hq with e2 hq
            injection hq with e3 _
            subst hpt
            clear hck
            go_wp2
            go_meet
            case rel => exact ⟨HBD, HDD⟩
        case rest =>
          obtain ⟨HB0, HD0⟩ := hcut
          clear HBD HDD HAbp
          have e20 := eq1_dec (valT E 20) 7
          have HE20 : Hid (decide (valT E 20 = 7) = decide (valT E 20 = 7)) := rfl
          generalize hb20 : decide (valT E 20 = 7) = b20 at e20
          have HB20 := hide hb20
          have e20b : ((valT E 20 : Int) == 7) = b20 := e20
          clear hb20 e20 HE20
          have k9 := HKV.out 20 _ HB0.out
          go_wp2_with fail
          refine k9.mono ?_
          rintro e w9 ⟨rfl, rfl⟩
          clear k9
          go_wp2_with ((with_reducible refine at_store ?_); refine store_any rfl _ _ _ rfl x7.heap.size 32 62 _ (.bool b20) [.bool b20] #[.string ⟨#[]⟩, .string ⟨#[]⟩, .slice none 0 0, .bool false, .bool false, .bool false, .bool b5, .int .u64 (valT E 5 : Nat), .int .u64 (valT E 10 : Nat), .int .u64 0, .int .u64 0, .int .u64 0, .int .u64 0, .int .u64 0, .int .u64 0, .int .u64 0, .int .u64 0, .bool b17, .int .u64 (valT E 17 : Nat), .int .u64 (valT E 18 : Nat), .bool b7, .int .u64 (valT E 7 : Nat), .int .u64 (valT E 8 : Nat), .bool b23, .int .u64 (valT E 23 : Nat), .int .u64 (valT E 2 : Nat), .bool b36, .int .u64 (valT E 36 : Nat), .int .u64 (valT E 35 : Nat), .bool q1, .int .u64 (q2 : Nat), .int .u64 (q3 : Nat), .bool b20, .bool pk, .bool b25, .int .u64 (valT E 25 : Nat), .int .u64 (valT E 27 : Nat), .bool b26, .int .u64 (valT E 26 : Nat), .int .u64 (valT E 28 : Nat)] HD0.out rfl rfl rfl bo_size (by intro u hu; rw [List.mem_singleton.1 hu]; rfl) (show 32 + 1 ≤ 40 by decide) (by rfl) ?_)
          intro y0 hg9 hb9
          have HB1 := hide (grown_below (Nat.le_refl _) HB0.out hb9)
          have HD1 := hide hg9
          clear hg9 hb9 HB0 HD0
          have k9 := HKV.out 6 _ HB1.out
          go_wp2_with fail
          refine k9.mono ?_
          rintro e w9 ⟨rfl, rfl⟩
          clear k9
          have k9 := HKV.out 4 _ HB1.out
          go_wp2_with fail
          refine k9.mono ?_
          rintro e w9 ⟨rfl, rfl⟩
          clear k9
          have k9 := HKV.out 1879047925 _ HB1.out
          go_wp2_with fail
          refine k9.mono ?_
          rintro e w9 ⟨rfl, rfl⟩
          clear k9
          have k9 := HKV.out 1879048176 _ HB1.out
          go_wp2_with fail
          refine k9.mono ?_
          rintro e w9 ⟨rfl, rfl⟩
          clear k9
          go_wp2_with ((with_reducible refine at_store ?_); refine store_any rfl _ _ _ rfl x7.heap.size 9 62 _ (.int .u64 (valT E 6 : Nat)) [.int .u64 (valT E 6 : Nat)] #[.string ⟨#[]⟩, .string ⟨#[]⟩, .slice none 0 0, .bool false, .bool false, .bool false, .bool b5, .int .u64 (valT E 5 : Nat), .int .u64 (valT E 10 : Nat), .int .u64 (valT E 6 : Nat), .int .u64 0, .int .u64 0, .int .u64 0, .int .u64 0, .int .u64 0, .int .u64 0, .int .u64 0, .bool b17, .int .u64 (valT E 17 : Nat), .int .u64 (valT E 18 : Nat), .bool b7, .int .u64 (valT E 7 : Nat), .int .u64 (valT E 8 : Nat), .bool b23, .int .u64 (valT E 23 : Nat), .int .u64 (valT E 2 : Nat), .bool b36, .int .u64 (valT E 36 : Nat), .int .u64 (valT E 35 : Nat), .bool q1, .int .u64 (q2 : Nat), .int .u64 (q3 : Nat), .bool b20, .bool pk, .bool b25, .int .u64 (valT E 25 : Nat), .int .u64 (valT E 27 : Nat), .bool b26, .int .u64 (valT E 26 : Nat), .int .u64 (valT E 28 : Nat)] HD1.out rfl rfl rfl u6_size (by intro u hu; rw [List.mem_singleton.1 hu]; rfl) (show 9 + 1 ≤ 40 by decide) (by rfl) ?_)
          intro y1 hg9 hb9
          have HB2 := hide (grown_below (Nat.le_refl _) HB1.out hb9)
          have HD2 := hide hg9
          clear hg9 hb9 HB1 HD1
          go_wp2_with ((with_reducible refine at_store ?_); refine store_any rfl _ _ _ rfl x7.heap.size 10 62 _ (.int .u64 (valT E 4 : Nat)) [.int .u64 (valT E 4 : Nat)] #[.string ⟨#[]⟩, .string ⟨#[]⟩, .slice none 0 0, .bool false, .bool false, .bool false, .bool b5, .int .u64 (valT E 5 : Nat), .int .u64 (valT E 10 : Nat), .int .u64 (valT E 6 : Nat), .int .u64 (valT E 4 : Nat), .int .u64 0, .int .u64 0, .int .u64 0, .int .u64 0, .int .u64 0, .int .u64 0, .bool b17, .int .u64 (valT E 17 : Nat), .int .u64 (valT E 18 : Nat), .bool b7, .int .u64 (valT E 7 : Nat), .int .u64 (valT E 8 : Nat), .bool b23, .int .u64 (valT E 23 : Nat), .int .u64 (valT E 2 : Nat), .bool b36, .int .u64 (valT E 36 : Nat), .int .u64 (valT E 35 : Nat), .bool q1, .int .u64 (q2 : Nat), .int .u64 (q3 : Nat), .bool b20, .bool pk, .bool b25, .int .u64 (valT E 25 : Nat), .int .u64 (valT E 27 : Nat), .bool b26, .int .u64 (valT E 26 : Nat), .int .u64 (valT E 28 : Nat)] HD2.out rfl rfl rfl u6_size (by intro u hu; rw [List.mem_singleton.1 hu]; rfl) (show 10 + 1 ≤ 40 by decide) (by rfl) ?_)
          intro y2 hg9 hb9
          have HB3 := hide (grown_below (Nat.le_refl _) HB2.out hb9)
          have HD3 := hide hg9
          clear hg9 hb9 HB2 HD2
          go_wp2_with ((with_reducible refine at_store ?_); refine store_any rfl _ _ _ rfl x7.heap.size 11 62 _ (.int .u64 (valT E 1879047925 : Nat)) [.int .u64 (valT E 1879047925 : Nat)] #[.string ⟨#[]⟩, .string ⟨#[]⟩, .slice none 0 0, .bool false, .bool false, .bool false, .bool b5, .int .u64 (valT E 5 : Nat), .int .u64 (valT E 10 : Nat), .int .u64 (valT E 6 : Nat), .int .u64 (valT E 4 : Nat), .int .u64 (valT E 1879047925 : Nat), .int .u64 0, .int .u64 0, .int .u64 0, .int .u64 0, .int .u64 0, .bool b17, .int .u64 (valT E 17 : Nat), .int .u64 (valT E 18 : Nat), .bool b7, .int .u64 (valT E 7 : Nat), .int .u64 (valT E 8 : Nat), .bool b23, .int .u64 (valT E 23 : Nat), .int .u64 (valT E 2 : Nat), .bool b36, .int .u64 (valT E 36 : Nat), .int .u64 (valT E 35 : Nat), .bool q1, .int .u64 (q2 : Nat), .int .u64 (q3 : Nat), .bool b20, .bool pk, .bool b25, .int .u64 (valT E 25 : Nat), .int .u64 (valT E 27 : Nat), .bool b26, .int .u64 (valT E 26 : Nat), .int .u64 (valT E 28 : Nat)] HD3.out rfl rfl rfl u6_size (by intro u hu; rw [List.mem_singleton.1 hu]; rfl) (show 11 + 1 ≤ 40 by decide) (by rfl) ?_)
          intro y3 hg9 hb9
          have HB4 := hide (grown_below (Nat.le_refl _) HB3.out hb9)
          have HD4 := hide hg9
          clear hg9 hb9 HB3 HD3
          go_wp2_with ((with_reducible refine at_store ?_); refine store_any rfl _ _ _ rfl x7.heap.size 12 62 _ (.int .u64 (valT E 1879048176 : Nat)) [.int .u64 (valT E 1879048176 : Nat)] #[.string ⟨#[]⟩, .string ⟨#[]⟩, .slice none 0 0, .bool false, .bool false, .bool false, .bool b5, .int .u64 (valT E 5 : Nat), .int .u64 (valT E 10 : Nat), .int .u64 (valT E 6 : Nat), .int .u64 (valT E 4 : Nat), .int .u64 (valT E 1879047925 : Nat), .int .u64 (valT E 1879048176 : Nat), .int .u64 0, .int .u64 0, .int .u64 0, .int .u64 0, .bool b17, .int .u64 (valT E 17 : Nat), .int .u64 (valT E 18 : Nat), .bool b7, .int .u64 (valT E 7 : Nat), .int .u64 (valT E 8 : Nat), .bool b23, .int .u64 (valT E 23 : Nat), .int .u64 (valT E 2 : Nat), .bool b36, .int .u64 (valT E 36 : Nat), .int .u64 (valT E 35 : Nat), .bool q1, .int .u64 (q2 : Nat), .int .u64 (q3 : Nat), .bool b20, .bool pk, .bool b25, .int .u64 (valT E 25 : Nat), .int .u64 (valT E 27 : Nat), .bool b26, .int .u64 (valT E 26 : Nat), .int .u64 (valT E 28 : Nat)] HD4.out rfl rfl rfl u6_size (by intro u hu; rw [List.mem_singleton.1 hu]; rfl) (show 12 + 1 ≤ 40 by decide) (by rfl) ?_)
          intro y4 hg9 hb9
          have HB5 := hide (grown_below (Nat.le_refl _) HB4.out hb9)
          have HD5 := hide hg9
          clear hg9 hb9 HB4 HD4
          have k9 := HKV.out 1879048188 _ HB5.out
          go_wp2_with fail
          refine k9.mono ?_
          rintro e w9 ⟨rfl, rfl⟩
          clear k9
          have k9 := HKV.out 1879048189 _ HB5.out
          go_wp2_with fail
          refine k9.mono ?_
          rintro e w9 ⟨rfl, rfl⟩
          clear k9
          have k9 := HKV.out 1879048190 _ HB5.out
          go_wp2_with fail
          refine k9.mono ?_
          rintro e w9 ⟨rfl, rfl⟩
          clear k9
          have k9 := HKV.out 1879048191 _ HB5.out
          go_wp2_with fail
          refine k9.mono ?_
          rintro e w9 ⟨rfl, rfl⟩
          clear k9
          go_wp2_with ((with_reducible refine at_store ?_); refine store_any rfl _ _ _ rfl x7.heap.size 13 62 _ (.int .u64 (valT E 1879048188 : Nat)) [.int .u64 (valT E 1879048188 : Nat)] #[.string ⟨#[]⟩, .string ⟨#[]⟩, .slice none 0 0, .bool false, .bool false, .bool false, .bool b5, .int .u64 (valT E 5 : Nat), .int .u64 (valT E 10 : Nat), .int .u64 (valT E 6 : Nat), .int .u64 (valT E 4 : Nat), .int .u64 (valT E 1879047925 : Nat), .int .u64 (valT E 1879048176 : Nat), .int .u64 (valT E 1879048188 : Nat), .int .u64 0, .int .u64 0, .int .u64 0, .bool b17, .int .u64 (valT E 17 : Nat), .int .u64 (valT E 18 : Nat), .bool b7, .int .u64 (valT E 7 : Nat), .int .u64 (valT E 8 : Nat), .bool b23, .int .u64 (valT E 23 : Nat), .int .u64 (valT E 2 : Nat), .bool b36, .int .u64 (valT E 36 : Nat), .int .u64 (valT E 35 : Nat), .bool q1, .int .u64 (q2 : Nat), .int .u64 (q3 : Nat), .bool b20, .bool pk, .bool b25, .int .u64 (valT E 25 : Nat), .int .u64 (valT E 27 : Nat), .bool b26, .int .u64 (valT E 26 : Nat), .int .u64 (valT E 28 : Nat)] HD5.out rfl rfl rfl u6_size (by intro u hu; rw [List.mem_singleton.1 hu]; rfl) (show 13 + 1 ≤ 40 by decide) (by rfl) ?_)
          intro y5 hg9 hb9
          have HB6 := hide (grown_below (Nat.le_refl _) HB5.out hb9)
          have HD6 := hide hg9
          clear hg9 hb9 HB5 HD5
          go_wp2_with ((with_reducible refine at_store ?_); refine store_any rfl _ _ _ rfl x7.heap.size 15 62 _ (.int .u64 (valT E 1879048189 : Nat)) [.int .u64 (valT E 1879048189 : Nat)] #[.string ⟨#[]⟩, .string ⟨#[]⟩, .slice none 0 0, .bool false, .bool false, .bool false, .bool b5, .int .u64 (valT E 5 : Nat), .int .u64 (valT E 10 : Nat), .int .u64 (valT E 6 : Nat), .int .u64 (valT E 4 : Nat), .int .u64 (valT E 1879047925 : Nat), .int .u64 (valT E 1879048176 : Nat), .int .u64 (valT E 1879048188 : Nat), .int .u64 0, .int .u64 (valT E 1879048189 : Nat), .int .u64 0, .bool b17, .int .u64 (valT E 17 : Nat), .int .u64 (valT E 18 : Nat), .bool b7, .int .u64 (valT E 7 : Nat), .int .u64 (valT E 8 : Nat), .bool b23, .int .u64 (valT E 23 : Nat), .int .u64 (valT E 2 : Nat), .bool b36, .int .u64 (valT E 36 : Nat), .int .u64 (valT E 35 : Nat), .bool q1, .int .u64 (q2 : Nat), .int .u64 (q3 : Nat), .bool b20, .bool pk, .bool b25, .int .u64 (valT E 25 : Nat), .int .u64 (valT E 27 : Nat), .bool b26, .int .u64 (valT E 26 : Nat), .int .u64 (valT E 28 : Nat)] HD6.out rfl rfl rfl u6_size (by intro u hu; rw [List.mem_singleton.1 hu]; rfl) (show 15 + 1 ≤ 40 by decide) (by rfl) ?_)
          intro y6 hg9 hb9
          have HB7 := hide (grown_below (Nat.le_refl _) HB6.out hb9)
          have HD7 := hide hg9
          clear hg9 hb9 HB6 HD6
          go_wp2_with ((with_reducible refine at_store ?_); refine store_any rfl _ _ _ rfl x7.heap.size 14 62 _ (.int .u64 (valT E 1879048190 : Nat)) [.int .u64 (valT E 1879048190 : Nat)] #[.string ⟨#[]⟩, .string ⟨#[]⟩, .slice none 0 0, .bool false, .bool false, .bool false, .bool b5, .int .u64 (valT E 5 : Nat), .int .u64 (valT E 10 : Nat), .int .u64 (valT E 6 : Nat), .int .u64 (valT E 4 : Nat), .int .u64 (valT E 1879047925 : Nat), .int .u64 (valT E 1879048176 : Nat), .int .u64 (valT E 1879048188 : Nat), .int .u64 (valT E 1879048190 : Nat), .int .u64 (valT E 1879048189 : Nat), .int .u64 0, .bool b17, .int .u64 (valT E 17 : Nat), .int .u64 (valT E 18 : Nat), .bool b7, .int .u64 (valT E 7 : Nat), .int .u64 (valT E 8 : Nat), .bool b23, .int .u64 (valT E 23 : Nat), .int .u64 (valT E 2 : Nat), .bool b36, .int .u64 (valT E 36 : Nat), .int .u64 (valT E 35 : Nat), .bool q1, .int .u64 (q2 : Nat), .int .u64 (q3 : Nat), .bool b20, .bool pk, .bool b25, .int .u64 (valT E 25 : Nat), .int .u64 (valT E 27 : Nat), .bool b26, .int .u64 (valT E 26 : Nat), .int .u64 (valT E 28 : Nat)] HD7.out rfl rfl rfl u6_size (by intro u hu; rw [List.mem_singleton.1 hu]; rfl) (show 14 + 1 ≤ 40 by decide) (by rfl) ?_)
          intro y7 hg9 hb9
          have HB8 := hide (grown_below (Nat.le_refl _) HB7.out hb9)
          have HD8 := hide hg9
          clear hg9 hb9 HB7 HD7
          go_wp2_with ((with_reducible refine at_store ?_); refine store_any rfl _ _ _ rfl x7.heap.size 16 62 _ (.int .u64 (valT E 1879048191 : Nat)) [.int .u64 (valT E 1879048191 : Nat)] #[.string ⟨#[]⟩, .string ⟨#[]⟩, .slice none 0 0, .bool false, .bool false, .bool false, .bool b5, .int .u64 (valT E 5 : Nat), .int .u64 (valT E 10 : Nat), .int .u64 (valT E 6 : Nat), .int .u64 (valT E 4 : Nat), .int .u64 (valT E 1879047925 : Nat), .int .u64 (valT E 1879048176 : Nat), .int .u64 (valT E 1879048188 : Nat), .int .u64 (valT E 1879048190 : Nat), .int .u64 (valT E 1879048189 : Nat), .int .u64 (valT E 1879048191 : Nat), .bool b17, .int .u64 (valT E 17 : Nat), .int .u64 (valT E 18 : Nat), .bool b7, .int .u64 (valT E 7 : Nat), .int .u64 (valT E 8 : Nat), .bool b23, .int .u64 (valT E 23 : Nat), .int .u64 (valT E 2 : Nat), .bool b36, .int .u64 (valT E 36 : Nat), .int .u64 (valT E 35 : Nat), .bool q1, .int .u64 (q2 : Nat), .int .u64 (q3 : Nat), .bool b20, .bool pk, .bool b25, .int .u64 (valT E 25 : Nat), .int .u64 (valT E 27 : Nat), .bool b26, .int .u64 (valT E 26 : Nat), .int .u64 (valT E 28 : Nat)] HD8.out rfl rfl rfl u6_size (by intro u hu; rw [List.mem_singleton.1 hu]; rfl) (show 16 + 1 ≤ 40 by decide) (by rfl) ?_)
          intro y8 hg9 hb9
          have HB9 := hide (grown_below (Nat.le_refl _) HB8.out hb9)
          have HD9 := hide hg9
          clear hg9 hb9 HB8 HD8
          obtain ⟨bsy, hsy⟩ : ∃ b, (decide (cntT E 16 = 1) || bitB (valT E 30) 2) = b := ⟨_, rfl⟩
          have HSY := hide hsy
          have e30 := bit2 (valT E 30) (val_le (fun e he => (HEK.out e he).1) 30)
          clear hsy
          go_upto_region 16 with fail
          go_cut [] from 19 (fun wx => Hid (Below x7.heap.size x7 wx) ∧ Hid (wx.heap[x7.heap.size]? = some (.cells #[.string ⟨#[]⟩, .string ⟨#[]⟩, .slice none 0 0, .bool bsy, .bool false, .bool false, .bool b5, .int .u64 (valT E 5 : Nat), .int .u64 (valT E 10 : Nat), .int .u64 (valT E 6 : Nat), .int .u64 (valT E 4 : Nat), .int .u64 (valT E 1879047925 : Nat), .int .u64 (valT E 1879048176 : Nat), .int .u64 (valT E 1879048188 : Nat), .int .u64 (valT E 1879048190 : Nat), .int .u64 (valT E 1879048189 : Nat), .int .u64 (valT E 1879048191 : Nat), .bool b17, .int .u64 (valT E 17 : Nat), .int .u64 (valT E 18 : Nat), .bool b7, .int .u64 (valT E 7 : Nat), .int .u64 (valT E 8 : Nat), .bool b23, .int .u64 (valT E 23 : Nat), .int .u64 (valT E 2 : Nat), .bool b36, .int .u64 (valT E 36 : Nat), .int .u64 (valT E 35 : Nat), .bool q1, .int .u64 (q2 : Nat), .int .u64 (q3 : Nat), .bool b20, .bool pk, .bool b25, .int .u64 (valT E 25 : Nat), .int .u64 (valT E 27 : Nat), .bool b26, .int .u64 (valT E 26 : Nat), .int .u64 (valT E 28 : Nat)] 62 (0, 0))))
          case first =>
            have k16 := HKN.out 16 _ HB9.out
            have k30 := HKV.out 30 _ HB9.out
            by_cases c16 : cntT E 16 = 1
            · have hcb : ((cntT E 16 : Int) == 1) = true := by rw [c16]; rfl
              have hbs : true = bsy := by rw [← HSY.out, decide_eq_true c16]; rfl
              have HBS := hide hbs
              clear c16 hbs
              go_wp2_with fail
              refine k16.mono ?_
              rintro e w9 ⟨rfl, rfl⟩
              clear k16 k30
              go_wp2_with ((with_reducible refine at_store ?_); refine store_any rfl _ _ _ rfl x7.heap.size 3 62 _ (.bool true) [.bool true] #[.string ⟨#[]⟩, .string ⟨#[]⟩, .slice none 0 0, .bool true, .bool false, .bool false, .bool b5, .int .u64 (valT E 5 : Nat), .int .u64 (valT E 10 : Nat), .int .u64 (valT E 6 : Nat), .int .u64 (valT E 4 : Nat), .int .u64 (valT E 1879047925 : Nat), .int .u64 (valT E 1879048176 : Nat), .int .u64 (valT E 1879048188 : Nat), .int .u64 (valT E 1879048190 : Nat), .int .u64 (valT E 1879048189 : Nat), .int .u64 (valT E 1879048191 : Nat), .bool b17, .int .u64 (valT E 17 : Nat), .int .u64 (valT E 18 : Nat), .bool b7, .int .u64 (valT E 7 : Nat), .int .u64 (valT E 8 : Nat), .bool b23, .int .u64 (valT E 23 : Nat), .int .u64 (valT E 2 : Nat), .bool b36, .int .u64 (valT E 36 : Nat), .int .u64 (valT E 35 : Nat), .bool q1, .int .u64 (q2 : Nat), .int .u64 (q3 : Nat), .bool b20, .bool pk, .bool b25, .int .u64 (valT E 25 : Nat), .int .u64 (valT E 27 : Nat), .bool b26, .int .u64 (valT E 26 : Nat), .int .u64 (valT E 28 : Nat)] HD9.out rfl rfl rfl bo_size (by intro u hu; rw [List.mem_singleton.1 hu]; rfl) (show 3 + 1 ≤ 40 by decide) (by rfl) ?_)
              intro z1 hg9 hb9
              have HZ1 := hide (grown_below (Nat.le_refl _) HB9.out hb9)
              have HY1 := hide hg9
              clear hg9 hb9
              go_wp2
              go_meet
              case rel => exact ⟨HZ1, by rw [Hid, ← HBS.out]; exact HY1.out⟩
            · have hcb : ((cntT E 16 : Int) == 1) = false := by simp; omega
              have hbs : bitB (valT E 30) 2 = bsy := by rw [← HSY.out, decide_eq_false c16]; rfl
              rw [hbs] at e30
              clear c16 hbs
              go_wp2_with fail
              refine k16.mono ?_
              rintro e w9 ⟨rfl, rfl⟩
              clear k16
              go_wp2_with fail
              refine k30.mono ?_
              rintro e w9 ⟨rfl, rfl⟩
              clear k30
              go_wp2_with ((with_reducible refine at_store ?_); refine store_any rfl _ _ _ rfl x7.heap.size 3 62 _ (.bool bsy) [.bool bsy] #[.string ⟨#[]⟩, .string ⟨#[]⟩, .slice none 0 0, .bool bsy, .bool false, .bool false, .bool b5, .int .u64 (valT E 5 : Nat), .int .u64 (valT E 10 : Nat), .int .u64 (valT E 6 : Nat), .int .u64 (valT E 4 : Nat), .int .u64 (valT E 1879047925 : Nat), .int .u64 (valT E 1879048176 : Nat), .int .u64 (valT E 1879048188 : Nat), .int .u64 (valT E 1879048190 : Nat), .int .u64 (valT E 1879048189 : Nat), .int .u64 (valT E 1879048191 : Nat), .bool b17, .int .u64 (valT E 17 : Nat), .int .u64 (valT E 18 : Nat), .bool b7, .int .u64 (valT E 7 : Nat), .int .u64 (valT E 8 : Nat), .bool b23, .int .u64 (valT E 23 : Nat), .int .u64 (valT E 2 : Nat), .bool b36, .int .u64 (valT E 36 : Nat), .int .u64 (valT E 35 : Nat), .bool q1, .int .u64 (q2 : Nat), .int .u64 (q3 : Nat), .bool b20, .bool pk, .bool b25, .int .u64 (valT E 25 : Nat), .int .u64 (valT E 27 : Nat), .bool b26, .int .u64 (valT E 26 : Nat), .int .u64 (valT E 28 : Nat)] HD9.out rfl rfl rfl bo_size (by intro u hu; rw [List.mem_singleton.1 hu]; rfl) (show 3 + 1 ≤ 40 by decide) (by rfl) ?_)
              intro z1 hg9 hb9
              have HZ1 := hide (grown_below (Nat.le_refl _) HB9.out hb9)
              have HY1 := hide hg9
              clear hg9 hb9
              go_wp2
              go_meet
              case rel => exact ⟨HZ1, HY1⟩
          case rest =>
            obtain ⟨HB10, HD10⟩ := hcut
            clear HB9 HD9 e30
            obtain ⟨bgl, hgl⟩ : ∃ b, bitB (valT E 1879048187) 2 = b := ⟨_, rfl⟩
            obtain ⟨bno, hno⟩ : ∃ b, bitB (valT E 1879048187) 8 = b := ⟨_, rfl⟩
            have e2 := bit2 (valT E 1879048187) (val_le (fun e he => (HEK.out e he).1) 1879048187)
            have e8 := bit8 (valT E 1879048187) (val_le (fun e he => (HEK.out e he).1) 1879048187)
            rw [hgl] at e2
            rw [hno] at e8
            have HGL := hide hgl
            have HNO := hide hno
            clear hgl hno
            have k9 := HKV.out 1879048187 _ HB10.out
            go_wp2_with fail
            refine k9.mono ?_
            rintro e w9 ⟨rfl, rfl⟩
            clear k9
            go_wp2_with ((with_reducible refine at_store ?_); refine store_any rfl _ _ _ rfl x7.heap.size 4 62 _ (.bool bgl) [.bool bgl] #[.string ⟨#[]⟩, .string ⟨#[]⟩, .slice none 0 0, .bool bsy, .bool bgl, .bool false, .bool b5, .int .u64 (valT E 5 : Nat), .int .u64 (valT E 10 : Nat), .int .u64 (valT E 6 : Nat), .int .u64 (valT E 4 : Nat), .int .u64 (valT E 1879047925 : Nat), .int .u64 (valT E 1879048176 : Nat), .int .u64 (valT E 1879048188 : Nat), .int .u64 (valT E 1879048190 : Nat), .int .u64 (valT E 1879048189 : Nat), .int .u64 (valT E 1879048191 : Nat), .bool b17, .int .u64 (valT E 17 : Nat), .int .u64 (valT E 18 : Nat), .bool b7, .int .u64 (valT E 7 : Nat), .int .u64 (valT E 8 : Nat), .bool b23, .int .u64 (valT E 23 : Nat), .int .u64 (valT E 2 : Nat), .bool b36, .int .u64 (valT E 36 : Nat), .int .u64 (valT E 35 : Nat), .bool q1, .int .u64 (q2 : Nat), .int .u64 (q3 : Nat), .bool b20, .bool pk, .bool b25, .int .u64 (valT E 25 : Nat), .int .u64 (valT E 27 : Nat), .bool b26, .int .u64 (valT E 26 : Nat), .int .u64 (valT E 28 : Nat)] HD10.out rfl rfl rfl bo_size (by intro u hu; rw [List.mem_singleton.1 hu]; rfl) (show 4 + 1 ≤ 40 by decide) (by rfl) ?_)
            intro y10 hg9 hb9
            have HB11 := hide (grown_below (Nat.le_refl _) HB10.out hb9)
            have HD11 := hide hg9
            clear hg9 hb9 HB10 HD10
            have k9 := HKV.out 1879048187 _ HB11.out
            go_wp2_with fail
            refine k9.mono ?_
            rintro e w9 ⟨rfl, rfl⟩
            clear k9
            go_wp2_with ((with_reducible refine at_store ?_); refine store_any rfl _ _ _ rfl x7.heap.size 5 62 _ (.bool bno) [.bool bno] #[.string ⟨#[]⟩, .string ⟨#[]⟩, .slice none 0 0, .bool bsy, .bool bgl, .bool bno, .bool b5, .int .u64 (valT E 5 : Nat), .int .u64 (valT E 10 : Nat), .int .u64 (valT E 6 : Nat), .int .u64 (valT E 4 : Nat), .int .u64 (valT E 1879047925 : Nat), .int .u64 (valT E 1879048176 : Nat), .int .u64 (valT E 1879048188 : Nat), .int .u64 (valT E 1879048190 : Nat), .int .u64 (valT E 1879048189 : Nat), .int .u64 (valT E 1879048191 : Nat), .bool b17, .int .u64 (valT E 17 : Nat), .int .u64 (valT E 18 : Nat), .bool b7, .int .u64 (valT E 7 : Nat), .int .u64 (valT E 8 : Nat), .bool b23, .int .u64 (valT E 23 : Nat), .int .u64 (valT E 2 : Nat), .bool b36, .int .u64 (valT E 36 : Nat), .int .u64 (valT E 35 : Nat), .bool q1, .int .u64 (q2 : Nat), .int .u64 (q3 : Nat), .bool b20, .bool pk, .bool b25, .int .u64 (valT E 25 : Nat), .int .u64 (valT E 27 : Nat), .bool b26, .int .u64 (valT E 26 : Nat), .int .u64 (valT E 28 : Nat)] HD11.out rfl rfl rfl bo_size (by intro u hu; rw [List.mem_singleton.1 hu]; rfl) (show 5 + 1 ≤ 40 by decide) (by rfl) ?_)
            intro y11 hg9 hb9
            have HB12 := hide (grown_below (Nat.le_refl _) HB11.out hb9)
            have HD12 := hide hg9
            clear hg9 hb9 HB11 HD11
            have HBw : Hid (Below w.heap.size w y11) := HB4.out.trans (HB12.out.mono HB4.out.size)
            have HGw := hide (block_stay HG4.out HB12.out)
            have hv5 := val_le (fun e he => (HEK.out e he).1) 5
            have hv10 := val_le (fun e he => (HEK.out e he).1) 10
            have hS := HST.out _ HBw.out #[.string ⟨#[]⟩, .string ⟨#[]⟩, .slice none 0 0, .bool bsy, .bool bgl, .bool bno, .bool b5, .int .u64 (valT E 5 : Nat), .int .u64 (valT E 10 : Nat), .int .u64 (valT E 6 : Nat), .int .u64 (valT E 4 : Nat), .int .u64 (valT E 1879047925 : Nat), .int .u64 (valT E 1879048176 : Nat), .int .u64 (valT E 1879048188 : Nat), .int .u64 (valT E 1879048190 : Nat), .int .u64 (valT E 1879048189 : Nat), .int .u64 (valT E 1879048191 : Nat), .bool b17, .int .u64 (valT E 17 : Nat), .int .u64 (valT E 18 : Nat), .bool b7, .int .u64 (valT E 7 : Nat), .int .u64 (valT E 8 : Nat), .bool b23, .int .u64 (valT E 23 : Nat), .int .u64 (valT E 2 : Nat), .bool b36, .int .u64 (valT E 36 : Nat), .int .u64 (valT E 35 : Nat), .bool q1, .int .u64 (q2 : Nat), .int .u64 (q3 : Nat), .bool b20, .bool pk, .bool b25, .int .u64 (valT E 25 : Nat), .int .u64 (valT E 27 : Nat), .bool b26, .int .u64 (valT E 26 : Nat), .int .u64 (valT E 28 : Nat)] rfl (valT E 5) (valT E 10) rfl rfl (by omega) (by omega)
            have hsl := HSL.out (valT E 5) (valT E 10)
            have hO := HO4.out
            obtain ⟨⟨S, sb⟩, hSS⟩ : ∃ S, partZ l ps (valT E 5) (valT E 10) = S := ⟨_, rfl⟩
            simp only [hSS] at hS hsl hO
            have HO5 := hide hO
            clear hSS hO HO4 hv5 hv10
            go_wp2_with (first
              | ((with_reducible refine at_load ?_); refine load_row rfl _ _ rfl w.heap.size _ (load_hd HGw.out rfl) rfl ?_)
              | ((with_reducible refine at_loadD ?_); refine load_row rfl _ _ rfl x7.heap.size _ (load_dy HD12.out rfl) rfl ?_))
            refine hS.mono ?_
            rintro e ws ⟨⟨vs, rfl, ownS⟩, hbs⟩
            have HBs : Hid (Below x7.heap.size x7 ws) := HB12.out.trans (hbs.mono HB12.out.size)
            have HDs := hide (block_stay HD12.out hbs)
            have HBws : Hid (Below w.heap.size w ws) := HBw.out.trans (hbs.mono HBw.out.size)
            have HRs := hide (block_stay HR4.out HBs.out)
            obtain ⟨sa, sc, rfl, _⟩ := (ownS.arg (by omega)).isSlice
            have HSLN : Hid (S.length ≤ 1000000000000) := by unfold Hid; omega
            generalize hsn : S.length = sn at *
            have HSN := hide hsn
            have hBS : x7.heap.size < y11.heap.size := (Array.getElem?_eq_some_iff.1 HD12.out).1
            obtain ⟨BS, hBSe⟩ : ∃ BS, y11.heap.size = BS := ⟨_, rfl⟩
            rw [hBSe] at ownS hBS
            have HSs := hide ownS
            have HBS := hide hBS
            clear hsn hBSe hBS
            clear hS hbs ownS HB12 HD12 HBw HGw hsl
            cases sb with
            | false =>
              have HF : Hid (Except.error 91 = O) := by have := HO5.out; rw [if_pos rfl] at this; exact this
              clear HO5
              go_wp2_with ((with_reducible refine at_store ?_); refine store_part rfl _ _ _ rfl (w.heap.size + 1) 0 62 _ zeroDy zeroDy.toArray HRs.out rfl rfl dy_size zeroDy_one (by decide) (by rfl) ?_)
              intro wz hgz hbz
              have HBy := hide (grown_below (Nat.le_succ _) HBws.out hbz)
              have HGy := hide hgz
              clear hgz hbz
              go_wp2
              (try simp only [Exit.inBlock, Exit.then])
              refine bodyPost_ret (results_cell2 rfl _ _ (w.heap.size + 1) _ _ _ _ rfl HGy.out Try.underlying62 rfl (by kernel_rfl)) rfl ?_
              exact ⟨by rw [← HF.out]; rfl, HBy.out⟩
            | true =>
              have hO := HO5.out
              rw [if_neg (by simp)] at hO
              have HVL := hide (fun t => val_le (fun e he => (HEK.out e he).1) t)
              clear HO5
              have kc := HKN.out 14 ws HBs.out
              have kv := HKV.out 14 ws HBs.out
              have kt := ref_Text ws _ S (HSs.out.arg (by rw [HSN.out]; exact HSLN.out)) (valT E 14) (HVL.out 14)
              have HNM : Hid (nameT S E 14 = if cntT E 14 = 1 then (if (textAt S (valT E 14)).2 = 0 then some (textAt S (valT E 14)).1 else none) else some []) := rfl
              cases hnm : nameT S E 14 with
              | none =>
                rw [hnm] at hO HNM
                have HF : Hid (Except.error 91 = O) := hO
                have hc1 : cntT E 14 = 1 := by
                  by_cases c : cntT E 14 = 1
                  · exact c
                  · have := HNM.out; rw [if_neg c] at this; cases this
                have ht1 : ¬ (textAt S (valT E 14)).2 = 0 := fun c => by have := HNM.out; rw [if_pos hc1, if_pos c] at this; cases this
                have hcb : ((cntT E 14 : Int) == 1) = true := by rw [hc1]; rfl
                have htb : ((textAt S (valT E 14)).2 != 0) = true := by simpa using ht1
                generalize (textAt S (valT E 14)) = TT at *
                clear HNM hc1 ht1 hnm hO
                go_wp2_with fail
                refine kc.mono ?_
                rintro e w9 ⟨rfl, rfl⟩
                go_wp2_with fail
                refine kv.mono ?_
                rintro e w9 ⟨rfl, rfl⟩
                go_wp2_with fail
                refine kt.mono ?_
                rintro e wt ⟨rfl, hbt⟩
                have HBt := hide (HBws.out.trans (hbt.mono HBws.out.size))
                have HRt := hide (block_stay HRs.out hbt)
                clear kc kv kt hbt
                go_wp2_with ((with_reducible refine at_store ?_); refine store_part rfl _ _ _ rfl (w.heap.size + 1) 0 62 _ zeroDy zeroDy.toArray HRt.out rfl rfl dy_size zeroDy_one (by decide) (by rfl) ?_)
                intro wz hgz hbz
                have HBy := hide (grown_below (Nat.le_succ _) HBt.out hbz)
                have HGy := hide hgz
                clear hgz hbz
                go_wp2
                (try simp only [Exit.inBlock, Exit.then])
                refine bodyPost_ret (results_cell2 rfl _ _ (w.heap.size + 1) _ _ _ _ rfl HGy.out Try.underlying62 rfl (by kernel_rfl)) rfl ?_
                exact ⟨by rw [← HF.out]; rfl, HBy.out⟩
              | some so =>
                rw [hnm] at hO HNM
                simp only at hO
                have HO6 := hide hO
                clear hO hnm
                go_wp2_with fail
                refine kc.mono ?_
                rintro e w9 ⟨rfl, rfl⟩
                clear kc
                go_upto_if 134 with fail
                go_cut [12, 13] from 19 (fun _ _ wx => Hid (Below x7.heap.size x7 wx) ∧ Hid (wx.heap[x7.heap.size]? = some (.cells #[.string ⟨so.toArray⟩, .string ⟨#[]⟩, .slice none 0 0, .bool bsy, .bool bgl, .bool bno, .bool b5, .int .u64 (valT E 5 : Nat), .int .u64 (valT E 10 : Nat), .int .u64 (valT E 6 : Nat), .int .u64 (valT E 4 : Nat), .int .u64 (valT E 1879047925 : Nat), .int .u64 (valT E 1879048176 : Nat), .int .u64 (valT E 1879048188 : Nat), .int .u64 (valT E 1879048190 : Nat), .int .u64 (valT E 1879048189 : Nat), .int .u64 (valT E 1879048191 : Nat), .bool b17, .int .u64 (valT E 17 : Nat), .int .u64 (valT E 18 : Nat), .bool b7, .int .u64 (valT E 7 : Nat), .int .u64 (valT E 8 : Nat), .bool b23, .int .u64 (valT E 23 : Nat), .int .u64 (valT E 2 : Nat), .bool b36, .int .u64 (valT E 36 : Nat), .int .u64 (valT E 35 : Nat), .bool q1, .int .u64 (q2 : Nat), .int .u64 (q3 : Nat), .bool b20, .bool pk, .bool b25, .int .u64 (valT E 25 : Nat), .int .u64 (valT E 27 : Nat), .bool b26, .int .u64 (valT E 26 : Nat), .int .u64 (valT E 28 : Nat)] 62 (0, 0))) ∧ Hid (Own wx BS (.slice sa sn sc) S))
                case first =>
                  by_cases hc1 : cntT E 14 = 1
                  · have hcb : ((cntT E 14 : Int) == 1) = true := by rw [hc1]; rfl
                    have ht1 : (textAt S (valT E 14)).2 = 0 := by
                      by_cases c : (textAt S (valT E 14)).2 = 0
                      · exact c
                      · have := HNM.out; rw [if_pos hc1, if_neg c] at this; cases this
                    have hso : (textAt S (valT E 14)).1 = so := by have := HNM.out; rw [if_pos hc1, if_pos ht1] at this; exact (Option.some.inj this).symm
                    rw [hso, ht1] at kt
                    clear HNM hc1 ht1 hso
                    go_wp2_with fail
                    refine kv.mono ?_
                    rintro e w9 ⟨rfl, rfl⟩
                    go_wp2_with fail
                    refine kt.mono ?_
                    rintro e wt ⟨rfl, hbt⟩
                    have HBt := hide (HBs.out.trans (hbt.mono HBs.out.size))
                    have HDt := hide (block_stay HDs.out hbt)
                    have HSt := hide (HSs.out.stay hbt)
                    clear kv kt hbt
                    go_wp2_with ((with_reducible refine at_store ?_); refine store_any rfl _ _ _ rfl x7.heap.size 0 62 _ (.string ⟨so.toArray⟩) [.string ⟨so.toArray⟩] #[.string ⟨so.toArray⟩, .string ⟨#[]⟩, .slice none 0 0, .bool bsy, .bool bgl, .bool bno, .bool b5, .int .u64 (valT E 5 : Nat), .int .u64 (valT E 10 : Nat), .int .u64 (valT E 6 : Nat), .int .u64 (valT E 4 : Nat), .int .u64 (valT E 1879047925 : Nat), .int .u64 (valT E 1879048176 : Nat), .int .u64 (valT E 1879048188 : Nat), .int .u64 (valT E 1879048190 : Nat), .int .u64 (valT E 1879048189 : Nat), .int .u64 (valT E 1879048191 : Nat), .bool b17, .int .u64 (valT E 17 : Nat), .int .u64 (valT E 18 : Nat), .bool b7, .int .u64 (valT E 7 : Nat), .int .u64 (valT E 8 : Nat), .bool b23, .int .u64 (valT E 23 : Nat), .int .u64 (valT E 2 : Nat), .bool b36, .int .u64 (valT E 36 : Nat), .int .u64 (valT E 35 : Nat), .bool q1, .int .u64 (q2 : Nat), .int .u64 (q3 : Nat), .bool b20, .bool pk, .bool b25, .int .u64 (valT E 25 : Nat), .int .u64 (valT E 27 : Nat), .bool b26, .int .u64 (valT E 26 : Nat), .int .u64 (valT E 28 : Nat)] HDt.out rfl rfl rfl st_size (by intro u hu; rw [List.mem_singleton.1 hu]; rfl) (show 0 + 1 ≤ 40 by decide) (by rfl) ?_)
                    intro wz hg9 hb9
                    have HZ1 := hide (grown_below (Nat.le_refl _) HBt.out hb9)
                    have HY1 := hide hg9
                    have HSz : Hid (Own wz BS (.slice sa sn sc) S) := HSt.out.apart hb9 (fun k hk e => by have := (World.ownsRow.lt HSt.out k hk).1; have := HBS.out; injection e with e; omega)
                    clear hg9 hb9
                    go_wp2
                    go_meet
                    case rel => exact ⟨HZ1, HY1, HSz⟩
                  · have hcb : ((cntT E 14 : Int) == 1) = false := by simp; omega
                    have hso : ([] : List UInt8) = so := by have := HNM.out; rw [if_neg hc1] at this; exact (Option.some.inj this).symm
                    subst hso
                    clear HNM hc1 kv kt
                    go_wp2
                    go_meet
                    case rel => exact ⟨HBs, HDs, HSs⟩
                case rest =>
                  obtain ⟨HBp, HDp, HSp⟩ := hcut
                  have HBwp : Hid (Below w.heap.size w wc) := HB4.out.trans (HBp.out.mono HB4.out.size)
                  have HRp := hide (block_stay HR4.out HBp.out)
                  have hO := HO6.out
                  clear HBs HDs HSs HRs HBws HO6 HNM kv kt
                  have kc := HKN.out 29 wc HBp.out
                  have kv := HKV.out 29 wc HBp.out
                  have kt := ref_Text wc _ S (HSp.out.arg (by rw [HSN.out]; exact HSLN.out)) (valT E 29) (HVL.out 29)
                  have HNM : Hid (nameT S E 29 = if cntT E 29 = 1 then (if (textAt S (valT E 29)).2 = 0 then some (textAt S (valT E 29)).1 else none) else some []) := rfl
                  cases hnm : nameT S E 29 with
                  | none =>
                    rw [hnm] at hO HNM
                    have HF : Hid (Except.error 91 = O) := hO
                    have hc1 : cntT E 29 = 1 := by
                      by_cases c : cntT E 29 = 1
                      · exact c
                      · have := HNM.out; rw [if_neg c] at this; cases this
                    have ht1 : ¬ (textAt S (valT E 29)).2 = 0 := fun c => by have := HNM.out; rw [if_pos hc1, if_pos c] at this; cases this
                    have hcb : ((cntT E 29 : Int) == 1) = true := by rw [hc1]; rfl
                    have htb : ((textAt S (valT E 29)).2 != 0) = true := by simpa using ht1
                    generalize (textAt S (valT E 29)) = TT at *
                    clear HNM hc1 ht1 hnm hO
                    go_wp2_with fail
                    refine kc.mono ?_
                    rintro e w9 ⟨rfl, rfl⟩
                    go_wp2_with fail
                    refine kv.mono ?_
                    rintro e w9 ⟨rfl, rfl⟩
                    go_wp2_with fail
                    refine kt.mono ?_
                    rintro e wt ⟨rfl, hbt⟩
                    have HBt := hide (HBwp.out.trans (hbt.mono HBwp.out.size))
                    have HRt := hide (block_stay HRp.out hbt)
                    clear kc kv kt hbt
                    go_wp2_with ((with_reducible refine at_store ?_); refine store_part rfl _ _ _ rfl (w.heap.size + 1) 0 62 _ zeroDy zeroDy.toArray HRt.out rfl rfl dy_size zeroDy_one (by decide) (by rfl) ?_)
                    intro wz hgz hbz
                    have HBy := hide (grown_below (Nat.le_succ _) HBt.out hbz)
                    have HGy := hide hgz
                    clear hgz hbz
                    go_wp2
                    (try simp only [Exit.inBlock, Exit.then])
                    refine bodyPost_ret (results_cell2 rfl _ _ (w.heap.size + 1) _ _ _ _ rfl HGy.out Try.underlying62 rfl (by kernel_rfl)) rfl ?_
                    exact ⟨by rw [← HF.out]; rfl, HBy.out⟩
                  | some ru =>
                    rw [hnm] at hO HNM
                    simp only at hO
                    have HO6 := hide hO
                    clear hO hnm
                    go_wp2_with fail
                    refine kc.mono ?_
                    rintro e w9 ⟨rfl, rfl⟩
                    clear kc
                    go_upto_if 149 with fail
                    go_cut [14, 15] from 19 (fun _ _ wx => Hid (Below x7.heap.size x7 wx) ∧ Hid (wx.heap[x7.heap.size]? = some (.cells #[.string ⟨so.toArray⟩, .string ⟨ru.toArray⟩, .slice none 0 0, .bool bsy, .bool bgl, .bool bno, .bool b5, .int .u64 (valT E 5 : Nat), .int .u64 (valT E 10 : Nat), .int .u64 (valT E 6 : Nat), .int .u64 (valT E 4 : Nat), .int .u64 (valT E 1879047925 : Nat), .int .u64 (valT E 1879048176 : Nat), .int .u64 (valT E 1879048188 : Nat), .int .u64 (valT E 1879048190 : Nat), .int .u64 (valT E 1879048189 : Nat), .int .u64 (valT E 1879048191 : Nat), .bool b17, .int .u64 (valT E 17 : Nat), .int .u64 (valT E 18 : Nat), .bool b7, .int .u64 (valT E 7 : Nat), .int .u64 (valT E 8 : Nat), .bool b23, .int .u64 (valT E 23 : Nat), .int .u64 (valT E 2 : Nat), .bool b36, .int .u64 (valT E 36 : Nat), .int .u64 (valT E 35 : Nat), .bool q1, .int .u64 (q2 : Nat), .int .u64 (q3 : Nat), .bool b20, .bool pk, .bool b25, .int .u64 (valT E 25 : Nat), .int .u64 (valT E 27 : Nat), .bool b26, .int .u64 (valT E 26 : Nat), .int .u64 (valT E 28 : Nat)] 62 (0, 0))) ∧ Hid (Own wx BS (.slice sa sn sc) S))
                    case first =>
                      by_cases hc1 : cntT E 29 = 1
                      · have hcb : ((cntT E 29 : Int) == 1) = true := by rw [hc1]; rfl
                        have ht1 : (textAt S (valT E 29)).2 = 0 := by
                          by_cases c : (textAt S (valT E 29)).2 = 0
                          · exact c
                          · have := HNM.out; rw [if_pos hc1, if_neg c] at this; cases this
                        have hso : (textAt S (valT E 29)).1 = ru := by have := HNM.out; rw [if_pos hc1, if_pos ht1] at this; exact (Option.some.inj this).symm
                        rw [hso, ht1] at kt
                        clear HNM hc1 ht1 hso
                        go_wp2_with fail
                        refine kv.mono ?_
                        rintro e w9 ⟨rfl, rfl⟩
                        go_wp2_with fail
                        refine kt.mono ?_
                        rintro e wt ⟨rfl, hbt⟩
                        have HBt := hide (HBp.out.trans (hbt.mono HBp.out.size))
                        have HDt := hide (block_stay HDp.out hbt)
                        have HSt := hide (HSp.out.stay hbt)
                        clear kv kt hbt
                        go_wp2_with ((with_reducible refine at_store ?_); refine store_any rfl _ _ _ rfl x7.heap.size 1 62 _ (.string ⟨ru.toArray⟩) [.string ⟨ru.toArray⟩] #[.string ⟨so.toArray⟩, .string ⟨ru.toArray⟩, .slice none 0 0, .bool bsy, .bool bgl, .bool bno, .bool b5, .int .u64 (valT E 5 : Nat), .int .u64 (valT E 10 : Nat), .int .u64 (valT E 6 : Nat), .int .u64 (valT E 4 : Nat), .int .u64 (valT E 1879047925 : Nat), .int .u64 (valT E 1879048176 : Nat), .int .u64 (valT E 1879048188 : Nat), .int .u64 (valT E 1879048190 : Nat), .int .u64 (valT E 1879048189 : Nat), .int .u64 (valT E 1879048191 : Nat), .bool b17, .int .u64 (valT E 17 : Nat), .int .u64 (valT E 18 : Nat), .bool b7, .int .u64 (valT E 7 : Nat), .int .u64 (valT E 8 : Nat), .bool b23, .int .u64 (valT E 23 : Nat), .int .u64 (valT E 2 : Nat), .bool b36, .int .u64 (valT E 36 : Nat), .int .u64 (valT E 35 : Nat), .bool q1, .int .u64 (q2 : Nat), .int .u64 (q3 : Nat), .bool b20, .bool pk, .bool b25, .int .u64 (valT E 25 : Nat), .int .u64 (valT E 27 : Nat), .bool b26, .int .u64 (valT E 26 : Nat), .int .u64 (valT E 28 : Nat)] HDt.out rfl rfl rfl st_size (by intro u hu; rw [List.mem_singleton.1 hu]; rfl) (show 1 + 1 ≤ 40 by decide) (by rfl) ?_)
                        intro wz hg9 hb9
                        have HZ1 := hide (grown_below (Nat.le_refl _) HBt.out hb9)
                        have HY1 := hide hg9
                        have HSz : Hid (Own wz BS (.slice sa sn sc) S) := HSt.out.apart hb9 (fun k hk e => by have := (World.ownsRow.lt HSt.out k hk).1; have := HBS.out; injection e with e; omega)
                        clear hg9 hb9
                        go_wp2
                        go_meet
                        case rel => exact ⟨HZ1, HY1, HSz⟩
                      · have hcb : ((cntT E 29 : Int) == 1) = false := by simp; omega
                        have hso : ([] : List UInt8) = ru := by have := HNM.out; rw [if_neg hc1] at this; exact (Option.some.inj this).symm
                        subst hso
                        clear HNM hc1 kv kt
                        go_wp2
                        go_meet
                        case rel => exact ⟨HBp, HDp, HSp⟩
                    case rest =>
                      obtain ⟨HBq, HDq, HSq⟩ := hcut
                      have HBwq : Hid (Below w.heap.size w wc) := HB4.out.trans (HBq.out.mono HB4.out.size)
                      have HRq := hide (block_stay HR4.out HBq.out)
                      have hO := HO6.out
                      clear HBp HDp HSp HRp HBwp HO6 HNM kv kt
                      have HO7 := hide hO
                      clear hO
                      have hTL : ([.bool bsy, .bool bgl, .bool bno, .bool b5, .int .u64 (valT E 5 : Nat), .int .u64 (valT E 10 : Nat), .int .u64 (valT E 6 : Nat), .int .u64 (valT E 4 : Nat), .int .u64 (valT E 1879047925 : Nat), .int .u64 (valT E 1879048176 : Nat), .int .u64 (valT E 1879048188 : Nat), .int .u64 (valT E 1879048190 : Nat), .int .u64 (valT E 1879048189 : Nat), .int .u64 (valT E 1879048191 : Nat), .bool b17, .int .u64 (valT E 17 : Nat), .int .u64 (valT E 18 : Nat), .bool b7, .int .u64 (valT E 7 : Nat), .int .u64 (valT E 8 : Nat), .bool b23, .int .u64 (valT E 23 : Nat), .int .u64 (valT E 2 : Nat), .bool b36, .int .u64 (valT E 36 : Nat), .int .u64 (valT E 35 : Nat), .bool q1, .int .u64 (q2 : Nat), .int .u64 (q3 : Nat), .bool b20, .bool pk, .bool b25, .int .u64 (valT E 25 : Nat), .int .u64 (valT E 27 : Nat), .bool b26, .int .u64 (valT E 26 : Nat), .int .u64 (valT E 28 : Nat)] : List Value).length = 37 := rfl
                      have hT1 : ∀ u ∈ (.string ⟨so.toArray⟩ :: .string ⟨ru.toArray⟩ :: [.bool bsy, .bool bgl, .bool bno, .bool b5, .int .u64 (valT E 5 : Nat), .int .u64 (valT E 10 : Nat), .int .u64 (valT E 6 : Nat), .int .u64 (valT E 4 : Nat), .int .u64 (valT E 1879047925 : Nat), .int .u64 (valT E 1879048176 : Nat), .int .u64 (valT E 1879048188 : Nat), .int .u64 (valT E 1879048190 : Nat), .int .u64 (valT E 1879048189 : Nat), .int .u64 (valT E 1879048191 : Nat), .bool b17, .int .u64 (valT E 17 : Nat), .int .u64 (valT E 18 : Nat), .bool b7, .int .u64 (valT E 7 : Nat), .int .u64 (valT E 8 : Nat), .bool b23, .int .u64 (valT E 23 : Nat), .int .u64 (valT E 2 : Nat), .bool b36, .int .u64 (valT E 36 : Nat), .int .u64 (valT E 35 : Nat), .bool q1, .int .u64 (q2 : Nat), .int .u64 (q3 : Nat), .bool b20, .bool pk, .bool b25, .int .u64 (valT E 25 : Nat), .int .u64 (valT E 27 : Nat), .bool b26, .int .u64 (valT E 26 : Nat), .int .u64 (valT E 28 : Nat)] : List Value), u.oneCell' = true := by
                        intro u hu
                        simp only [List.mem_cons, List.not_mem_nil, or_false] at hu
                        rcases hu with rfl | rfl | rfl | rfl | rfl | rfl | rfl | rfl | rfl | rfl | rfl | rfl | rfl | rfl | rfl | rfl | rfl | rfl | rfl | rfl | rfl | rfl | rfl | rfl | rfl | rfl | rfl | rfl | rfl | rfl | rfl | rfl | rfl | rfl | rfl | rfl | rfl | rfl | rfl <;> rfl
                      have hC : ∀ vn, dyCells so ru vn E = .string ⟨so.toArray⟩ :: .string ⟨ru.toArray⟩ :: vn :: [.bool bsy, .bool bgl, .bool bno, .bool b5, .int .u64 (valT E 5 : Nat), .int .u64 (valT E 10 : Nat), .int .u64 (valT E 6 : Nat), .int .u64 (valT E 4 : Nat), .int .u64 (valT E 1879047925 : Nat), .int .u64 (valT E 1879048176 : Nat), .int .u64 (valT E 1879048188 : Nat), .int .u64 (valT E 1879048190 : Nat), .int .u64 (valT E 1879048189 : Nat), .int .u64 (valT E 1879048191 : Nat), .bool b17, .int .u64 (valT E 17 : Nat), .int .u64 (valT E 18 : Nat), .bool b7, .int .u64 (valT E 7 : Nat), .int .u64 (valT E 8 : Nat), .bool b23, .int .u64 (valT E 23 : Nat), .int .u64 (valT E 2 : Nat), .bool b36, .int .u64 (valT E 36 : Nat), .int .u64 (valT E 35 : Nat), .bool q1, .int .u64 (q2 : Nat), .int .u64 (q3 : Nat), .bool b20, .bool pk, .bool b25, .int .u64 (valT E 25 : Nat), .int .u64 (valT E 27 : Nat), .bool b26, .int .u64 (valT E 26 : Nat), .int .u64 (valT E 28 : Nat)] := by
                        intro vn
                        unfold dyCells dyTail
                        rw [HAb5.out, HAb17.out, HAb7.out, HAb23.out, HAb36.out, HAb25.out, HAb26.out, HSY.out, HGL.out, HNO.out, HPK.out, HQ.out, HB20.out]
                        rfl
                      have HGE := hide (ArgD.below3 HE4.out)
                      have HWG : Hid (w.heap.size + 1 < x7.heap.size) := HL4.out
                      have HEw := hide (HE4.out.below HBq.out)
                      refine (‹∀ (a : Act) (w : World), Code.wp Try.prog _ _ a w → _›) _ _ ?_
                      exact ref9_tail w wc HBwq HRq x7.heap.size HWG (.string ⟨so.toArray⟩) (.string ⟨ru.toArray⟩) [.bool bsy, .bool bgl, .bool bno, .bool b5, .int .u64 (valT E 5 : Nat), .int .u64 (valT E 10 : Nat), .int .u64 (valT E 6 : Nat), .int .u64 (valT E 4 : Nat), .int .u64 (valT E 1879047925 : Nat), .int .u64 (valT E 1879048176 : Nat), .int .u64 (valT E 1879048188 : Nat), .int .u64 (valT E 1879048190 : Nat), .int .u64 (valT E 1879048189 : Nat), .int .u64 (valT E 1879048191 : Nat), .bool b17, .int .u64 (valT E 17 : Nat), .int .u64 (valT E 18 : Nat), .bool b7, .int .u64 (valT E 7 : Nat), .int .u64 (valT E 8 : Nat), .bool b23, .int .u64 (valT E 23 : Nat), .int .u64 (valT E 2 : Nat), .bool b36, .int .u64 (valT E 36 : Nat), .int .u64 (valT E 35 : Nat), .bool q1, .int .u64 (q2 : Nat), .int .u64 (q3 : Nat), .bool b20, .bool pk, .bool b25, .int .u64 (valT E 25 : Nat), .int .u64 (valT E 27 : Nat), .bool b26, .int .u64 (valT E 26 : Nat), .int .u64 (valT E 28 : Nat)] HDq (hide hTL) (hide hT1) BS HBS sa sn sc S HSq (by rw [Hid, HSN.out]; exact HSLN.out) ae en ce E HEw HEN HEK HEL.out HGE so ru (hide hC) O HO7 _ _ _ _ _ _ _ _ _ _ _ _ _ _ _ _ _ _ _ _ _ _ _ _ _ _ _ _ _ _ _ _ _ _ _ _ _ _ _ _ _ _ _ _ _ _ _ _ _ _ _ _ _ _ _ _ _ _ _ _ _ _ _ _ _ _ _ _ _ _ _ _ _ _ _ _ _ _ _ _ _ _ _ _ _ _ _ _ _ _ _ _ _ _ _ _ _ _ _ _ _ _ _ _ _ _ _ _ _ _ _ _ _ _ _ _ _ _ _ _ _ _ _ _ _ _ _ _ _ _ _ _ _ _ _ _ _ _ _ _ _ _ _ _ _ _ _ _ _ _ _ _ _ _ _ _ _ _ _ _ _ _ _ _ _ _ _ _ _ _ _ _ _ _ _ _ _ _ _ _ _ _ _ _ _ _ _ _ _ _ _ _ _ _ _ _ _
end Go.Proofs.Ytndlfgjkfbdikaa
