
/-
  Layer 18 (conf): Go's library's answers on texts that are told by their bytes; read.
-/
import Derived.Test.YtmcefflgbliehaaDoorCfB
import Derived.Test.YtmcefflgbliehaaDoorCfC
import Derived.Test.YtmcefflgbliehaaDoorPathK
set_option linter.unusedVariables false
namespace Go.Proofs.YtmcefflgbliehaaDoor
open Go.RowKit Go.PlainAid Go.Sort
theorem lib_Cut (l sep : List UInt8) (w : World) (hm : Mx w) (hl : l.length ≤ 1000000000) :
    Calls Tryd.prog 34 #[.string (tx l), .string (tx sep)] w fun e w' => e = .returned (.tuple #[.string (tx (Lib.cut l sep).1), .string (tx (Lib.cut l sep).2.1), .bool (Lib.cut l sep).2.2]) ∧ Below w.heap.size w w' := by
  obtain ⟨m, hm⟩ := hm
  refine (Tryd.strings_Cut (tx l) (tx sep) m w (by rw [tx_size]; omega) hm).mono ?_
  rintro e w' ⟨rfl, n, rfl⟩
  rw [data_tx, data_tx]
  exact ⟨rfl, rfl, rfl, rfl, Nat.le_refl _, fun _ _ => rfl⟩
theorem lib_Trim (l : List UInt8) (w : World) (hl : l.length ≤ 1000000000) :
    Calls Tryd.prog 41 #[.string (tx l), .string ⟨#[32, 9, 13]⟩] w fun e w' => e = .returned (.string (tx (trimC l))) ∧ Below w.heap.size w w' := by
  refine (Tryd.strings_Trim_laid (tx l) ⟨#[32, 9, 13]⟩ w (by rw [tx_size]; omega) (by decide) (ascii_of_all (by decide))).mono ?_
  rintro e w' ⟨rfl, hb⟩
  rw [data_tx]
  exact ⟨rfl, hb⟩
theorem lib_CutSuffix (l p : List UInt8) (w : World) (hl : l.length ≤ 1000000000) :
    Calls Tryd.prog 74 #[.string (tx l), .string (tx p)] w fun e w' => e = .returned (.tuple #[.string (tx (Lib.trimSuffix l p)), .bool (Lib.hasSuffix l p)]) ∧ w = w' := by
  refine (Tryd.strings_CutSuffix (tx l) (tx p) w (by rw [tx_size]; omega)).mono ?_
  rintro e w' ⟨rfl, rfl⟩
  rw [data_tx, data_tx]
  exact ⟨rfl, rfl⟩
theorem lib_CutPrefix (l p : List UInt8) (w : World) :
    Calls Tryd.prog 42 #[.string (tx l), .string (tx p)] w fun e w' => e = .returned (.tuple #[.string (tx (Lib.trimPrefix l p)), .bool (Lib.hasPrefix l p)]) ∧ w = w' := by
  refine (Tryd.strings_CutPrefix (tx l) (tx p) w).mono ?_
  rintro e w' ⟨rfl, rfl⟩
  rw [data_tx, data_tx]
  exact ⟨rfl, rfl⟩
theorem tn_isName (l : List UInt8) (w : World) (hl : l.length ≤ 1000000000) : Calls Tryd.prog 75 #[.string (tx l)] w fun e w' => e = .returned (.bool (nameC l)) ∧ w = w' := by
  have := conf_isName (tx l) w (by rw [tx_size]; exact hl)
  rw [data_tx] at this
  exact this.mono fun e w' ⟨h1, h2⟩ => ⟨h1, h2.symm⟩
theorem cut_len (l sep : List UInt8) : (Lib.cut l sep).1.length ≤ l.length ∧ (Lib.cut l sep).2.1.length ≤ l.length := by
  unfold Lib.cut
  split
  · simp; omega
  · simp
theorem trim_len (l : List UInt8) : (trimC l).length ≤ l.length := by
  unfold trimC Lib.trimS Lib.trimLeftS Lib.trimRightS
  have h1 := (List.dropWhile_sublist (fun c => [32, 9, 13].contains c) (l := (List.dropWhile (fun c => [32, 9, 13].contains c) l.reverse).reverse)).length_le
  have h2 := (List.dropWhile_sublist (fun c => [32, 9, 13].contains c) (l := l.reverse)).length_le
  simp only [List.length_reverse] at h1 h2
  omega
theorem suff_len (l p : List UInt8) : (Lib.trimSuffix l p).length ≤ l.length := by
  unfold Lib.trimSuffix
  split <;> simp
def Td.cells (t : Td) : List Value := [.string (tx t.name), .string (tx t.value), .bool t.added]
def readE (l : List UInt8) : Td := if (Lib.cut l [61]).2.2 = true then readT l else ⟨[], [], false⟩
theorem told_info : (Tryd.prog.info? 97).map (fun i => (i.zero, i.size, i.bytes)) = some (some (.agg (Td.cells ⟨[], [], false⟩).toArray), 3, 40) := by kernel_rfl
def zTd : List Value := Td.cells ⟨[], [], false⟩
theorem td_one (t : Td) : ∀ u ∈ t.cells, u.oneCell' = true := by
  intro u hu
  simp only [Td.cells, List.mem_cons, List.not_mem_nil, or_false] at hu
  rcases hu with rfl | rfl | rfl <;> rfl
theorem td_size : ∀ w, (Go.sizeOf 97).run Tryd.prog w = .ok 3 w := Tryd.sizeOf97
set_option maxHeartbeats 4000000 in
theorem conf_read (l : List UInt8) (w : World) (hm : Mx w) (hl : l.length ≤ 100000) :
    Calls Tryd.prog 44 #[.string (tx l)] w fun e w' => e = .returned (.tuple #[.agg (readE l).cells.toArray, .bool (readB l)]) ∧ Below w.heap.size w w' := by
  have hb0 := below_box w (.cells zTd.toArray 97)
  have hC := lib_Cut l [61] _ (hm.below hb0) (by omega)
  have HG0 := hide (block_new w (.cells zTd.toArray 97))
  have HB0 := hide hb0
  have hcl := cut_len l [61]
  unfold readE readB
  cases hc : (Lib.cut l [61]).2.2 with
  | false =>
    rw [hc] at hC
    rw [if_neg (by simp)]
    generalize (Lib.cut l [61]).1 = a at *
    generalize (Lib.cut l [61]).2.1 = b at *
    simp only [Bool.false_and]
    show Calls Tryd.prog 44 #[.string (tx l)] w fun e w' => e = .returned (.tuple #[.agg zTd.toArray, .bool false]) ∧ Below w.heap.size w w'
    unfold tx at *
    clear hb0 hc
    go_enter Tryd.func44, Tryd.ntmps44
    go_wp2_with fail
    refine hC.mono ?_
    rintro e w1 ⟨rfl, hb1⟩
    have HG1 := hide (block_stay HG0.out hb1)
    have HB1 := hide (HB0.out.trans (hb1.mono HB0.out.size))
    clear hb1 hC
    go_wp2_with (first | ((with_reducible refine at_storeQ (T := 97) ?_); refine store_part rfl _ _ _ rfl w.heap.size 0 97 _ zTd zTd.toArray HG1.out rfl rfl td_size (td_one _) (Nat.le_refl 3) (by rfl) ?_))
    intro w2 hg2 hb2
    have HG2 := hide hg2
    have HB2 := hide (below_own HB1.out hb2 (Nat.le_refl _) (Nat.le_refl _))
    clear hg2 hb2
    go_wp2
    refine bodyPost_ret (results_cell2 rfl _ _ w.heap.size _ _ _ _ rfl HG2.out Tryd.underlying97 rfl (by kernel_rfl)) rfl ?_
    exact ⟨rfl, HB2.out⟩
  | true =>
    rw [hc] at hC
    rw [if_pos rfl]
    obtain ⟨hl1, hl2⟩ := hcl
    have hrt : readT l = ⟨trimC (Lib.trimSuffix (Lib.cut l [61]).1 [43]), trimC (Lib.cut l [61]).2.1, Lib.hasSuffix (Lib.cut l [61]).1 [43]⟩ := rfl
    rw [hrt]
    generalize (Lib.cut l [61]).1 = a at *
    generalize (Lib.cut l [61]).2.1 = b at *
    have hS := fun w => lib_CutSuffix a [43] w (by omega)
    have hsl := suff_len a [43]
    generalize Lib.hasSuffix a [43] = ad at *
    generalize Lib.trimSuffix a [43] = a' at *
    have hT1 := fun w => lib_Trim a' w (by omega)
    have hT2 := fun w => lib_Trim b w (by omega)
    have htl := trim_len a'
    generalize trimC a' = nm at *
    generalize trimC b = va at *
    have hN := fun w => tn_isName nm w (by omega)
    generalize nameC nm = y at *
    simp only [Bool.true_and]
    unfold tx Td.cells at *
    unfold tx at *
    clear hb0 hc hrt hl1 hl2 hsl htl
    go_enter Tryd.func44, Tryd.ntmps44
    go_wp2_with fail
    refine hC.mono ?_
    rintro e w1 ⟨rfl, hb1⟩
    have HG1 := hide (block_stay HG0.out hb1)
    have HB1 := hide (HB0.out.trans (hb1.mono HB0.out.size))
    clear hb1 hC
    go_wp2_with (first | (go_at_call 74; refine (hS _).mono ?_; rintro e w2 ⟨rfl, rfl⟩) | fail)
    refine (hT1 w1).mono ?_
    rintro e w2 ⟨rfl, hb2⟩
    have HG2 := hide (block_stay HG1.out hb2)
    have HB2 := hide (HB1.out.trans (hb2.mono HB1.out.size))
    clear hb2 HG1 HB1 hT1 hS
    go_wp2_with fail
    refine (hT2 w2).mono ?_
    rintro e w3 ⟨rfl, hb3⟩
    have HG3 := hide (block_stay HG2.out hb3)
    have HB3 := hide (HB2.out.trans (hb3.mono HB2.out.size))
    clear hb3 HG2 HB2 hT2
    go_wp2_with fail
    have HX := hide (block_new w3 (.cells (Td.cells ⟨nm, va, ad⟩).toArray 97))
    have HG4 := hide (block_stay HG3.out (below_box w3 (.cells (Td.cells ⟨nm, va, ad⟩).toArray 97)))
    have HB4 := hide (HB3.out.alloc HB3.out.size (.cells (Td.cells ⟨nm, va, ad⟩).toArray 97))
    unfold Td.cells tx at HX HG4 HB4
    generalize (w3.alloc (.cells [Value.string ⟨nm.toArray⟩, Value.string ⟨va.toArray⟩, Value.bool ad].toArray 97)) = W4 at *
    have y0 : W4.drew.cell? ⟨w3.heap.size, 0, none⟩ = some (.string ⟨nm.toArray⟩) := cells_of_block (w := W4.drew) HX.out 0 _ rfl
    have y1 : W4.drew.cell? ⟨w3.heap.size, 1, none⟩ = some (.string ⟨va.toArray⟩) := cells_of_block (w := W4.drew) HX.out 1 _ rfl
    have y2 : W4.drew.cell? ⟨w3.heap.size, 2, none⟩ = some (.bool ad) := cells_of_block (w := W4.drew) HX.out 2 _ rfl
    have z0 : W4.drew.cell? ⟨w.heap.size, 0, none⟩ = some (.string ⟨#[]⟩) := cells_of_block (w := W4.drew) HG4.out 0 _ rfl
    have z1 : W4.drew.cell? ⟨w.heap.size, 1, none⟩ = some (.string ⟨#[]⟩) := cells_of_block (w := W4.drew) HG4.out 1 _ rfl
    have z2 : W4.drew.cell? ⟨w.heap.size, 2, none⟩ = some (.bool false) := cells_of_block (w := W4.drew) HG4.out 2 _ rfl
    have z0' : W4.cell? ⟨w.heap.size, 0, none⟩ = some (.string ⟨#[]⟩) := cells_of_block HG4.out 0 _ rfl
    have z1' : W4.cell? ⟨w.heap.size, 1, none⟩ = some (.string ⟨#[]⟩) := cells_of_block HG4.out 1 _ rfl
    have z2' : W4.cell? ⟨w.heap.size, 2, none⟩ = some (.bool false) := cells_of_block HG4.out 2 _ rfl
    have f0' : W4.frozen? ⟨w.heap.size, 0, none⟩ = false := block_soft HG4.out 0
    have f1' : W4.frozen? ⟨w.heap.size, 1, none⟩ = false := block_soft HG4.out 1
    have f2' : W4.frozen? ⟨w.heap.size, 2, none⟩ = false := block_soft HG4.out 2
    have f0 : W4.drew.frozen? ⟨w.heap.size, 0, none⟩ = false := block_soft (w := W4.drew) HG4.out 0
    have f1 : W4.drew.frozen? ⟨w.heap.size, 1, none⟩ = false := block_soft (w := W4.drew) HG4.out 1
    have f2 : W4.drew.frozen? ⟨w.heap.size, 2, none⟩ = false := block_soft (w := W4.drew) HG4.out 2
    have HF : Hid ((((W4.setCell ⟨w.heap.size, 0, none⟩ (.string ⟨nm.toArray⟩)).setCell ⟨w.heap.size, 1, none⟩ (.string ⟨va.toArray⟩)).setCell ⟨w.heap.size, 2, none⟩ (.bool ad)).drew.heap[w.heap.size]? = _) := set3 HG4.out _ _ _
    have HBF : Hid (Below w.heap.size w (((W4.setCell ⟨w.heap.size, 0, none⟩ (.string ⟨nm.toArray⟩)).setCell ⟨w.heap.size, 1, none⟩ (.string ⟨va.toArray⟩)).setCell ⟨w.heap.size, 2, none⟩ (.bool ad)).drew) :=
      (((HB4.out.setCell (Nat.le_refl _) _).setCell (Nat.le_refl _) _).setCell (Nat.le_refl _) _).drew
    clear HG3 HB3 HX HG4 HB4
    go_region_law (first
      | (go_simp; refine (hN _).mono ?_; rintro e w5 ⟨rfl, rfl⟩))
    all_goals
      go_wp2
      try simp only [Act.put]
      try simp only [List.setIfInBounds_toArray]
      refine bodyPost_ret (results_cell2 rfl _ _ w.heap.size _ _ _ _ rfl HF.out Tryd.underlying97 rfl (by kernel_rfl)) rfl ?_
      exact ⟨rfl, HBF.out⟩
end Go.Proofs.YtmcefflgbliehaaDoor
