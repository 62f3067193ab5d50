
/-
  Layer 13 (relr): the chapter's examples, as the statements ask; the table, out of what the row lists.
-/
import Derived.Test.YtkelipoiopkokaaDoorRrI
set_option linter.unusedVariables false
namespace Go.Proofs.YtkelipoiopkokaaDoor
open Go.RowKit Go.PlainAid Go.Sort
def exL : List Nat := [8, 16, 32]
def exE : List UInt8 := [8, 0, 0, 0, 0, 0, 0, 0, 11, 0, 0, 0, 0, 0, 0, 0]
def exD : List UInt8 := [8, 0, 0, 0, 0, 0, 0, 0, 3, 0, 0, 0, 0, 0, 0, 0]
theorem ex_E : relrE exL = some exE := by kernel_rfl
theorem ex_D : relrZ exD = some [8, 16] := by kernel_rfl
theorem ex_argN (w : World) : ArgN (w.alloc (.cells #[.int .u64 8, .int .u64 16, .int .u64 32] 37)) (.slice (some ⟨w.heap.size, 0, none⟩) 3 3) exL := by
  have hb := heap_alloc_new w (.cells #[.int .u64 8, .int .u64 16, .int .u64 32] 37)
  refine ⟨fun p hp => ?_, _, 3, rfl, by simp [exL], by unfold maxLen; omega, .inr ⟨w.heap.size, 0, rfl, by simp, fun j hj => ?_⟩⟩
  · simp only [exL, List.mem_cons, List.not_mem_nil, or_false] at hp
    omega
  · rw [Nat.zero_add]
    match j, hj with
    | 0, _ => exact cells_of_block hb 0 _ rfl
    | 1, _ => exact cells_of_block hb 1 _ rfl
    | 2, _ => exact cells_of_block hb 2 _ rfl
theorem bytes_argN {w : World} {g : Nat} {l : List UInt8} {T : TypeId} (hg : w.heap[g]? = some (.cells (bv l).toArray T (0, 0))) (hl : l.length ≤ 1000000) (h0 : 0 < l.length) : Arg w (.slice (some ⟨g, 0, none⟩) l.length l.length) l := by
  refine ⟨_, _, rfl, by omega, by unfold maxLen; omega, by omega, .inr ⟨_, rfl, fun j hj => ?_⟩⟩
  rw [add_at, Nat.zero_add]
  exact cells_of_block hg j _ (by simp [bv, List.getElem?_eq_getElem hj])
theorem bv_exD : (bv exD).toArray = #[.int .u8 8, .int .u8 0, .int .u8 0, .int .u8 0, .int .u8 0, .int .u8 0, .int .u8 0, .int .u8 0, .int .u8 3, .int .u8 0, .int .u8 0, .int .u8 0, .int .u8 0, .int .u8 0, .int .u8 0, .int .u8 0] := by kernel_rfl
set_option maxHeartbeats 2000000 in
set_option maxRecDepth 20000 in
theorem alive13 (w : World) (hTab : TabZ w) : Calls Tryd.prog 8 #[] w fun e w' => e = .returned (.bool true) ∧ Below w.heap.size w w' := by
  have hE := relr_Encode _ _ exL (ex_argN w) (by simp [exL])
  rw [ex_E] at hE
  have HTab := hide hTab
  have HB0 : Hid (Below w.heap.size w (w.alloc (.cells #[.int .u64 8, .int .u64 16, .int .u64 32] 37))) := Below.alloc (Below.refl _ _) (Nat.le_refl _) _
  clear hTab
  go_enter Tryd.func8, Tryd.ntmps8
  go_wp2_with fail
  refine hE.mono ?_
  rintro e w1 ⟨⟨v1, rfl, h1⟩, hb1⟩
  have HB1 : Hid (Below w.heap.size w w1) := HB0.out.trans (hb1.mono HB0.out.size)
  have HA1 := hide (h1.arg (by simp [exE]))
  obtain ⟨g, o, cap, rfl, p1, p2, _⟩ := HA1.out.cells (by simp [exE])
  clear hE h1 hb1
  have hG2 : (w1.alloc (.cells #[.int .u8 8, .int .u8 0, .int .u8 0, .int .u8 0, .int .u8 0, .int .u8 0, .int .u8 0, .int .u8 0, .int .u8 3, .int .u8 0, .int .u8 0, .int .u8 0, .int .u8 0, .int .u8 0, .int .u8 0, .int .u8 0] 5)).heap[w1.heap.size]? = some (.cells (bv exD).toArray 5 (0, 0)) := by
    rw [bv_exD]; exact heap_alloc_new _ _
  have hb2 : Below w1.heap.size w1 (w1.alloc (.cells #[.int .u8 8, .int .u8 0, .int .u8 0, .int .u8 0, .int .u8 0, .int .u8 0, .int .u8 0, .int .u8 0, .int .u8 3, .int .u8 0, .int .u8 0, .int .u8 0, .int .u8 0, .int .u8 0, .int .u8 0, .int .u8 0] 5)) := Below.alloc (Below.refl _ _) (Nat.le_refl _) _
  have HB2 := hide (HB1.out.trans (hb2.mono HB1.out.size))
  have hD := relr_Decode _ _ exD (bytes_argN hG2 (by simp [exD]) (by simp [exD])) (by simp [exD]) (HTab.out.below HB2.out)
  rw [ex_D] at hD
  have HA2 := hide (HA1.out.below' hb2)
  have e16 : exD.length = 16 := rfl
  rw [e16] at hD
  clear hG2 hb2 e16
  go_wp2_with fail
  refine hD.mono ?_
  rintro e w3 ⟨⟨v3, rfl, h3⟩, hb3⟩
  have HB3 : Hid (Below w.heap.size w w3) := HB2.out.trans (hb3.mono HB2.out.size)
  have hA3 := HA2.out.below' hb3
  have hN3 := h3.arg (by intro p hp; simp at hp; omega)
  obtain ⟨a3, c3, rfl, q1, q2⟩ := hN3.form
  obtain ⟨g3, o3, rfl, z1, _⟩ := hN3.at 1 (by simp)
  simp only [List.length_cons, List.length_nil, List.getElem_cons_succ, List.getElem_cons_zero] at z1 q1
  clear hD hb3 h3 hN3
  obtain ⟨g', o', cap', e, p1, p2, hc⟩ := hA3.cells (by simp [exE])
  injection e with e1 e2 e3
  injection e1 with e1
  injection e1 with e1 e4
  subst e1 e3 e4
  have c0 := hc 0 (by simp [exE])
  have c8 := hc 8 (by simp [exE])
  have b0 : exE.getD 0 0 = 8 := rfl
  have b8 : exE.getD 8 0 = 11 := rfl
  have bl : exE.length = 16 := rfl
  rw [b0] at c0
  rw [b8] at c8
  rw [bl] at p1
  have k0 : ((8 : UInt8).toNat : Int) = 8 := rfl
  have k1 : ((11 : UInt8).toNat : Int) = 11 := rfl
  rw [k0] at c0
  rw [k1] at c8
  clear hc hA3 b0 b8
  rw [Nat.add_zero] at c0
  have hlen : (exE.length : Int) = 16 := by rw [bl]; rfl
  unfold maxLen at p2
  go_wp2
  go_ret
  exact ⟨rfl, HB3.out⟩
end Go.Proofs.YtkelipoiopkokaaDoor
