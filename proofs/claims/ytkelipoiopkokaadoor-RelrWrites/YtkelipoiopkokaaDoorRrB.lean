
/-
  Layer 13 (relr): the places that a row of bits tells, one after another.
-/
import Derived.Test.YtkelipoiopkokaaDoorRrA
import Derived.RangeFuncNested
import Derived.RangeFuncBound
import Derived.RangeFuncCalls
import Derived.RangeFuncLeaves
import Derived.RangeFuncFrom
import Derived.Shelf.Abstract
import Derived.Shelf.RegionOpen
import Derived.WalkKit
import Derived.OwnWalkIn
import Derived.TacticsInMore
import Derived.LoopNIn
import Derived.LoopIn
set_option linter.unusedVariables false
namespace Go.Proofs.YtkelipoiopkokaaDoor
open Go.RowKit Go.PlainAid Go.Sort Go.Shelf
attribute [local go_sem] Oper.semAt_some
/-- What a round leaves as it lay: where it counts from, and the table. -/
def KpR (B2 : Nat) (W W' : World) : Prop := W'.heap[B2]? = W.heap[B2]? ∧ W'.heap[0]? = W.heap[0]?
theorem kpR_t {B2 : Nat} {A B C : World} (h : KpR B2 A B) (k : KpR B2 B C) : KpR B2 A C := ⟨k.1.trans h.1, k.2.trans h.2⟩
theorem rel_placesOf (w : World) (r f : Nat) : Calls Tryd.prog 24 #[.int .u64 (r : Nat), .int .u64 (f : Nat)] w fun e w' =>
    e = .returned (.func (.func 32) #[] #[.pointer (some ⟨w.heap.size, 0, none⟩), .pointer (some ⟨w.heap.size + 1, 0, none⟩)]) ∧ w' = (w.alloc (.cells #[.int .u64 (r : Nat)] 37)).alloc (.cells #[.int .u64 (f : Nat)] 37) := by
  go_enter Tryd.func24, Tryd.ntmps24
  go_wp2
  go_ret
  exact ⟨rfl, rfl⟩
theorem and_pred_u64 (x y : Nat) (hx : x < 18446744073709551616) (h0 : x ≠ 0) (e : x &&& (x - 1) = y) : bits .and .u64 (x : Int) ((x : Int) - 1) = (y : Int) := by
  have e1 : ((x : Int) - 1) = ((x - 1 : Nat) : Int) := by omega
  rw [e1, bits_and_u64_nat x _ hx (by omega), e]
theorem off_bit (r : Nat) (hr : r < 18446744073709551616) (h1 : r % 2 = 1) : bits .andNot .u64 (r : Int) 1 = ((r / 2 ^ 1 * 2 ^ 1 : Nat) : Int) := by
  have h := down_bits (n := (r : Int)) (u := 2) (by omega) (by omega) ⟨1, by omega, rfl⟩
  have e : ((2 : Int) - 1) = 1 := rfl
  rw [e] at h
  rw [h]
  omega
set_option maxRecDepth 100000 in
set_option maxHeartbeats 2000000 in
theorem rel_iter (n : Nat) (hn : 1 ≤ n) (w0 : World) (B1 B2 r f : Nat) (hr : r < 18446744073709551616) (hodd : r % 2 = 1) (hf : f < 18446744073709551616) (hT : TabZ w0)
    (h1 : w0.cell? ⟨B1, 0, none⟩ = some (.int .u64 (r : Nat))) (h2 : w0.cell? ⟨B2, 0, none⟩ = some (.int .u64 (f : Nat))) :
    SeqStopsK Fence.wide n Tryd.prog 32 #[.pointer (some ⟨B1, 0, none⟩), .pointer (some ⟨B2, 0, none⟩)] (fun x : Nat => #[Value.int .u64 (x : Nat)]) (KpR B2) (fun xs => xs = rowAll r f) (fun pre => pre <+: rowAll r f) 63 w0 := fun l J Jx W hW hJ hJx hY h0 => by
  have hB1 : B1 < w0.heap.size := World.block_lt_of_cell? _ _ h1
  have hB2 : B2 < w0.heap.size := World.block_lt_of_cell? _ _ h2
  have g1 : W.cell? ⟨B1, 0, none⟩ = some (.int .u64 (r : Nat)) := by rw [hW.cell (p := ⟨B1, 0, none⟩) hB1]; exact h1
  have g2 : W.cell? ⟨B2, 0, none⟩ = some (.int .u64 (f : Nat)) := by rw [hW.cell (p := ⟨B2, 0, none⟩) hB2]; exact h2
  have hTW := hT.below hW
  have hob := off_bit r hr hodd
  have HTW := hide hTW
  clear h1 h2 hT hTW hW hJ hJx
  refine callsIn_of_wp Tryd.func32 rfl trivial ?_ rfl
  simp only [Tryd.ntmps32, List.size_toArray, List.length_cons, List.length_nil, Nat.reduceAdd, Nat.reduceSub, Array.replicate_succ, Array.replicate_zero, List.push_toArray, List.append_toArray, List.nil_append, List.cons_append]
  gi_wp2
  clear g1 hob
  gi_loopw [4, 5] (fun vl _ wr => ∃ (j : Nat) (pre : List Nat), 1 ≤ j ∧ j ≤ 64 ∧ vl = .int .u64 ((r / 2 ^ j * 2 ^ j : Nat) : Int) ∧ Hid (pre ++ rowP r f (64 - j) (j - 1) = rowAll r f) ∧ Hid (J pre wr) ∧ wr.cell? ⟨B2, 0, none⟩ = some (.int .u64 (f : Nat)) ∧ Hid (TabZ wr)) (fun vl _ _ => (intOf vl).toNat)
  case atStart => exact ⟨1, [], by omega, by omega, rfl, rfl, h0, g2, HTW.out⟩
  case round =>
    obtain ⟨j, pre, hj1, hj2, rfl, HP, HJ, c2, HTr⟩ := hrel
    obtain ⟨x, hx⟩ : ∃ x, r / 2 ^ j * 2 ^ j = x := ⟨_, rfl⟩
    have hxr : x ≤ r := by rw [← hx]; exact Nat.div_mul_le_self _ _
    have HX := hide hx
    rw [hx]
    by_cases hx0 : x = 0
    · subst hx0
      have HE : Hid (pre = rowAll r f) := by
        have hz : r / 2 ^ (j - 1 + 1) = 0 := by
          rw [show j - 1 + 1 = j by omega]
          have hp := Nat.two_pow_pos j
          rcases Nat.mul_eq_zero.1 hx with e | e
          · exact e
          · omega
        have := HP.out
        rw [rowP_zero r f _ _ hz, List.append_nil] at this
        exact this
      clear hx
      gi_wp2
      go_end0
      exact ⟨⟨_, rfl⟩, .inl ⟨pre, HE.out, HJ.out⟩⟩
    · obtain ⟨t, ht, hjt, ht64, hbit, hzero, hand⟩ := low_bit r j hr (by rw [hx]; exact hx0)
      rw [hx] at ht hand
      have hne : ((x : Int) != 0) = true := by simp; omega
      have hTz := rel_tz wr HTr.out x t (by omega) hx0 ht
      obtain ⟨p, hp⟩ : ∃ p, (f + 8 * (t - 1)) % 18446744073709551616 = p := ⟨_, rfl⟩
      have HP2 : Hid (pre ++ [p] ++ rowP r f (64 - (t + 1)) (t + 1 - 1) = rowAll r f) := by
        have := HP.out
        rw [show 64 - j = (t - j) + (64 - t) by omega, rowP_skip r f (t - j) (64 - t) (j - 1) (fun i h1 h2 => hzero (i + 1) (by omega) (by omega)), show j - 1 + (t - j) = t - 1 by omega, show 64 - t = (63 - t) + 1 by omega, rowP, show t - 1 + 1 = t by omega, if_pos hbit, hp, ← List.append_assoc] at this
        rw [Hid, show 64 - (t + 1) = 63 - t by omega, show t + 1 - 1 = t by omega]
        exact this
      have hlen : pre.length < 63 := by
        have h1 := rowP_len r f 63 0
        have h2 : (rowAll r f).length ≤ 63 := h1
        rw [← HP2.out] at h2
        simp at h2
        omega
      have hpI : IntKind.u64.wrap ((f : Int) + ((t : Int) - 1) * 8) = (p : Int) := by
        rw [IntKind.wrap_u64, ← hp]; omega
      have htI : (1 : Int) ≤ (t : Int) := by omega
      have ht2 : (t : Int) < 64 := by omega
      obtain ⟨y, hy⟩ : ∃ y, r / 2 ^ (t + 1) * 2 ^ (t + 1) = y := ⟨_, rfl⟩
      rw [hy] at hand
      have hand2 := and_pred_u64 x y (by omega) hx0 hand
      have hyx : y < x := by
        have h1 : x &&& (x - 1) ≤ x - 1 := Nat.and_le_right
        omega
      obtain ⟨fn, tmps, assign, body, hyd, hR⟩ := hY pre p wr HJ.out hlen
      try dsimp only at hyd
      have HXY := hide hy
      have hxI : (1 : Int) ≤ (x : Int) := by omega
      have hxI2 : (x : Int) ≤ 18446744073709551615 := by omega
      clear hY hx hbit hzero hand ht hp hy
      gi_wp2
      refine ⟨trivial, ?_⟩
      refine (callsIn_wide.2 hTz).mono ?_
      rintro e w1 ⟨rfl, rfl⟩
      clear hTz
      gi_wp2
      refine hR.mono ?_
      rintro e W3 (⟨rfl, hJ3, hk3⟩ | ⟨rfl, hJx3⟩)
      · have c3 : W3.cell? ⟨B2, 0, none⟩ = some (.int .u64 (f : Nat)) := by rw [World.cell?_of_block (a := ⟨B2, 0, none⟩) hk3.1]; exact c2
        have HT3 : Hid (TabZ W3) := HTr.out.move hk3.2
        have HJ3 := hide hJ3
        clear hJ3 hk3 c2 HTr HJ hyd hR
        gi_wp2
        go_roundw
        case rel => exact ⟨t + 1, pre ++ [p], by omega, by omega, by rw [HXY.out], HP2, HJ3, c3, HT3⟩
        case measure => simp [intOf]; omega
      · have HX3 := hide hJx3
        clear hJx3 hyd hR
        gi_wp2
        refine bodyPost_ret (results_none rfl _ _ _) rfl ?_
        exact ⟨⟨_, rfl⟩, .inr ⟨pre ++ [p], ⟨_, HP2.out⟩, HX3.out⟩⟩
end Go.Proofs.YtkelipoiopkokaaDoor
