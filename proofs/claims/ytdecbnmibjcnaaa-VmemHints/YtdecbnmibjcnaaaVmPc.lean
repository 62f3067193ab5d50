
/-
  alive keeps its contract.
-/
import Derived.Test.YtdecbnmibjcnaaaVmPb
import Derived.Lib.SlBytesConst
set_option linter.unusedVariables false
namespace Go.Proofs.Ytdecbnmibjcnaaa
open Go.RowKit Go.PlainAid
/-- A space of the law's own: all its blocks are new since w. -/
structure SpN (w W : World) (S : Nat) (v : Value) (sp : Sp) : Prop where
  at_ : SpAt W S v sp
  new : ∀ k ∈ foot S v sp.rooms, w.heap.size ≤ k
  below : Below w.heap.size w W
theorem SpN.to {w W W' : World} {S : Nat} {v : Value} {sp sp' : Sp} (h : SpN w W S v sp) (ht : SpTo W S v sp.rooms W' sp') : ∃ v', SpN w W' S v' sp' ∧ ∀ k ∈ foot S v' sp'.rooms, k ∈ foot S v sp.rooms ∨ W.heap.size ≤ k := by
  obtain ⟨⟨v', h1, h2⟩, h3⟩ := ht
  refine ⟨v', ⟨h1, fun k hk => ?_, h.below.trans (h3.below h.below.size (fun k hk => h.new k hk))⟩, h2⟩
  rcases h2 k hk with e | e
  · exact h.new k e
  · exact Nat.le_trans h.below.size e
theorem SpN.stay {w W W' : World} {S : Nat} {v : Value} {sp : Sp} (h : SpN w W S v sp) (hb : Below W.heap.size W W') : SpN w W' S v sp := ⟨h.at_.stay hb, h.new, h.below.trans (hb.mono h.below.size)⟩
def al3 (b c : Nat) : Sp := mpS (al2 b c) 768 300 6 [97, 98]
theorem al_ok1 (b : Nat) : (al1 b).ok := by rw [← al_1]; exact rvS_ok al_ok0 _ _ _
theorem al_ok2 (b c : Nat) : (al2 b c).ok := by rw [← al_2]; exact rvS_ok (al_ok1 b) _ _ _
theorem al_ok3 (b c : Nat) : (al3 b c).ok := mpS_ok (al_ok2 b c) _ _ _ _
theorem al_e1 : rvP al0 1000 2 = 768 ∧ rvE al0 2 = 0 := ⟨by kernel_rfl, by kernel_rfl⟩
theorem al_e2 (b : Nat) : rvP (al1 b) 0 1 = 256 ∧ rvE (al1 b) 1 = 0 := ⟨by kernel_rfl, by kernel_rfl⟩
theorem al_e3 (b c : Nat) : rvP (al2 b c) 0 2 = 0 ∧ rvE (al2 b c) 2 = 50 := ⟨by kernel_rfl, by kernel_rfl⟩
theorem al_e4 (b c : Nat) : mpE (al2 b c) 768 300 6 [97, 98] = 0 := by kernel_rfl
set_option maxRecDepth 100000 in
theorem al_e5 (b c : Nat) : rdE (al3 b c) 768 3 = 0 ∧ rdB (al3 b c) 768 3 = [97, 98, 0] := ⟨by kernel_rfl, by kernel_rfl⟩
theorem al_e6 (b c : Nat) : used (al3 b c).rooms = 3 := by kernel_rfl
set_option maxHeartbeats 4000000 in
set_option maxRecDepth 20000 in
theorem alive (w : World) : Calls Try.prog 17 #[] w fun e w' => e = .returned (.bool true) ∧ Below w.heap.size w w' := by
  go_enter Try.func17, Try.ntmps17
  go_wp2_with fail
  refine (vm_New w 4 (by omega) (by omega)).mono ?_
  rintro e w1 ⟨rfl, h1, b1⟩
  have N1 : Hid (SpN w w1 w.heap.size (.slice none 0 0) al0) := ⟨h1, fun k hk => by simp [foot, Value.ownBlock, al0] at hk; omega, b1⟩
  clear h1 b1
  go_wp2_with fail
  refine (vm_Reserve w1 _ _ _ N1.out.at_ al_ok0 1000 2 (by omega) (by omega)).mono ?_
  rintro e w2 ⟨rfl, t2, u2⟩
  obtain ⟨b, _, t2⟩ := t2.to u2
  rw [al_1] at t2
  obtain ⟨v2, n2, _⟩ := N1.out.to t2
  have N2 : Hid (SpN w w2 w.heap.size v2 (al1 b)) := n2
  rw [al_e1.1, al_e1.2]
  clear N1 n2 t2 u2
  go_wp2_with fail
  refine (vm_Reserve w2 _ _ _ N2.out.at_ (al_ok1 b) 0 1 (by omega) (by omega)).mono ?_
  rintro e w3 ⟨rfl, t2, u2⟩
  obtain ⟨c, _, t2⟩ := t2.to u2
  rw [al_2] at t2
  obtain ⟨v3, n2, _⟩ := N2.out.to t2
  have N3 : Hid (SpN w w3 w.heap.size v3 (al2 b c)) := n2
  rw [(al_e2 b).1, (al_e2 b).2]
  clear N2 n2 t2 u2
  go_wp2_with fail
  refine (vm_Reserve w3 _ _ _ N3.out.at_ (al_ok2 b c) 0 2 (by omega) (by omega)).mono ?_
  rintro e w4 ⟨rfl, t2, u2⟩
  obtain ⟨d, _, t2⟩ := t2.to u2
  rw [al_3] at t2
  obtain ⟨v4, n2, _⟩ := N3.out.to t2
  have N4 : Hid (SpN w w4 w.heap.size v4 (al2 b c)) := n2
  rw [(al_e3 b c).1, (al_e3 b c).2]
  clear N3 n2 t2 u2
  have hS4 : Src (w4.alloc (.cells #[.int .u8 97, .int .u8 98] 5 (2, 3))) (· ∈ foot w.heap.size v4 (al2 b c).rooms) (.slice (some ⟨w4.heap.size, 0, none⟩) 2 2) [97, 98] := by
    refine ⟨_, 2, rfl, by simp, by decide, .inr ⟨_, rfl, .inr (fun hm => Nat.lt_irrefl _ (N4.out.at_.foot_lt _ hm)), fun j hj => ?_⟩⟩
    have e := heap_alloc_new w4 (.cells #[.int .u8 97, .int .u8 98] 5 (2, 3))
    rw [add_lit]
    match j, hj with
    | 0, _ => rw [cell_of_row _ _ _ _ _ _ e]; rfl
    | 1, _ => rw [cell_of_row _ _ _ _ _ _ e]; rfl
  have N5 : Hid (SpN w (w4.alloc (.cells #[.int .u8 97, .int .u8 98] 5 (2, 3))) w.heap.size v4 (al2 b c)) := N4.out.stay ((Below.refl _ w4).alloc (Nat.le_refl _) _)
  have hM := vm_Map _ _ _ _ N5.out.at_ (al_ok2 b c) 768 300 6 _ [97, 98] (by omega) (by omega) hS4 (by simp)
  clear hS4 N4
  have kc := fun (w : World) (C : Array Value) (n c : Nat) => Lib.run_convert_bytes_const (P := Try.prog) w 44 5 C n c Try.underlying44 Try.underlying5
  go_wp2_with fail
  refine hM.mono ?_
  rintro e w5 ⟨rfl, t2, u2⟩
  obtain ⟨v5, n2, _⟩ := N5.out.to (SpTo.same t2 (mpS_foot _ _ _ _ _ _ _) u2)
  have N6 : Hid (SpN w w5 w.heap.size v5 (al3 b c)) := n2
  rw [al_e4 b c]
  clear N5 n2 t2 u2 hM
  go_wp2_with fail
  refine (vm_Read w5 _ _ _ N6.out.at_ (al_ok3 b c) 768 3 (by omega) (by omega)).mono ?_
  rintro e w6 ⟨⟨vb, rfl, q1⟩, q2⟩
  rw [(al_e5 b c).1]
  rw [(al_e5 b c).2] at q1
  have N7 : Hid (SpN w w6 w.heap.size v5 (al3 b c)) := N6.out.stay q2
  have hconv0 := q1.text
  obtain ⟨ba, bc, rfl, _, _, _⟩ := q1
  have hconv : (convert 44 9 (.slice ba 3 bc)).run Try.prog w6 = .ok (.string ⟨#[97, 98, 0]⟩) w6 := hconv0
  clear hconv0
  have hthree : ([97, 98, 0] : List UInt8).length = 3 := rfl
  rw [hthree]
  have hU := vm_Used w6 _ _ _ N7.out.at_ (al_ok3 b c)
  rw [al_e6 b c] at hU
  clear N6 q2
  go_wp2_with (go_at_call 20; refine hU.mono ?_; rintro e w7 ⟨rfl, hb⟩; have N8 : Hid (SpN w w7 w.heap.size v5 (al3 b c)) := N7.out.stay hb; clear hb)
  go_ret
  exact ⟨rfl, N8.out.below⟩
end Go.Proofs.Ytdecbnmibjcnaaa
