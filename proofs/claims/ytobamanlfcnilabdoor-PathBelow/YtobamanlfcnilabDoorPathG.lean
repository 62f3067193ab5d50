/-
  Layer 4, the program's and the reference's: Base, Up, Under, Child, Archive, Same keep their contracts.
-/
import Derived.Test.YtobamanlfcnilabDoorPathF
set_option linter.unusedVariables false
namespace Go.Proofs.YtobamanlfcnilabDoor
open Go.RowKit Go.PlainAid
/-- Where the last / stands; -1, if there is none. -/
def lastS (l : List UInt8) : Int := Lib.lastOcc l [47] l.length
theorem lastS_eq (l : List UInt8) : Lib.lastIndex l [47] = lastS l := by
  unfold Lib.lastIndex lastS
  cases l with
  | nil => rfl
  | cons b t => rw [if_pos (by simp)]; simp
theorem lastS_bd (l : List UInt8) : lastS l = -1 ∨ ∃ i : Nat, i < l.length ∧ lastS l = i := by
  rcases Lib.lastOcc_spec l [47] l.length with ⟨h, _⟩ | ⟨i, h, h2, _⟩
  · exact .inl h
  · exact .inr ⟨i, h, h2⟩
def baseOf (l : List UInt8) : List UInt8 := l.drop (lastS l + 1).toNat
def upOf (l : List UInt8) : List UInt8 := if lastS l ≤ 0 then [47] else l.take (lastS l).toNat
theorem extract_end (s : ByteArray) (k : Nat) : s.extract k s.size = tx (s.data.toList.drop k) := by
  rw [Lib.extract_eq]
  unfold tx
  congr 2
  rw [List.take_of_length_le]
  rw [List.length_drop, size_list]; omega
theorem extract_start (s : ByteArray) (k : Nat) : s.extract 0 k = tx (s.data.toList.take k) := by
  rw [Lib.extract_eq]; simp [tx]
theorem lib_Last (s : ByteArray) (w : World) (hs : s.size ≤ 100000000) :
    Calls Tryd.prog 26 #[.string s, .string ⟨#[47]⟩] w fun e w' => e = .returned (.int .i64 (lastS s.data.toList)) ∧ w' = w := by
  have h := Tryd.strings_LastIndex s ⟨#[47]⟩ (by omega) w
  rw [show (⟨#[47]⟩ : ByteArray).data.toList = [47] from rfl, lastS_eq] at h
  exact h
set_option maxHeartbeats 400000 in
theorem path_Base (s : ByteArray) (w : World) (hs : s.size ≤ 100000000) :
    Calls Tryd.prog 16 #[.string s] w fun e w' => e = .returned (.string (tx (baseOf s.data.toList))) ∧ w' = w := by
  have hL := lib_Last s w hs
  have hsl := size_list s
  unfold baseOf
  rcases lastS_bd s.data.toList with h | ⟨i, hi, h⟩
  · rw [h] at hL ⊢
    have he := extract_end s 0
    clear h hsl
    have HE : Hid (s.extract 0 s.size = tx (s.data.toList.drop 0)) := he
    clear he
    go_enter Tryd.func16, Tryd.ntmps16
    go_wp2_with (go_at_call 26; refine hL.mono ?_; rintro e w0 ⟨rfl, hw0⟩; rw [hw0]; clear hw0)
    go_ret
    exact ⟨by rw [show ((-1 : Int) + 1).toNat = 0 from rfl, List.drop_zero, tx_data]; first | rfl | simp, rfl⟩
  · rw [h] at hL ⊢
    have HE : Hid (s.extract (i + 1) s.size = tx (s.data.toList.drop (i + 1))) := extract_end s (i + 1)
    have hi2 : (i : Int) + 1 ≤ (s.size : Int) := by omega
    have he : ((i : Int) + 1).toNat = i + 1 := by omega
    rw [he]
    clear h hsl hi
    go_enter Tryd.func16, Tryd.ntmps16
    go_wp2_with (go_at_call 26; refine hL.mono ?_; rintro e w0 ⟨rfl, hw0⟩; rw [hw0]; clear hw0)
    go_ret
    exact ⟨by rw [← HE.out]; rfl, rfl⟩
set_option maxHeartbeats 400000 in
theorem path_Up (s : ByteArray) (w : World) (hs : s.size ≤ 100000000) :
    Calls Tryd.prog 17 #[.string s] w fun e w' => e = .returned (.string (tx (upOf s.data.toList))) ∧ w' = w := by
  have hL := lib_Last s w hs
  have hsl := size_list s
  unfold upOf
  rcases lastS_bd s.data.toList with h | ⟨i, hi, h⟩
  · rw [h] at hL ⊢
    rw [if_pos (by omega)]
    clear h hsl
    go_enter Tryd.func17, Tryd.ntmps17
    go_wp2_with (go_at_call 26; refine hL.mono ?_; rintro e w0 ⟨rfl, hw0⟩; rw [hw0]; clear hw0)
    go_ret
    exact ⟨rfl, rfl⟩
  · rw [h] at hL ⊢
    by_cases h0 : i = 0
    · subst h0
      rw [if_pos (by omega)]
      clear h hsl hi
      go_enter Tryd.func17, Tryd.ntmps17
      go_wp2_with (go_at_call 26; refine hL.mono ?_; rintro e w0 ⟨rfl, hw0⟩; rw [hw0]; clear hw0)
      go_ret
      exact ⟨rfl, rfl⟩
    · rw [if_neg (by omega)]
      have h0I : ¬ (i : Int) ≤ 0 := by omega
      have hi2 : (i : Int) ≤ (s.size : Int) := by omega
      have HE : Hid (s.extract 0 i = tx (s.data.toList.take i)) := extract_start s i
      rw [Int.toNat_natCast]
      clear h hsl hi h0
      go_enter Tryd.func17, Tryd.ntmps17
      go_wp2_with (go_at_call 26; refine hL.mono ?_; rintro e w0 ⟨rfl, hw0⟩; rw [hw0]; clear hw0)
      go_ret
      exact ⟨by rw [← HE.out]; rfl, rfl⟩
theorem occ47 (l : List UInt8) (k : Nat) (h : k < l.length) : Lib.occAt l [47] k = (l.getD k 0 == 47) := by
  unfold Lib.occAt
  rw [drop_cons l k h]
  simp [List.isPrefixOf, Bool.beq_comm]
end Go.Proofs.YtobamanlfcnilabDoor
