
/-
  Layer 4, the program's and the reference's: Base, Up, Under, Child, Archive, Same keep their contracts.
-/
import Derived.Test.YthkpcafbfgfjpaaDoorPathF
set_option linter.unusedVariables false
namespace Go.Proofs.YthkpcafbfgfjpaaDoor
open Go.RowKit Go.PlainAid
/-- Where the last / stands; -1, if there is none. -/
def lastS (l : List UInt8) : Int := Lib.lastOcc l [47] l.length
theorem lastS_eq (l : List UInt8) : Lib.lastIndex l [47] = lastS l := by
  unfold Lib.lastIndex lastS
  cases l with
  | nil => rfl
  | cons b t => rw [if_pos (by simp)]; simp
theorem lastS_bd (l : List UInt8) : lastS l = -1 ∨ ∃ i : Nat, i < l.length ∧ lastS l = i := by
  rcases Lib.lastOcc_spec l [47] l.length with ⟨h, _⟩ | ⟨i, h, h2, _⟩
  · exact .inl h
  · exact .inr ⟨i, h, h2⟩
def baseOf (l : List UInt8) : List UInt8 := l.drop (lastS l + 1).toNat
def upOf (l : List UInt8) : List UInt8 := if lastS l ≤ 0 then [47] else l.take (lastS l).toNat
theorem extract_end (s : ByteArray) (k : Nat) : s.extract k s.size = tx (s.data.toList.drop k) := by
  rw [Lib.extract_eq]
  unfold tx
  congr 2
  rw [List.take_of_length_le]
  rw [List.length_drop, size_list]; omega
theorem extract_start (s : ByteArray) (k : Nat) : s.extract 0 k = tx (s.data.toList.take k) := by
  rw [Lib.extract_eq]; simp [tx]
theorem lib_Last (s : ByteArray) (w : World) (hs : s.size ≤ 100000000) :
    Calls Tryd.prog 32 #[.string s, .string ⟨#[47]⟩] w fun e w' => e = .returned (.int .i64 (lastS s.data.toList)) ∧ w' = w := by
  have h := Tryd.strings_LastIndex s ⟨#[47]⟩ (by omega) w
  rw [show (⟨#[47]⟩ : ByteArray).data.toList = [47] from rfl, lastS_eq] at h
  exact h
set_option maxHeartbeats 400000 in
theorem path_Base (s : ByteArray) (w : World) (hs : s.size ≤ 100000000) :
    Calls Tryd.prog 28 #[.string s] w fun e w' => e = .returned (.string (tx (baseOf s.data.toList))) ∧ w' = w := by
  have hL := lib_Last s w hs
  have hsl := size_list s
  unfold baseOf
  rcases lastS_bd s.data.toList with h | ⟨i, hi, h⟩
  · rw [h] at hL ⊢
    have he := extract_end s 0
    clear h hsl
    have HE : Hid (s.extract 0 s.size = tx (s.data.toList.drop 0)) := he
    clear he
    go_enter Tryd.func28, Tryd.ntmps28
    go_wp2_with (go_at_call 32; refine hL.mono ?_; rintro e w0 ⟨rfl, hw0⟩; rw [hw0]; clear hw0)
    go_ret
    exact ⟨by rw [show ((-1 : Int) + 1).toNat = 0 from rfl, List.drop_zero, tx_data]; first | rfl | simp, rfl⟩
  · rw [h] at hL ⊢
    have HE : Hid (s.extract (i + 1) s.size = tx (s.data.toList.drop (i + 1))) := extract_end s (i + 1)
    have hi2 : (i : Int) + 1 ≤ (s.size : Int) := by omega
    have he : ((i : Int) + 1).toNat = i + 1 := by omega
    rw [he]
    clear h hsl hi
    go_enter Tryd.func28, Tryd.ntmps28
    go_wp2_with (go_at_call 32; refine hL.mono ?_; rintro e w0 ⟨rfl, hw0⟩; rw [hw0]; clear hw0)
    go_ret
    exact ⟨by rw [← HE.out]; rfl, rfl⟩
set_option maxHeartbeats 400000 in
theorem path_Up (s : ByteArray) (w : World) (hs : s.size ≤ 100000000) :
    Calls Tryd.prog 19 #[.string s] w fun e w' => e = .returned (.string (tx (upOf s.data.toList))) ∧ w' = w := by
  have hL := lib_Last s w hs
  have hsl := size_list s
  unfold upOf
  rcases lastS_bd s.data.toList with h | ⟨i, hi, h⟩
  · rw [h] at hL ⊢
    rw [if_pos (by omega)]
    clear h hsl
    go_enter Tryd.func19, Tryd.ntmps19
    go_wp2_with (go_at_call 32; refine hL.mono ?_; rintro e w0 ⟨rfl, hw0⟩; rw [hw0]; clear hw0)
    go_ret
    exact ⟨rfl, rfl⟩
  · rw [h] at hL ⊢
    by_cases h0 : i = 0
    · subst h0
      rw [if_pos (by omega)]
      clear h hsl hi
      go_enter Tryd.func19, Tryd.ntmps19
      go_wp2_with (go_at_call 32; refine hL.mono ?_; rintro e w0 ⟨rfl, hw0⟩; rw [hw0]; clear hw0)
      go_ret
      exact ⟨rfl, rfl⟩
    · rw [if_neg (by omega)]
      have h0I : ¬ (i : Int) ≤ 0 := by omega
      have hi2 : (i : Int) ≤ (s.size : Int) := by omega
      have HE : Hid (s.extract 0 i = tx (s.data.toList.take i)) := extract_start s i
      rw [Int.toNat_natCast]
      clear h hsl hi h0
      go_enter Tryd.func19, Tryd.ntmps19
      go_wp2_with (go_at_call 32; refine hL.mono ?_; rintro e w0 ⟨rfl, hw0⟩; rw [hw0]; clear hw0)
      go_ret
      exact ⟨by rw [← HE.out]; rfl, rfl⟩
theorem occ47 (l : List UInt8) (k : Nat) (h : k < l.length) : Lib.occAt l [47] k = (l.getD k 0 == 47) := by
  unfold Lib.occAt
  rw [drop_cons l k h]
  simp [List.isPrefixOf, Bool.beq_comm]
set_option maxHeartbeats 1000000 in
theorem ref_last (s : ByteArray) (w : World) (hs : s.size ≤ 100000000) :
    Calls Tryd.prog 35 #[.string s] w fun e w' => e = .returned (.int .i64 (lastS s.data.toList)) ∧ w' = w := by
  have HSL : Hid (s.size = s.data.toList.length) := size_list s
  obtain ⟨A, hA⟩ : ∃ A, lastS s.data.toList = A := ⟨_, rfl⟩
  rw [hA]
  have HA : Hid (Lib.lastOcc s.data.toList [47] s.size = A) := by rw [Hid, ← hA, lastS, HSL.out]
  clear hA
  go_enter Tryd.func35, Tryd.ntmps35
  go_wp2
  go_loop [3, 4] (fun va vi => ∃ k : Nat, vi = .int .i64 k ∧ k ≤ s.size ∧ va = .int .i64 (Lib.lastOcc s.data.toList [47] k)) (fun _ vi => s.size - (intOf vi).toNat)
  case atStart => exact ⟨0, rfl, by omega, rfl⟩
  case round =>
    obtain ⟨k, rfl, hk, rfl⟩ := hrel
    by_cases hlt : k < s.size
    · have hltI : (k : Int) < (s.size : Int) := by omega
      have ho := occ47 s.data.toList k (by rw [← size_list]; exact hlt)
      rw [← get_list s k hlt] at ho
      by_cases hc : s[k] = 47
      · have hcb : ((s[k].toNat : Int) == 47) = true := by rw [hc]; rfl
        have HO : Hid (Lib.lastOcc s.data.toList [47] (k + 1) = (k : Int)) := Lib.lastOcc_hit _ _ _ (by rw [ho, hc]; rfl)
        clear hc ho
        go_wp2
        go_round
        case rel => exact ⟨k + 1, by go_num, by omega, by rw [HO.out]⟩
        case measure => (simp [intOf] <;> omega)
      · have hcb : ((s[k].toNat : Int) == 47) = false := by
          rw [beq_eq_false_iff_ne]; intro h; exact hc (by apply UInt8.toNat_inj.1; show s[k].toNat = 47; omega)
        have HO : Hid (Lib.lastOcc s.data.toList [47] (k + 1) = Lib.lastOcc s.data.toList [47] k) := Lib.lastOcc_miss _ _ _ (by rw [ho]; simpa using hc)
        clear hc ho
        go_wp2
        go_round
        case rel => exact ⟨k + 1, by go_num, by omega, by rw [HO.out]⟩
        case measure => (simp [intOf] <;> omega)
    · have hltI : ¬ (k : Int) < (s.size : Int) := by omega
      have hke : k = s.size := by omega
      subst hke
      have HA2 : Hid (Lib.lastOcc s.data.toList [47] s.size = A) := HA
      go_wp2
      go_ret
      exact ⟨by rw [← HA2.out]; rfl, rfl⟩
set_option maxHeartbeats 400000 in
theorem ref_Base (s : ByteArray) (w : World) (hs : s.size ≤ 100000000) :
    Calls Tryd.prog 30 #[.string s] w fun e w' => e = .returned (.string (tx (baseOf s.data.toList))) ∧ w' = w := by
  have hL := ref_last s w hs
  have hsl := size_list s
  unfold baseOf
  rcases lastS_bd s.data.toList with h | ⟨i, hi, h⟩
  · rw [h] at hL ⊢
    clear h hsl
    go_enter Tryd.func30, Tryd.ntmps30
    go_wp2_with (go_at_call 35; refine hL.mono ?_; rintro e w0 ⟨rfl, hw0⟩; rw [hw0]; clear hw0)
    go_ret
    exact ⟨by rw [show ((-1 : Int) + 1).toNat = 0 from rfl, List.drop_zero, tx_data]; first | rfl | simp, rfl⟩
  · rw [h] at hL ⊢
    have HE : Hid (s.extract (i + 1) s.size = tx (s.data.toList.drop (i + 1))) := extract_end s (i + 1)
    have hi2 : (i : Int) + 1 ≤ (s.size : Int) := by omega
    have he : ((i : Int) + 1).toNat = i + 1 := by omega
    rw [he]
    clear h hsl hi
    go_enter Tryd.func30, Tryd.ntmps30
    go_wp2_with (go_at_call 35; refine hL.mono ?_; rintro e w0 ⟨rfl, hw0⟩; rw [hw0]; clear hw0)
    go_ret
    exact ⟨by rw [← HE.out]; rfl, rfl⟩
set_option maxHeartbeats 400000 in
theorem ref_Up (s : ByteArray) (w : World) (hs : s.size ≤ 100000000) :
    Calls Tryd.prog 22 #[.string s] w fun e w' => e = .returned (.string (tx (upOf s.data.toList))) ∧ w' = w := by
  have hL := ref_last s w hs
  have hsl := size_list s
  unfold upOf
  rcases lastS_bd s.data.toList with h | ⟨i, hi, h⟩
  · rw [h] at hL ⊢
    rw [if_pos (by omega)]
    clear h hsl
    go_enter Tryd.func22, Tryd.ntmps22
    go_wp2_with (go_at_call 35; refine hL.mono ?_; rintro e w0 ⟨rfl, hw0⟩; rw [hw0]; clear hw0)
    go_ret
    exact ⟨rfl, rfl⟩
  · rw [h] at hL ⊢
    by_cases h0 : i = 0
    · subst h0
      rw [if_pos (by omega)]
      clear h hsl hi
      go_enter Tryd.func22, Tryd.ntmps22
      go_wp2_with (go_at_call 35; refine hL.mono ?_; rintro e w0 ⟨rfl, hw0⟩; rw [hw0]; clear hw0)
      go_ret
      exact ⟨rfl, rfl⟩
    · rw [if_neg (by omega)]
      have h0I : ¬ (i : Int) < 1 := by omega
      have hi2 : (i : Int) ≤ (s.size : Int) := by omega
      have HE : Hid (s.extract 0 i = tx (s.data.toList.take i)) := extract_start s i
      rw [Int.toNat_natCast]
      clear h hsl hi h0
      go_enter Tryd.func22, Tryd.ntmps22
      go_wp2_with (go_at_call 35; refine hL.mono ?_; rintro e w0 ⟨rfl, hw0⟩; rw [hw0]; clear hw0)
      go_ret
      exact ⟨by rw [← HE.out]; rfl, rfl⟩
end Go.Proofs.YthkpcafbfgfjpaaDoor
