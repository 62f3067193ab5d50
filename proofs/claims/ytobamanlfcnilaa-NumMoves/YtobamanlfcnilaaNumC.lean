/-
  num.read keeps its contract: it tells the number that a text's digits say, in the base 16 up to 2^64 - 1 and in the base 10 up to 2^31 - 1, or that there is none; nothing that was there is turned.
-/
import Derived.Test.YtobamanlfcnilaaNumB
import Derived.Test.YtobamanlfcnilaaDigits2
import Derived.Deep.QuietTactic
import Derived.BigQuiet
set_option linter.unusedVariables false
namespace Go.Proofs.Ytobamanlfcnilaa
open Go.RowKit Go.PlainAid
theorem lib_IndexByte (s : ByteArray) (c : Int) (w : World) :
    Calls Try.prog 36 #[.string s, .int .u8 c] w fun e w' => e = .returned (.int .i64 (Lib.indexByte s.data.toList c.toNat.toUInt8)) ∧ w' = w := by
  go_enter Try.func36, Try.ntmps36
  go_wp2
  rw [run_callFunc_extern Try.func39 (by kernel_rfl) (by kernel_rfl) (by kernel_rfl) (e := Extern.BytealgIndexByte.indexByte) (by kernel_rfl), Lib.run_indexByteString]
  simp only [Result.andThen]
  rw [Oper.upon_value]
  go_wp2
  go_ret
  exact ⟨rfl, rfl⟩
theorem lib_IndexDigit (b : Nat) (c : Int) (w : World) :
    Calls Try.prog 36 #[.string (ByteArray.extract ⟨#[48, 49, 50, 51, 52, 53, 54, 55, 56, 57, 97, 98, 99, 100, 101, 102]⟩ 0 b), .int .u8 c] w fun e w' => e = .returned (.int .i64 (dv b c)) ∧ w' = w :=
  lib_IndexByte _ _ _
set_option maxHeartbeats 1000000 in
theorem read_16 (s : ByteArray) (w : World) (hs0 : s.size ≤ maxLen) :
    Calls Try.prog 33 #[.string s, .int .u64 16, .int .u64 18446744073709551615] w fun e w' =>
      e = .returned (.tuple #[.int .u64 ((rd 16 18446744073709551615 s).getD 0 : Nat), .bool (rd 16 18446744073709551615 s).isSome]) ∧ Below w.heap.size w w' := by
  have hs : s.size ≤ 9223372036854775807 := by unfold maxLen at hs0; omega
  clear hs0
  have hbt := get_bt s
  cases h0 : s.toList.isEmpty
  · have hpos : (0 : Int) < (s.size : Int) := by have := size_pos_of h0; omega
    by_cases h1 : bt s 0 = 48 ∧ (s.toList == [48]) = false
    · have e : rd 16 18446744073709551615 s = none := by simp [rd, h0, h1.1, h1.2]
      obtain ⟨h1a, h1b⟩ := h1
      rw [e]; clear e
      go_enter Try.func33, Try.ntmps33
      go_wp2
      go_ret2
      exact ⟨rfl, Below.refl _ _⟩
    · have e : rd 16 18446744073709551615 s = rdLoop 16 18446744073709551615 s (s.size - 0) 0 0 := by unfold rd; rw [if_neg (by simp [h0]), if_neg h1]; rfl
      have HE : Hid (rd 16 18446744073709551615 s = rdLoop 16 18446744073709551615 s (s.size - 0) 0 0) := e
      clear e
      have hor : (bt s 0 = 48 ∧ (s.toList == [48]) = true) ∨ (bt s 0 == 48) = false := by
        by_cases h1a : bt s 0 = 48
        · left; refine ⟨h1a, ?_⟩
          cases hh : (s.toList == [48])
          · exact absurd ⟨h1a, hh⟩ h1
          · rfl
        · right; simp [h1a]
      clear h1
      rcases hor with ⟨h1a, h1b⟩ | h1c
      all_goals
        go_enter Try.func33, Try.ntmps33
        go_wp2
        go_loopw [8, 25] (fun vn vi wr => ∃ (k n : Nat), k ≤ s.size ∧ vn = .int .u64 n ∧ vi = .int .i64 k ∧ (n : Int) ≤ 18446744073709551615 ∧ Below w.heap.size w wr ∧ Hid (rd 16 18446744073709551615 s = rdLoop 16 18446744073709551615 s (s.size - k) k n))
          (fun _ vi _ => s.size - (intOf vi).toNat)
        case atStart => exact ⟨0, 0, Nat.zero_le _, rfl, rfl, by omega, Below.refl _ _, HE⟩
        case round =>
          obtain ⟨k, n, hk, rfl, rfl, hn, hbl, HR⟩ := hrel
          have hdl := dv_ge 16 (bt s k)
          have hdh := dv_lt16 (bt s k)
          by_cases hlt : k < s.size
          · have hlt' : (k : Int) < (s.size : Int) := by omega
            go_wp2_with fail
            go_quiet ((go_at_call 36; exact Calls.quiet_of_same (lib_IndexDigit 16 _ _)))
            by_cases hd : dv 16 (bt s k) < 0
            · go_wp2
              go_ret2
              exact ⟨by rw [HR.out, rdLoop_bad hlt hd]; rfl, bel_drewN hbl _⟩
            · by_cases ho : (18446744073709551615 - dv 16 (bt s k)) / 16 < (n : Int)
              · go_wp2
                go_ret2
                exact ⟨by rw [HR.out, rdLoop_over hlt ho]; rfl, bel_drewN hbl _⟩
              · go_wp2
                go_roundw
                case rel => exact ⟨k + 1, n * 16 + (dv 16 (bt s k)).toNat, by omega, by go_num, by go_num, by omega, bel_drewN hbl _, by rw [Hid, ← rdLoop_step hlt hd ho]; exact HR.out⟩
                case measure => simp [intOf]; omega
          · have hke : k = s.size := by omega
            subst hke
            go_wp2
            go_ret2
            exact ⟨by rw [HR.out]; simp [rdLoop], hbl⟩
  · have e : rd 16 18446744073709551615 s = none := by simp [rd, h0]
    rw [e]; clear e
    go_enter Try.func33, Try.ntmps33
    go_wp2
    go_ret2
    exact ⟨rfl, Below.refl _ _⟩
set_option maxHeartbeats 1000000 in
theorem read_10 (s : ByteArray) (w : World) (hs0 : s.size ≤ maxLen) :
    Calls Try.prog 33 #[.string s, .int .u64 10, .int .u64 2147483647] w fun e w' =>
      e = .returned (.tuple #[.int .u64 ((rd 10 2147483647 s).getD 0 : Nat), .bool (rd 10 2147483647 s).isSome]) ∧ Below w.heap.size w w' := by
  have hs : s.size ≤ 9223372036854775807 := by unfold maxLen at hs0; omega
  clear hs0
  have hbt := get_bt s
  cases h0 : s.toList.isEmpty
  · have hpos : (0 : Int) < (s.size : Int) := by have := size_pos_of h0; omega
    by_cases h1 : bt s 0 = 48 ∧ (s.toList == [48]) = false
    · have e : rd 10 2147483647 s = none := by simp [rd, h0, h1.1, h1.2]
      obtain ⟨h1a, h1b⟩ := h1
      rw [e]; clear e
      go_enter Try.func33, Try.ntmps33
      go_wp2
      go_ret2
      exact ⟨rfl, Below.refl _ _⟩
    · have e : rd 10 2147483647 s = rdLoop 10 2147483647 s (s.size - 0) 0 0 := by unfold rd; rw [if_neg (by simp [h0]), if_neg h1]; rfl
      have HE : Hid (rd 10 2147483647 s = rdLoop 10 2147483647 s (s.size - 0) 0 0) := e
      clear e
      have hor : (bt s 0 = 48 ∧ (s.toList == [48]) = true) ∨ (bt s 0 == 48) = false := by
        by_cases h1a : bt s 0 = 48
        · left; refine ⟨h1a, ?_⟩
          cases hh : (s.toList == [48])
          · exact absurd ⟨h1a, hh⟩ h1
          · rfl
        · right; simp [h1a]
      clear h1
      rcases hor with ⟨h1a, h1b⟩ | h1c
      all_goals
        go_enter Try.func33, Try.ntmps33
        go_wp2
        go_loopw [8, 25] (fun vn vi wr => ∃ (k n : Nat), k ≤ s.size ∧ vn = .int .u64 n ∧ vi = .int .i64 k ∧ (n : Int) ≤ 2147483647 ∧ Below w.heap.size w wr ∧ Hid (rd 10 2147483647 s = rdLoop 10 2147483647 s (s.size - k) k n))
          (fun _ vi _ => s.size - (intOf vi).toNat)
        case atStart => exact ⟨0, 0, Nat.zero_le _, rfl, rfl, by omega, Below.refl _ _, HE⟩
        case round =>
          obtain ⟨k, n, hk, rfl, rfl, hn, hbl, HR⟩ := hrel
          have hdl := dv_ge 10 (bt s k)
          have hdh := dv_lt10 (bt s k)
          by_cases hlt : k < s.size
          · have hlt' : (k : Int) < (s.size : Int) := by omega
            go_wp2_with fail
            go_quiet ((go_at_call 36; exact Calls.quiet_of_same (lib_IndexDigit 10 _ _)))
            by_cases hd : dv 10 (bt s k) < 0
            · go_wp2
              go_ret2
              exact ⟨by rw [HR.out, rdLoop_bad hlt hd]; rfl, bel_drewN hbl _⟩
            · by_cases ho : (2147483647 - dv 10 (bt s k)) / 10 < (n : Int)
              · go_wp2
                go_ret2
                exact ⟨by rw [HR.out, rdLoop_over hlt ho]; rfl, bel_drewN hbl _⟩
              · go_wp2
                go_roundw
                case rel => exact ⟨k + 1, n * 10 + (dv 10 (bt s k)).toNat, by omega, by go_num, by go_num, by omega, bel_drewN hbl _, by rw [Hid, ← rdLoop_step hlt hd ho]; exact HR.out⟩
                case measure => simp [intOf]; omega
          · have hke : k = s.size := by omega
            subst hke
            go_wp2
            go_ret2
            exact ⟨by rw [HR.out]; simp [rdLoop], hbl⟩
  · have e : rd 10 2147483647 s = none := by simp [rd, h0]
    rw [e]; clear e
    go_enter Try.func33, Try.ntmps33
    go_wp2
    go_ret2
    exact ⟨rfl, Below.refl _ _⟩
end Go.Proofs.Ytobamanlfcnilaa
