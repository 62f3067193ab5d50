
/-
  Layer 10 (syms): both sums of a name, the program's and the reference's.
-/
import Derived.Test.YtnmohnbfnmhdlaaSyM
set_option linter.unusedVariables false
namespace Go.Proofs.Ytnmohnbfnmhdlaa
open Go.RowKit Go.PlainAid
theorem step_p (h : Nat) (c : UInt8) : bits .xor .u32 (bits .andNot .u32 (((h : Int) * 16 + (c.toNat : Int)) % 4294967296) (bits .and .u32 (((h : Int) * 16 + (c.toNat : Int)) % 4294967296) 4026531840)) (bits .and .u32 (((h : Int) * 16 + (c.toNat : Int)) % 4294967296) 4026531840 / 16777216) = ((sysvS h c : Nat) : Int) := by
  obtain ⟨x, hx⟩ : ∃ x, (h * 16 + c.toNat) % 4294967296 = x := ⟨_, rfl⟩
  have hl : x < 4294967296 := by rw [← hx]; exact Nat.mod_lt _ (by decide)
  have e : ((h : Int) * 16 + (c.toNat : Int)) % 4294967296 = (x : Int) := by rw [← hx]; omega
  rw [e, top_bits x hl, low_bits x hl]
  have e2 : ((x / 268435456 * 268435456 : Nat) : Int) / 16777216 = ((x / 268435456 * 16 : Nat) : Int) := by omega
  rw [e2, u32_xor_nat _ _ (by omega) (by omega)]
  unfold sysvS
  rw [hx]
theorem step_r (h : Nat) (c : UInt8) : bits .xor .u64 (((h : Int) * 16 + (c.toNat : Int)) % 268435456) (((h : Int) * 16 + (c.toNat : Int)) % 4294967296 / 268435456 * 16) = ((sysvS h c : Nat) : Int) := by
  obtain ⟨x, hx⟩ : ∃ x, (h * 16 + c.toNat) % 4294967296 = x := ⟨_, rfl⟩
  have hl : x < 4294967296 := by rw [← hx]; exact Nat.mod_lt _ (by decide)
  have e : ((h : Int) * 16 + (c.toNat : Int)) % 4294967296 = (x : Int) := by rw [← hx]; omega
  have e4 : ((h : Int) * 16 + (c.toNat : Int)) % 268435456 = ((x % 268435456 : Nat) : Int) := by omega
  rw [e, e4]
  have e2 : (x : Int) / 268435456 * 16 = ((x / 268435456 * 16 : Nat) : Int) := by omega
  rw [e2, u64_xor_nat _ _ (by omega) (by omega)]
  unfold sysvS
  rw [hx]
theorem at_text (l : List UInt8) (i : Nat) (h : i < l.length) : (({ data := l.toArray } : ByteArray)[i]'(by simpa [ByteArray.size] using h)) = l.getD i 0 := by
  show l.toArray[i] = _
  simp [List.getD, List.getElem?_eq_getElem h]
set_option maxHeartbeats 1000000 in
theorem syms_Sysv (l : List UInt8) (w : World) (hl : l.length ≤ 1000000000000) :
    Calls Try.prog 9 #[.string ⟨l.toArray⟩] w fun e w' => e = .returned (.int .u32 (sysv l : Nat)) ∧ w = w' := by
  go_enter Try.func9, Try.ntmps9
  go_wp2
  go_loop [3, 8] (fun vs vi => ∃ (i h : Nat), vi = .int .i64 i ∧ vs = .int .u32 h ∧ i ≤ l.length ∧ h < 4294967296 ∧ Hid (h = (l.take i).foldl sysvS 0))
    (fun _ vi => l.length - (intOf vi).toNat)
  case atStart => exact ⟨0, 0, rfl, rfl, by omega, by omega, by simp [Hid]⟩
  case round =>
    obtain ⟨i, h, rfl, rfl, hi, hh, HH⟩ := hrel
    by_cases hlt : i < l.length
    · have hltI : (i : Int) < (l.length : Int) := by omega
      go_wp2_with fail
      refine ⟨⟨i + 1, sysvS h (l.getD i 0), by go_num, ?_, by omega, Nat.lt_trans (sysvS_lt _ _) (by decide), ?_⟩, ?_⟩
      · rw [step_p, at_text l i hlt]
      · rw [Hid, foldl_snoc _ _ _ _ hlt, ← HH.out]
      · simp [intOf]; omega
    · have hltI : ¬ (i : Int) < (l.length : Int) := by omega
      have he : i = l.length := by omega
      go_wp2
      go_ret
      have := HH.out
      rw [he, List.take_length] at this
      rw [this]
      exact ⟨rfl, rfl⟩
set_option maxHeartbeats 1000000 in
theorem ref10_Sysv (l : List UInt8) (w : World) (hl : l.length ≤ 1000000000000) :
    Calls Try.prog 10 #[.string ⟨l.toArray⟩] w fun e w' => e = .returned (.int .u32 (sysv l : Nat)) ∧ w = w' := by
  go_enter Try.func10, Try.ntmps10
  go_wp2
  go_loop [3, 4] (fun vs vi => ∃ (i h : Nat), vi = .int .i64 i ∧ vs = .int .u64 h ∧ i ≤ l.length ∧ h < 268435456 ∧ Hid (h = (l.take i).foldl sysvS 0))
    (fun _ vi => l.length - (intOf vi).toNat)
  case atStart => exact ⟨0, 0, rfl, rfl, by omega, by omega, by simp [Hid]⟩
  case round =>
    obtain ⟨i, h, rfl, rfl, hi, hh, HH⟩ := hrel
    by_cases hlt : i < l.length
    · have hltI : (i : Int) < (l.length : Int) := by omega
      have hc : ((({ data := l.toArray } : ByteArray)[i]'(by simpa [ByteArray.size] using hlt)).toNat : Int) ≤ 255 := by
        have := (({ data := l.toArray } : ByteArray)[i]'(by simpa [ByteArray.size] using hlt)).toNat_lt
        omega
      go_wp2_with fail
      refine ⟨⟨i + 1, sysvS h (l.getD i 0), by go_num, ?_, by omega, sysvS_lt _ _, ?_⟩, ?_⟩
      · rw [step_r, at_text l i hlt]
      · rw [Hid, foldl_snoc _ _ _ _ hlt, ← HH.out]
      · simp [intOf]; omega
    · have hltI : ¬ (i : Int) < (l.length : Int) := by omega
      have he : i = l.length := by omega
      go_wp2
      go_ret
      have := HH.out
      rw [he, List.take_length] at this
      rw [this]
      exact ⟨rfl, rfl⟩
set_option maxHeartbeats 1000000 in
theorem gnu_u32 (l : List UInt8) (w : World) (hl : l.length ≤ 1000000000000) :
    Calls Try.prog 11 #[.string ⟨l.toArray⟩] w fun e w' => e = .returned (.int .u32 (gnu l : Nat)) ∧ w = w' := by
  go_enter Try.func11, Try.ntmps11
  go_wp2
  go_loop [3, 7] (fun vs vi => ∃ (i h : Nat), vi = .int .i64 i ∧ vs = .int .u32 h ∧ i ≤ l.length ∧ h < 4294967296 ∧ Hid (h = (l.take i).foldl gnuS 5381))
    (fun _ vi => l.length - (intOf vi).toNat)
  case atStart => exact ⟨0, 5381, rfl, rfl, by omega, by omega, by simp [Hid]⟩
  case round =>
    obtain ⟨i, h, rfl, rfl, hi, hh, HH⟩ := hrel
    by_cases hlt : i < l.length
    · have hltI : (i : Int) < (l.length : Int) := by omega
      have hc : ((({ data := l.toArray } : ByteArray)[i]'(by simpa [ByteArray.size] using hlt)).toNat : Int) ≤ 255 := by
        have := (({ data := l.toArray } : ByteArray)[i]'(by simpa [ByteArray.size] using hlt)).toNat_lt
        omega
      go_wp2_with fail
      refine ⟨⟨i + 1, gnuS h (l.getD i 0), by go_num, ?_, by omega, gnuS_lt _ _, ?_⟩, ?_⟩
      · rw [at_text l i hlt]; congr 1 <;> (unfold gnuS; omega)
      · rw [Hid, foldl_snoc _ _ _ _ hlt, ← HH.out]
      · simp [intOf]; omega
    · have hltI : ¬ (i : Int) < (l.length : Int) := by omega
      have he : i = l.length := by omega
      go_wp2
      go_ret
      have := HH.out
      rw [he, List.take_length] at this
      rw [this]
      exact ⟨rfl, rfl⟩
set_option maxHeartbeats 1000000 in
theorem gnu_u64 (l : List UInt8) (w : World) (hl : l.length ≤ 1000000000000) :
    Calls Try.prog 12 #[.string ⟨l.toArray⟩] w fun e w' => e = .returned (.int .u32 (gnu l : Nat)) ∧ w = w' := by
  go_enter Try.func12, Try.ntmps12
  go_wp2
  go_loop [3, 4] (fun vs vi => ∃ (i h : Nat), vi = .int .i64 i ∧ vs = .int .u64 h ∧ i ≤ l.length ∧ h < 4294967296 ∧ Hid (h = (l.take i).foldl gnuS 5381))
    (fun _ vi => l.length - (intOf vi).toNat)
  case atStart => exact ⟨0, 5381, rfl, rfl, by omega, by omega, by simp [Hid]⟩
  case round =>
    obtain ⟨i, h, rfl, rfl, hi, hh, HH⟩ := hrel
    by_cases hlt : i < l.length
    · have hltI : (i : Int) < (l.length : Int) := by omega
      have hc : ((({ data := l.toArray } : ByteArray)[i]'(by simpa [ByteArray.size] using hlt)).toNat : Int) ≤ 255 := by
        have := (({ data := l.toArray } : ByteArray)[i]'(by simpa [ByteArray.size] using hlt)).toNat_lt
        omega
      go_wp2_with fail
      refine ⟨⟨i + 1, gnuS h (l.getD i 0), by go_num, ?_, by omega, gnuS_lt _ _, ?_⟩, ?_⟩
      · rw [at_text l i hlt]; congr 1 <;> (unfold gnuS; omega)
      · rw [Hid, foldl_snoc _ _ _ _ hlt, ← HH.out]
      · simp [intOf]; omega
    · have hltI : ¬ (i : Int) < (l.length : Int) := by omega
      have he : i = l.length := by omega
      go_wp2
      go_ret
      have := HH.out
      rw [he, List.take_length] at this
      rw [this]
      exact ⟨rfl, rfl⟩
end Go.Proofs.Ytnmohnbfnmhdlaa
