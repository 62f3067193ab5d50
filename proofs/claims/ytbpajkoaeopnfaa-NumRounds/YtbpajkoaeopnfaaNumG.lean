/-
  The reference's power of two and rows of bytes keep their contracts; nothing that was there is turned.
-/
import Derived.Test.YtbpajkoaeopnfaaNumE
set_option linter.unusedVariables false
namespace Go.Proofs.Ytbpajkoaeopnfaa
open Go.RowKit Go.PlainAid

def pw (i : Nat) : Int := ((2 ^ i % 18446744073709551616 : Nat) : Int)
theorem pw_lt {i : Nat} (h : i < 64) : pw i = ((2 ^ i : Nat) : Int) := by unfold pw; rw [Nat.mod_eq_of_lt (pow_lt64 h)]
theorem pw_bd (i : Nat) : 0 ≤ pw i ∧ pw i ≤ 18446744073709551615 := by unfold pw; omega
theorem pw_step (i : Nat) : IntKind.u64.wrap (pw i * 2) = pw (i + 1) := by
  rw [IntKind.wrap_u64]; unfold pw; rw [Nat.pow_succ]; omega
set_option maxHeartbeats 400000 in
theorem ref_Power_yes (n : Int) (w : World) (h : isPow n) :
    Calls Try.prog 18 #[.int .u64 n] w fun e w' => e = .returned (.bool true) ∧ w = w' := by
  obtain ⟨k, hk, hn⟩ := h
  have hkn : pw k = n := by rw [pw_lt hk, hn]
  clear hn
  have HK : Hid (pw k = n) := hkn
  clear hkn
  go_enter Try.func18, Try.ntmps18
  go_wp2
  go_loop [3, 4] (fun vp vi => ∃ i : Nat, i ≤ k ∧ vi = .int .i64 i ∧ vp = .int .u64 (pw i)) (fun _ vi => k + 1 - (intOf vi).toNat)
  case atStart => exact ⟨0, by omega, rfl, rfl⟩
  case round =>
    obtain ⟨i, hi, rfl, rfl⟩ := hrel
    by_cases e : i = k
    · subst e
      have ht : (pw i == n) = true := by simp [HK.out]
      go_wp2
      go_ret
      exact ⟨rfl, rfl⟩
    · have hs := pw_step i
      cases ht : (pw i == n)
      · go_wp2
        go_round
        case rel => exact ⟨i + 1, by omega, by go_num, rfl⟩
        case measure => simp [intOf]; omega
      · go_wp2
        go_ret
        exact ⟨rfl, rfl⟩
set_option maxHeartbeats 400000 in
theorem ref_Power_no (n : Int) (w : World) (h : ¬ isPow n) :
    Calls Try.prog 18 #[.int .u64 n] w fun e w' => e = .returned (.bool false) ∧ w = w' := by
  have hne : ∀ i : Nat, i < 64 → (pw i == n) = false := by
    intro i hi
    cases e : (pw i == n)
    · rfl
    · exact absurd ⟨i, hi, by rw [← pw_lt hi]; exact (by simpa using e : pw i = n).symm⟩ h
  clear h
  go_enter Try.func18, Try.ntmps18
  go_wp2
  go_loop [3, 4] (fun vp vi => ∃ i : Nat, i ≤ 64 ∧ vi = .int .i64 i ∧ vp = .int .u64 (pw i)) (fun _ vi => 65 - (intOf vi).toNat)
  case atStart => exact ⟨0, by omega, rfl, rfl⟩
  case round =>
    obtain ⟨i, hi, rfl, rfl⟩ := hrel
    by_cases e : i < 64
    · have hs := pw_step i
      have ht := hne i e
      go_wp2
      go_round
      case rel => exact ⟨i + 1, by omega, by go_num, rfl⟩
      case measure => simp [intOf]; omega
    · go_wp2
      go_ret
      exact ⟨rfl, rfl⟩
theorem round_down (n u : Int) (hu : 1 ≤ u) : n / u * u ≤ n ∧ n < n / u * u + u ∧ (n / u * u % u == 0) = true := by
  have h1 := Int.mul_ediv_add_emod n u
  have h2 := Int.emod_nonneg n (by omega : u ≠ 0)
  have h3 := Int.emod_lt_of_pos n (by omega : 0 < u)
  rw [Int.mul_comm] at h1
  refine ⟨by omega, by omega, by simp⟩
theorem round_down0 (n u : Int) (hu : 1 ≤ u) (hn : 0 ≤ n) : 0 ≤ n / u ∧ 0 ≤ n / u * u := by
  have h := Int.ediv_nonneg hn (by omega : 0 ≤ u)
  exact ⟨h, Int.mul_nonneg h (by omega)⟩
theorem ref_Down (n u : Int) (w : World) (h0 : 0 ≤ n) (h1 : n ≤ 18446744073709551615) (hu : 1 ≤ u) (hu' : u ≤ 18446744073709551615) :
    Calls Try.prog 19 #[.int .u64 n, .int .u64 u] w fun e w' => e = .returned (.int .u64 (n / u * u)) ∧ w = w' := by
  have r1 := round_down n u hu
  have r2 := round_down0 n u hu h0
  have r3 : n / u ≤ n := Int.ediv_le_self u h0
  obtain ⟨r1, _, _⟩ := r1
  obtain ⟨r2, r4⟩ := r2
  have hz : (u == 0) = false := by simp; omega
  go_enter Try.func19, Try.ntmps19
  go_wp2
  go_ret
  exact ⟨rfl, rfl⟩
end Go.Proofs.Ytbpajkoaeopnfaa
