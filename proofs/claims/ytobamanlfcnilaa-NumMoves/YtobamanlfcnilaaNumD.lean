/-
  The document's examples of layer 1 come out as the chapter says ('alive'); num.ParseHex and num.Text keep their contracts.
-/
import Derived.Test.YtobamanlfcnilaaNumC
set_option linter.unusedVariables false
namespace Go.Proofs.Ytobamanlfcnilaa
open Go.RowKit Go.PlainAid
theorem lib_Cut_no (s : ByteArray) (w : World) (hs0 : s.size ≤ maxLen) (h : ¬ (2 ≤ s.size ∧ ((s.extract 0 2).toList == [48, 120]) = true)) :
    Calls Try.prog 32 #[.string s, .string ⟨#[48, 120]⟩] w fun e w' => e = .returned (.tuple #[.string s, .bool false]) ∧ w = w' := by
  have hs : s.size ≤ 9223372036854775807 := by unfold maxLen at hs0; omega
  clear hs0
  by_cases h2 : 2 ≤ s.size
  · have h2' : (2 : Int) ≤ (s.size : Int) := by omega
    have hb : ((s.extract 0 2).toList == [48, 120]) = false := by
      cases hh : ((s.extract 0 2).toList == [48, 120])
      · rfl
      · exact absurd ⟨h2, hh⟩ h
    clear h
    go_enter Try.func32, Try.ntmps32
    go_wp2
    go_ret2
    exact ⟨rfl, rfl⟩
  · have h2' : ¬ (2 : Int) ≤ (s.size : Int) := by omega
    clear h
    go_enter Try.func32, Try.ntmps32
    go_wp2
    go_ret2
    exact ⟨rfl, rfl⟩
theorem lib_Cut_yes (s : ByteArray) (w : World) (hs0 : s.size ≤ maxLen) (h : 2 ≤ s.size ∧ ((s.extract 0 2).toList == [48, 120]) = true) :
    Calls Try.prog 32 #[.string s, .string ⟨#[48, 120]⟩] w fun e w' => e = .returned (.tuple #[.string (s.extract 2 s.size), .bool true]) ∧ w = w' := by
  have hs : s.size ≤ 9223372036854775807 := by unfold maxLen at hs0; omega
  obtain ⟨h2, hb⟩ := h
  clear hs0
  have h2' : (2 : Int) ≤ (s.size : Int) := by omega
  go_enter Try.func32, Try.ntmps32
  go_wp2
  go_ret2
  exact ⟨rfl, rfl⟩
theorem ParseHex_yes (s : ByteArray) (n : Nat) (w : World) (hs : s.size ≤ maxLen) (h : phex s = some n) :
    Calls Try.prog 18 #[.string s] w fun e w' => e = .returned (.tuple #[.int .u64 n, .int .i64 0]) ∧ Below w.heap.size w w' := by
  unfold phex at h
  by_cases hc : 2 ≤ s.size ∧ ((s.extract 0 2).toList == [48, 120]) = true
  · rw [if_pos hc] at h
    have hs2 : (s.extract 2 s.size).size ≤ maxLen := by simp; omega
    have hr := fun w => read_16 (s.extract 2 s.size) w hs2
    rw [h] at hr
    have hC := fun w => lib_Cut_yes s w hs hc
    clear h hc hs2 hs
    go_enter Try.func18, Try.ntmps18
    go_wp2_with (first
      | (go_at_call 32; refine (hC _).mono ?_; rintro e w' ⟨rfl, rfl⟩)
      | (go_at_call 33; refine (hr _).mono ?_; rintro e w' ⟨rfl, hb⟩))
    go_ret2
    exact ⟨rfl, hb⟩
  · rw [if_neg hc] at h; exact absurd h (by simp)
theorem ParseHex_no (s : ByteArray) (w : World) (hs : s.size ≤ maxLen) (h : phex s = none) :
    Calls Try.prog 18 #[.string s] w fun e w' => e = .returned (.tuple #[.int .u64 0, .int .i64 12]) ∧ Below w.heap.size w w' := by
  unfold phex at h
  by_cases hc : 2 ≤ s.size ∧ ((s.extract 0 2).toList == [48, 120]) = true
  · rw [if_pos hc] at h
    have hs2 : (s.extract 2 s.size).size ≤ maxLen := by simp; omega
    have hr := fun w => read_16 (s.extract 2 s.size) w hs2
    rw [h] at hr
    have hC := fun w => lib_Cut_yes s w hs hc
    clear h hc hs2 hs
    go_enter Try.func18, Try.ntmps18
    go_wp2_with (first
      | (go_at_call 32; refine (hC _).mono ?_; rintro e w' ⟨rfl, rfl⟩)
      | (go_at_call 33; refine (hr _).mono ?_; rintro e w' ⟨rfl, hb⟩))
    go_ret2
    exact ⟨rfl, hb⟩
  · have hC := fun w => lib_Cut_no s w hs hc
    clear h hc hs
    go_enter Try.func18, Try.ntmps18
    go_wp2_with (go_at_call 32; refine (hC _).mono ?_; rintro e w' ⟨rfl, rfl⟩)
    go_ret2
    exact ⟨rfl, Below.refl _ _⟩
theorem Text_pos (n : Nat) (w : World) (h : (n : Int) ≤ 9223372036854775807) :
    Calls Try.prog 19 #[.int .i64 n] w fun e w' => e = .returned (.string ⟨(digs 10 20 n).toArray⟩) ∧ Below w.heap.size w w' := by
  go_enter Try.func19, Try.ntmps19
  go_wp2_with (go_at_call 34; refine (write_10 _ _ (by omega)).mono ?_; rintro e w' ⟨rfl, hb⟩)
  go_ret
  exact ⟨rfl, hb⟩
theorem write_zero (w : World) : Calls Try.prog 34 #[.int .u64 0, .int .u64 10] w fun e w' => e = .returned (.string ⟨#[48]⟩) ∧ Below w.heap.size w w' := write_10 0 w (by omega)
theorem Text_neg (n : Int) (w : World) (h : n < 0) :
    Calls Try.prog 19 #[.int .i64 n] w fun e w' => e = .returned (.string ⟨#[48]⟩) ∧ Below w.heap.size w w' := by
  go_enter Try.func19, Try.ntmps19
  go_wp2_with (go_at_call 34; refine (write_zero _).mono ?_; rintro e w' ⟨rfl, hb⟩)
  go_ret
  exact ⟨rfl, hb⟩
theorem alive_phex : phex ⟨#[48, 120, 49, 48, 48, 48]⟩ = some 4096 := by kernel_rfl
theorem isPow256 : isPow 256 := ⟨8, by omega, rfl⟩
theorem alive_Text (w : World) : Calls Try.prog 19 #[.int .i64 7] w fun e w' => e = .returned (.string ⟨#[55]⟩) ∧ Below w.heap.size w w' := Text_pos 7 w (by omega)
theorem alive_Up (w : World) : Calls Try.prog 17 #[.int .u64 257, .int .u64 256] w fun e w' => e = .returned (.tuple #[.int .u64 512, .int .i64 0]) ∧ w = w' := num_Up_yes 257 256 w (by omega) isPow256 (by omega)
theorem alive_ParseHex (w : World) : Calls Try.prog 18 #[.string ⟨#[48, 120, 49, 48, 48, 48]⟩] w fun e w' => e = .returned (.tuple #[.int .u64 4096, .int .i64 0]) ∧ Below w.heap.size w w' :=
  ParseHex_yes _ 4096 w (by decide) alive_phex
theorem inB_alive1 : inB 10 5 8 7 = true := by decide
theorem inB_alive2 : inB 10 6 8 7 = false := by decide
theorem alive (w : World) : Calls Try.prog 5 #[] w fun e w' => e = .returned (.bool true) ∧ Below w.heap.size w w' := by
  have i1 := inB_alive1
  have i2 := inB_alive2
  go_enter Try.func5, Try.ntmps5
  go_wp2_with fail
  refine (alive_Up _).mono ?_
  rintro e w' ⟨rfl, rfl⟩
  go_wp2_with fail
  refine (alive_ParseHex _).mono ?_
  rintro e w1 ⟨rfl, hb1⟩
  go_wp2_with fail
  refine (num_Inside _ _ _ _ _ (by omega) (by omega) (by omega) (by omega) (by omega) (by omega)).mono ?_
  rintro e w' ⟨rfl, rfl⟩
  rw [i1]
  go_wp2_with fail
  refine (num_Inside _ _ _ _ _ (by omega) (by omega) (by omega) (by omega) (by omega) (by omega)).mono ?_
  rintro e w' ⟨rfl, rfl⟩
  rw [i2]
  go_wp2_with fail
  refine (alive_Text _).mono ?_
  rintro e w2 ⟨rfl, hb2⟩
  go_wp2
  go_ret
  exact ⟨rfl, hb1.trans (hb2.mono hb1.size)⟩
end Go.Proofs.Ytobamanlfcnilaa
