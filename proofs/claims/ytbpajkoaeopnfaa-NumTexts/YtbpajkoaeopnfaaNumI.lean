/-
  The reference's Hex, and num.Hex, keep their contracts: 0x and the digits of the number in the base 16, for every number of 64 bits; nothing that was there is turned.
-/
import Derived.Test.YtbpajkoaeopnfaaNumD
import Derived.Lib.SmallJoins
set_option linter.unusedVariables false
namespace Go.Proofs.Ytbpajkoaeopnfaa
open Go.RowKit Go.PlainAid
theorem piece (d : Nat) (h : d < 16) : (ByteArray.extract ⟨#[48, 49, 50, 51, 52, 53, 54, 55, 56, 57, 97, 98, 99, 100, 101, 102]⟩ d (d + 1)).data.toList = [dg d] := by
  have : ∀ k : Fin 16, (ByteArray.extract ⟨#[48, 49, 50, 51, 52, 53, 54, 55, 56, 57, 97, 98, 99, 100, 101, 102]⟩ k.val (k.val + 1)).data.toList = [dg k.val] := by decide
  exact this ⟨d, h⟩
def strLen : Value → Nat
  | .string s => s.size
  | _ => 0
theorem size_list (s : ByteArray) : s.size = s.data.toList.length := by simp
theorem isEmpty_data (s : ByteArray) : s.toList.isEmpty = s.data.toList.isEmpty := by rw [Lib.toList_data]
/-- What holds of the text that the reference gathers: m is still to be written, acc is written. -/
def HexRel (n m : Nat) (s : ByteArray) : Prop :=
  ∃ (f : Nat) (acc : List UInt8), f + acc.length = 20 ∧ s.data.toList = acc ∧
    ((1 ≤ f ∧ m < 16 ^ f ∧ digs 16 20 n = digs 16 f m ++ acc ∧ (0 < m ∨ acc = [])) ∨ (m = 0 ∧ acc ≠ [] ∧ digs 16 20 n = acc))
theorem HexRel.size {n m : Nat} {s : ByteArray} (h : HexRel n m s) : s.size ≤ 20 := by
  obtain ⟨f, acc, h1, h2, _⟩ := h
  rw [size_list, h2]; omega
theorem HexRel.start (n : Nat) (h : (n : Int) ≤ 18446744073709551615) : HexRel n n ⟨#[]⟩ :=
  ⟨20, [], rfl, rfl, .inl ⟨by omega, Nat.lt_of_le_of_lt (by omega) pow16_20, by simp, .inr rfl⟩⟩
theorem HexRel.step {n m : Nat} {s : ByteArray} (h : HexRel n m s) (hgo : 0 < m ∨ s.toList.isEmpty = true) :
    HexRel n (m / 16) (ByteArray.extract ⟨#[48, 49, 50, 51, 52, 53, 54, 55, 56, 57, 97, 98, 99, 100, 101, 102]⟩ (m % 16) (m % 16 + 1) ++ s) ∧
    (ByteArray.extract ⟨#[48, 49, 50, 51, 52, 53, 54, 55, 56, 57, 97, 98, 99, 100, 101, 102]⟩ (m % 16) (m % 16 + 1) ++ s).size = s.size + 1 := by
  obtain ⟨f, acc, h1, h2, h3⟩ := h
  have e : (ByteArray.extract ⟨#[48, 49, 50, 51, 52, 53, 54, 55, 56, 57, 97, 98, 99, 100, 101, 102]⟩ (m % 16) (m % 16 + 1) ++ s).data.toList = dg (m % 16) :: acc := by
    rw [Go.Joins.data_append, piece _ (by omega), h2]; rfl
  refine ⟨?_, by rw [size_list, e, size_list, h2]; simp⟩
  rcases h3 with ⟨a1, a2, a3, a4⟩ | ⟨b1, b2, b3⟩
  · refine ⟨f - 1, dg (m % 16) :: acc, by simp; omega, e, ?_⟩
    by_cases h0 : m / 16 = 0
    · exact .inr ⟨h0, by simp, digs_last_16 a1 a3 h0⟩
    · have D := digs_more_16 a1 a2 a3 h0
      exact .inl ⟨D.1, D.2.1, D.2.2, .inl (by omega)⟩
  · rcases hgo with h | h
    · omega
    · rw [isEmpty_data, h2] at h
      exact absurd (List.isEmpty_iff.mp h) b2
theorem HexRel.done {n : Nat} {s : ByteArray} (h : HexRel n 0 s) (he : s.toList.isEmpty = false) : s.data.toList = digs 16 20 n := by
  obtain ⟨f, acc, h1, h2, h3⟩ := h
  rw [isEmpty_data, h2] at he
  rcases h3 with ⟨a1, a2, a3, a4 | a4⟩ | ⟨b1, b2, b3⟩
  · omega
  · subst a4; simp at he
  · rw [h2, b3]
set_option maxHeartbeats 400000 in
theorem ref_Hex (n : Nat) (w : World) (h : (n : Int) ≤ 18446744073709551615) :
    Calls Try.prog 28 #[.int .u64 n] w fun e w' => e = .returned (.string ⟨(48 :: 120 :: digs 16 20 n).toArray⟩) ∧ w = w' := by
  go_enter Try.func28, Try.ntmps28
  go_wp2
  go_loop [0, 4] (fun vn vs => ∃ (m : Nat) (s : ByteArray), vn = .int .u64 m ∧ vs = .string s ∧ (m : Int) ≤ 18446744073709551615 ∧ HexRel n m s)
    (fun _ vs => 21 - strLen vs)
  case atStart => exact ⟨n, ⟨#[]⟩, rfl, rfl, h, HexRel.start n h⟩
  case round =>
    obtain ⟨m, s, rfl, rfl, hm, R⟩ := hrel
    have hsz0 := R.size
    have hsz : (s.size : Int) ≤ 20 := by omega
    by_cases hz : m = 0
    · subst hz
      cases he : s.toList.isEmpty
      · have D := R.done he
        clear R
        go_wp2
        go_ret
        refine ⟨?_, rfl⟩
        show Ending.returned (Value.string _) = _
        congr 2
        apply ByteArray.ext
        apply Array.toList_inj.1
        rw [Go.Joins.data_append, D]; rfl
      · have S := R.step (.inr he)
        clear R
        go_wp2
        go_round
        case rel => exact ⟨0, _, rfl, rfl, by omega, S.1⟩
        case measure => have := S.2; simp [strLen] at this ⊢; omega
    · have hgo : 0 < (m : Int) := by omega
      have S := R.step (.inl (by omega))
      clear R
      go_wp2
      go_round
      case rel => exact ⟨m / 16, _, by go_num, rfl, by omega, S.1⟩
      case measure => have := S.2; simp [strLen] at this ⊢; omega
theorem digs_len (b : Nat) : ∀ (f n : Nat), (digs b f n).length ≤ f
  | 0, _ => by simp [digs]
  | f + 1, n => by
    unfold digs
    split
    · simp
    · have := digs_len b f (n / b)
      simp; omega
theorem num_Hex (n : Nat) (w : World) (h : (n : Int) ≤ 18446744073709551615) :
    Calls Try.prog 27 #[.int .u64 n] w fun e w' => e = .returned (.string ⟨(48 :: 120 :: digs 16 20 n).toArray⟩) ∧ Below w.heap.size w w' := by
  have hW := fun w => write_16 n w h
  have hl := digs_len 16 20 n
  obtain ⟨t, ht⟩ : ∃ t : ByteArray, t = ⟨(digs 16 20 n).toArray⟩ := ⟨_, rfl⟩
  have hts : (t.size : Int) ≤ 20 := by
    have e : t.size = (digs 16 20 n).length := by rw [size_list, ht]
    omega
  rw [← ht] at hW
  have HT : Hid (t = ⟨(digs 16 20 n).toArray⟩) := ht
  clear ht hl
  go_enter Try.func27, Try.ntmps27
  go_wp2_with (go_at_call 38; refine (hW _).mono ?_; rintro e w' ⟨rfl, hb⟩)
  go_ret
  refine ⟨?_, hb⟩
  rw [HT.out]
  show Ending.returned (Value.string _) = _
  congr 2
end Go.Proofs.Ytbpajkoaeopnfaa
