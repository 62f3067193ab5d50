
/-
  leb.PutU and leb.PutS, and the reference's, keep their contracts: the same groups of seven bits, in new memory; nothing that was there is turned.
-/
import Derived.Test.YtiicmakeoidiaaaBufB
set_option linter.unusedVariables false
namespace Go.Proofs.Ytiicmakeoidiaaa
open Go.RowKit Go.PlainAid

/-- The groups of a number from 0 on: so many at most. -/
def lebU : Nat → Nat → List UInt8
  | 0, _ => []
  | f + 1, n => if n < 128 then [b8 n] else b8 (n % 128 + 128) :: lebU f (n / 128)
theorem lebU_more {f n m : Nat} {acc : List UInt8} (hf : 1 ≤ f) (h : lebU 10 n = acc ++ lebU f m) (hm : ¬ m < 128) : lebU 10 n = (acc ++ [b8 (m % 128 + 128)]) ++ lebU (f - 1) (m / 128) := by
  obtain ⟨g, rfl⟩ : ∃ g, f = g + 1 := ⟨f - 1, by omega⟩
  rw [h]; simp [lebU, hm]
theorem lebU_last {f n m : Nat} {acc : List UInt8} (hf : 1 ≤ f) (h : lebU 10 n = acc ++ lebU f m) (hm : m < 128) : lebU 10 n = acc ++ [b8 m] := by
  obtain ⟨g, rfl⟩ : ∃ g, f = g + 1 := ⟨f - 1, by omega⟩
  rw [h]; simp [lebU, hm]
theorem pow128_10 : 18446744073709551615 < 128 ^ 10 := by decide
theorem div128 {m f : Nat} (h : m < 128 ^ f) (h0 : ¬ m < 128) : m / 128 < 128 ^ (f - 1) ∧ 1 ≤ f - 1 := by
  match f, h with
  | 0, h => simp at h; omega
  | 1, h => simp at h; omega
  | f + 2, h =>
    refine ⟨?_, by omega⟩
    apply Nat.div_lt_of_lt_mul
    rw [Nat.mul_comm, ← Nat.pow_succ]; exact h
theorem ofNat_toNat {k : Nat} (h : k < 256) : ((b8 k).toNat : Int) = (k : Int) := by
  unfold b8; rw [UInt8.toNat_ofNat']; omega
theorem or128 (x : Nat) : bits .or .u8 ((x : Int) % 256) 128 = ((b8 (x % 128 + 128)).toNat : Int) := by
  have h1 : (x : Int) % 256 = ((x % 256 : Nat) : Int) := by omega
  have h2 : ∀ k : Fin 256, bits .or .u8 (k.val : Int) 128 = ((b8 (k.val % 128 + 128)).toNat : Int) := by decide +kernel
  rw [h1]
  have := h2 ⟨x % 256, by omega⟩
  simp only at this
  rw [this]
  congr 2
  congr 1
  omega
/-! ### Numbers with a sign -/
def lebS : Nat → Int → List UInt8
  | 0, _ => []
  | f + 1, n => if -64 ≤ n ∧ n < 64 then [b8 (n % 128).toNat] else b8 ((n % 128).toNat + 128) :: lebS f (n / 128)
theorem lebS_more {f : Nat} {n m : Int} {acc : List UInt8} (hf : 1 ≤ f) (h : lebS 10 n = acc ++ lebS f m) (hm : ¬ (-64 ≤ m ∧ m < 64)) : lebS 10 n = (acc ++ [b8 ((m % 128).toNat + 128)]) ++ lebS (f - 1) (m / 128) := by
  obtain ⟨g, rfl⟩ : ∃ g, f = g + 1 := ⟨f - 1, by omega⟩
  rw [h]; simp only [lebS]; rw [if_neg hm]; simp
theorem lebS_last {f : Nat} {n m : Int} {acc : List UInt8} (hf : 1 ≤ f) (h : lebS 10 n = acc ++ lebS f m) (hm : -64 ≤ m ∧ m < 64) : lebS 10 n = acc ++ [b8 (m % 128).toNat] := by
  obtain ⟨g, rfl⟩ : ∃ g, f = g + 1 := ⟨f - 1, by omega⟩
  rw [h]; simp only [lebS]; rw [if_pos hm]
/-- Room: so many groups hold the number. -/
def roomS (f : Nat) (m : Int) : Prop := -(64 * 128 ^ (f - 1) : Nat) ≤ m ∧ m < (64 * 128 ^ (f - 1) : Nat)
theorem roomS_start {m : Int} (h0 : -9223372036854775808 ≤ m) (h1 : m ≤ 9223372036854775807) : roomS 10 m := by
  have e : (64 * 128 ^ (10 - 1) : Nat) = 590295810358705651712 := by decide
  unfold roomS; rw [e]; omega
theorem roomS_step {f : Nat} {m : Int} (hf : 1 ≤ f) (h : roomS f m) (hm : ¬ (-64 ≤ m ∧ m < 64)) : roomS (f - 1) (m / 128) ∧ 1 ≤ f - 1 := by
  unfold roomS at *
  match f, hf with
  | 1, _ => simp at h; omega
  | f + 2, _ =>
    have e : (64 * 128 ^ (f + 2 - 1) : Nat) = 128 * (64 * 128 ^ f) := by
      rw [show f + 2 - 1 = f + 1 by omega, Nat.pow_succ, Nat.mul_comm (128 ^ f) 128, ← Nat.mul_assoc, ← Nat.mul_assoc]
    have e2 : f + 2 - 1 - 1 = f := by omega
    rw [e] at h
    rw [e2]
    generalize 64 * 128 ^ f = K at *
    omega
theorem or128s (x : Int) : bits .or .u8 (x % 256) 128 = ((b8 ((x % 128).toNat + 128)).toNat : Int) := by
  have h2 : ∀ k : Fin 256, bits .or .u8 (k.val : Int) 128 = ((b8 (k.val % 128 + 128)).toNat : Int) := by decide +kernel
  obtain ⟨k, hk⟩ : ∃ k : Nat, x % 256 = (k : Int) := ⟨(x % 256).toNat, by omega⟩
  have := h2 ⟨k, by omega⟩
  simp only at this
  rw [hk, this, show (x % 128).toNat = k % 128 by omega]
theorem and127s (x : Int) : bits .and .u8 (x % 256) 127 = ((b8 (x % 128).toNat).toNat : Int) := by
  have h2 : ∀ k : Fin 256, bits .and .u8 (k.val : Int) 127 = ((b8 (k.val % 128)).toNat : Int) := by decide +kernel
  obtain ⟨k, hk⟩ : ∃ k : Nat, x % 256 = (k : Int) := ⟨(x % 256).toNat, by omega⟩
  have := h2 ⟨k, by omega⟩
  simp only at this
  rw [hk, this, show (x % 128).toNat = k % 128 by omega]
set_option maxHeartbeats 400000 in
theorem leb_PutS (n : Int) (w : World) (h0 : -9223372036854775808 ≤ n) (h : n ≤ 9223372036854775807) :
    Calls Try.prog 27 #[.int .i64 n] w fun e w' => ∃ v, e = .returned v ∧ Own w' w.heap.size v (lebS 10 n) ∧ Below w.heap.size w w' := by
  go_enter Try.func27, Try.ntmps27
  go_wp2
  go_loopw [0, 3] (fun vn vo wr => ∃ (m : Int) (f : Nat) (acc : List UInt8), vn = .int .i64 m ∧ -9223372036854775808 ≤ m ∧ m ≤ 9223372036854775807 ∧ 1 ≤ f ∧ f + acc.length = 10 ∧ Own wr w.heap.size vo acc ∧ Below w.heap.size w wr ∧ Hid (roomS f m) ∧ Hid (lebS 10 n = acc ++ lebS f m))
    (fun vn _ _ => (intOf vn).natAbs)
  case atStart => exact ⟨n, 10, [], rfl, h0, h, by omega, rfl, Own.nil _ _, Below.refl _ _, roomS_start h0 h, rfl⟩
  case round =>
    obtain ⟨m, f, acc, rfl, hm0, hm, hf, hfa, hown, hbl, HM, HD⟩ := hrel
    by_cases hlt : -64 ≤ m ∧ m < 64
    · obtain ⟨l1, l2⟩ := hlt
      have l1' : ¬ m < -64 := by omega
      have l2' : ¬ 64 ≤ m := by omega
      go_wp2_with (at_builtin; refine append_byte rfl _ _ rfl w.heap.size _ _ acc _ hown (b8 (m % 128).toNat) (and127s m) rfl rfl (by omega) hbl.size ?_)
      intro v' w1 h1 h2
      go_wp2
      go_ret
      exact ⟨_, rfl, by rw [lebS_last hf HD.out ⟨l1, l2⟩]; exact h1, hbl.trans h2⟩
    · have hor : m < -64 ∨ 64 ≤ m := by omega
      have D := roomS_step hf HM.out hlt
      have E := lebS_more hf HD.out hlt
      have HE : Hid (roomS (f - 1) (m / 128) ∧ lebS 10 n = (acc ++ [b8 ((m % 128).toNat + 128)]) ++ lebS (f - 1) (m / 128)) := ⟨D.1, E⟩
      have hf2 := D.2
      clear D E hlt
      rcases hor with hor | hor
      all_goals
        go_wp2_with (at_builtin; refine append_byte rfl _ _ rfl w.heap.size _ _ acc _ hown (b8 ((m % 128).toNat + 128)) (or128s m) rfl rfl (by omega) hbl.size ?_)
        intro v' w1 h1 h2
        go_wp2
        go_roundw
        case rel => exact ⟨m / 128, f - 1, acc ++ [b8 ((m % 128).toNat + 128)], by go_num, by omega, by omega, hf2, by simp; omega, h1, hbl.trans h2, HE.out.1, HE.out.2⟩
        case measure => simp [intOf]; omega
end Go.Proofs.Ytiicmakeoidiaaa
