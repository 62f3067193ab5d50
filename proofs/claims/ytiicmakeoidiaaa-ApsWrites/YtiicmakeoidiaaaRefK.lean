
/-
  The numbers that the program's readers and the reference's tell are the same.
-/
import Derived.Test.YtiicmakeoidiaaaRefJ
set_option linter.unusedVariables false
namespace Go.Proofs.Ytiicmakeoidiaaa
open Go.RowKit Go.PlainAid
theorem nb_append : ∀ (a b : List Bool), nb (a ++ b) = nb a + 2 ^ a.length * nb b
  | [], b => by simp [nb]
  | x :: t, b => by
    have := nb_append t b
    simp only [List.cons_append, nb, this, List.length_cons, Nat.pow_succ]
    rw [Nat.mul_add, ← Nat.mul_assoc, Nat.mul_comm 2 (2 ^ t.length)]; omega
theorem nb_take (l : List Bool) (k : Nat) : nb (l.take k) = nb l % 2 ^ k := by
  by_cases h : k ≤ l.length
  · have h1 := nb_append (l.take k) (l.drop k)
    rw [List.take_append_drop, List.length_take_of_le h] at h1
    have h2 := nb_lt (l.take k)
    rw [List.length_take_of_le h] at h2
    rw [h1, Nat.add_mul_mod_self_left, Nat.mod_eq_of_lt h2]
  · rw [List.take_of_length_le (by omega)]
    have h2 := nb_lt l
    have h3 : 2 ^ l.length ≤ 2 ^ k := Nat.pow_le_pow_right (by omega) (by omega)
    rw [Nat.mod_eq_of_lt (by omega)]
theorem nb_zeros : ∀ k, nb (List.replicate k false) = 0
  | 0 => rfl
  | k + 1 => by rw [List.replicate_succ, nb, nb_zeros k]; rfl
theorem nb_ones : ∀ k, nb (List.replicate k true) = 2 ^ k - 1
  | 0 => rfl
  | k + 1 => by
    rw [List.replicate_succ, nb, nb_ones k, Nat.pow_succ]
    have := Nat.two_pow_pos k
    simp; omega
theorem nb_seven (c : UInt8) : nb (seven c) = c.toNat % 128 := by
  have h : ∀ a : Fin 256, nb ((List.range 7).map fun k => a.val.testBit k) = a.val % 128 := by decide +kernel
  exact h ⟨c.toNat, c.toNat_lt⟩
theorem nb_bits : ∀ g : List UInt8, nb (bitsOf g) = gs g
  | [] => rfl
  | c :: t => by
    have ih := nb_bits t
    have h1 : bitsOf (c :: t) = seven c ++ bitsOf t := by unfold bitsOf; simp
    rw [h1, nb_append, seven_len, nb_seven, ih, gs]
theorem gs_low : ∀ l : List UInt8, gs (l.map low7) = gs l
  | [] => rfl
  | c :: t => by
    have ih := gs_low t
    have h := low7_nat c
    rw [List.map_cons, gs, gs, ih]
    congr 1
    omega
theorem getD_last (l : List UInt8) (n : Nat) (h : n < l.length) : (bitsOf (l.take (n + 1))).getD (7 * (n + 1) - 1) false = (l.getD n 0).toNat.testBit 6 := by
  rw [bitsOf_snoc l n h]
  have hl : (bitsOf (l.take n)).length = 7 * n := by rw [bitsOf_len, List.length_take]; omega
  rw [List.getD, List.getElem?_append_right (by omega), hl, show 7 * (n + 1) - 1 - 7 * n = 6 by omega]
  simp [seven]
theorem bit6 (c : UInt8) : c.toNat.testBit 6 = decide (64 ≤ c.toNat % 128) := by
  have h : ∀ a : Fin 256, a.val.testBit 6 = decide (64 ≤ a.val % 128) := by decide +kernel
  exact h ⟨c.toNat, c.toNat_lt⟩
theorem grp_gs (l : List UInt8) : gs (grp l) = gs (l.take (hiN 10 l + 1)) := by unfold grp; rw [gs_low]
theorem U_same {l : List UInt8} (hw : whole l) : ((nb (rbits (grp l) (hiN 10 l + 1) false) : Nat) : Int) = gv l (hiN 10 l + 1) := by
  have h1 := hw.1
  have h2 := hw.2
  rw [gv_eq l (hiN 10 l + 1) (by omega) (by omega)]
  unfold rbits
  rw [nb_take, nb_append, Bool.false_and, nb_zeros, nb_bits, grp_gs]
  simp
theorem last_bit {l : List UInt8} (hw : whole l) : (bitsOf (grp l)).getD (7 * (hiN 10 l + 1) - 1) false = decide (64 ≤ gl l (hiN 10 l + 1)) := by
  have h2 := hw.2
  have hlen := grp_len hw
  have e : grp l = (grp l).take (hiN 10 l + 1) := by rw [List.take_of_length_le (by omega)]
  rw [e, getD_last _ _ (by omega), bit6]
  have e2 : (grp l).getD (hiN 10 l) 0 = low7 (l.getD (hiN 10 l) 0) := by
    unfold grp
    simp [List.getD, List.getElem?_eq_getElem h2]
  rw [e2]
  have h := low7_nat (l.getD (hiN 10 l) 0)
  show decide _ = decide (64 ≤ ((l.getD (hiN 10 l) 0).toNat : Int) % 128)
  rw [decide_eq_decide]; omega
theorem S_same {l : List UInt8} (hw : whole l) (hb : ¬ (hiN 10 l = 9 ∧ gl l 10 ≠ 0 ∧ gl l 10 ≠ 127)) :
    IntKind.i64.wrap ((nb (rbits (grp l) (hiN 10 l + 1) true) : Nat) : Int) = sv (gv l (hiN 10 l + 1)) (hiN 10 l + 1) (gl l (hiN 10 l + 1)) := by
  have h1 := hw.1
  have h2 := hw.2
  have hlen := grp_len hw
  have hlb := last_bit hw
  have e64 : (2 : Nat) ^ 64 = 18446744073709551616 := by decide
  have hgv := gv_eq l (hiN 10 l + 1) (by omega) (by omega)
  have hnb : nb (rbits (grp l) (hiN 10 l + 1) true) = (gs (l.take (hiN 10 l + 1)) + 2 ^ (7 * (hiN 10 l + 1)) * nb (List.replicate (64 - 7 * (hiN 10 l + 1)) (decide (64 ≤ gl l (hiN 10 l + 1))))) % 2 ^ 64 := by
    unfold rbits
    rw [nb_take, nb_append, Bool.true_and, hlb, nb_bits, grp_gs, bitsOf_len, hlen]
  have hlt := gs_lt (l.take (hiN 10 l + 1))
  rw [List.length_take_of_le (by omega), pow128] at hlt
  rw [hnb, hgv]
  clear hnb hgv hlb
  generalize gs (l.take (hiN 10 l + 1)) = x at *
  rw [IntKind.wrap_i64]
  unfold sv
  by_cases h9 : hiN 10 l = 9
  · rw [h9] at hb ⊢
    have hz : List.replicate (64 - 7 * (9 + 1)) (decide (64 ≤ gl l (9 + 1))) = [] := rfl
    rw [hz, show nb [] = 0 from rfl, Nat.mul_zero, Nat.add_zero, show (9 + 1 : Nat) = 10 from rfl, hiBits10, e64]
    have hx := bits_or_u64_nat (x % 18446744073709551616) 0 (by omega) (by omega)
    rw [Nat.or_zero] at hx
    have hx' : bits .or .u64 ((x % 18446744073709551616 : Nat) : Int) 0 = ((x % 18446744073709551616 : Nat) : Int) := hx
    rw [hx']
    split <;> (unfold wrap64; omega)
  · have hk : 7 * (hiN 10 l + 1) ≤ 63 := by omega
    generalize hiN 10 l + 1 = k at *
    have hle : 2 ^ (7 * k) ≤ 2 ^ 63 := Nat.pow_le_pow_right (by omega) hk
    have e63 : (2 : Nat) ^ 63 = 9223372036854775808 := by decide
    have hxm : x % 2 ^ 64 = x := Nat.mod_eq_of_lt (by omega)
    rw [hxm]
    by_cases h64 : 64 ≤ gl l k
    · rw [if_pos h64, decide_eq_true h64, nb_ones, hiBits_eq k (by omega)]
      have eA : (2 ^ (64 - 7 * k) - 1) * 2 ^ (7 * k) = 2 ^ 64 - 2 ^ (7 * k) := by
        rw [Nat.sub_mul, ← Nat.pow_add, Nat.sub_add_cancel (by omega), Nat.one_mul]
      have ho := or_add x (2 ^ (64 - 7 * k) - 1) (7 * k) hlt
      rw [bits_or_u64_nat _ _ (by omega) (by rw [eA]; omega), ho, eA, Nat.mul_comm, eA, Nat.mod_eq_of_lt (by omega)]
      unfold wrap64; omega
    · rw [if_neg h64, decide_eq_false h64, nb_zeros, Nat.mul_zero, Nat.add_zero, hxm]
      unfold wrap64; omega
end Go.Proofs.Ytiicmakeoidiaaa
