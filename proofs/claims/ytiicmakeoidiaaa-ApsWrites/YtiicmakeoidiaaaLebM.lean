
/-
  Plain facts: what the groups of a number say, and that what leb gathers out of them is just that; no program is in sight here.
-/
import Derived.Test.YtiicmakeoidiaaaRdE
import Derived.Test.YtiicmakeoidiaaaLebB
import Derived.Test.YtiicmakeoidiaaaBufC
set_option linter.unusedVariables false
namespace Go.Proofs.Ytiicmakeoidiaaa
open Go.RowKit Go.PlainAid
/-- The number that groups say, without a sign. -/
def gs : List UInt8 → Nat
  | [] => 0
  | c :: cs => c.toNat % 128 + 128 * gs cs
theorem gs_append : ∀ (l m : List UInt8), gs (l ++ m) = gs l + 128 ^ l.length * gs m
  | [], m => by simp [gs]
  | c :: l, m => by
    simp only [List.cons_append, gs, List.length_cons]
    rw [gs_append l m, Nat.pow_succ, Nat.mul_add, Nat.mul_comm (128 ^ l.length) 128, Nat.mul_assoc]
    omega
theorem gs_lt : ∀ (l : List UInt8), gs l < 128 ^ l.length
  | [] => by simp [gs]
  | c :: l => by
    have := gs_lt l
    simp only [gs, List.length_cons]
    rw [Nat.pow_succ]
    omega
theorem pow128 (k : Nat) : 128 ^ k = 2 ^ (7 * k) := by rw [Nat.pow_mul]
theorem mul_pow_mod (d i : Nat) (h : i ≤ 64) : d * 2 ^ i % 2 ^ 64 = d % 2 ^ (64 - i) * 2 ^ i := by
  have e : 2 ^ 64 = 2 ^ (64 - i) * 2 ^ i := by rw [← Nat.pow_add, Nat.sub_add_cancel h]
  rw [e, Nat.mul_mod_mul_right]
theorem add_pow_mod (x d i : Nat) (h : i ≤ 64) (hx : x < 2 ^ i) : (x + d * 2 ^ i) % 2 ^ 64 = x + d % 2 ^ (64 - i) * 2 ^ i := by
  have e : 2 ^ 64 = 2 ^ (64 - i) * 2 ^ i := by rw [← Nat.pow_add, Nat.sub_add_cancel h]
  have h1 : d % 2 ^ (64 - i) < 2 ^ (64 - i) := Nat.mod_lt _ (Nat.two_pow_pos _)
  have h2 : (d % 2 ^ (64 - i) + 1) * 2 ^ i ≤ 2 ^ (64 - i) * 2 ^ i := Nat.mul_le_mul_right _ h1
  rw [Nat.add_mul, Nat.one_mul, ← e] at h2
  have h3 : x + d % 2 ^ (64 - i) * 2 ^ i < 2 ^ 64 := by omega
  have h4 := Nat.div_add_mod d (2 ^ (64 - i))
  have h5 : d * 2 ^ i = 2 ^ 64 * (d / 2 ^ (64 - i)) + d % 2 ^ (64 - i) * 2 ^ i := by
    conv => lhs; rw [← h4]
    rw [Nat.add_mul, e, Nat.mul_assoc, Nat.mul_comm (d / 2 ^ (64 - i)), ← Nat.mul_assoc]
  rw [h5, Nat.add_left_comm, Nat.mul_add_mod, Nat.mod_eq_of_lt h3]
theorem take_gs (l : List UInt8) (k : Nat) (h : k < l.length) : gs (l.take (k + 1)) = gs (l.take k) + (l.getD k 0).toNat % 128 * 2 ^ (7 * k) := by
  have e : l.take (k + 1) = l.take k ++ [l.getD k 0] := by
    rw [List.take_add_one]
    congr 1
    simp [List.getD, List.getElem?_eq_getElem h]
  rw [e, gs_append, List.length_take_of_le (by omega), pow128]
  simp only [gs, Nat.mul_zero, Nat.add_zero]
  rw [Nat.mul_comm]
theorem gv_eq (l : List UInt8) : ∀ k : Nat, k ≤ l.length → k ≤ 10 → gv l k = ((gs (l.take k) % 2 ^ 64 : Nat) : Int)
  | 0, _, _ => by simp [gv, gs]
  | k + 1, h, h10 => by
    have ih := gv_eq l k (by omega) (by omega)
    have hlt : gs (l.take k) < 2 ^ (7 * k) := by
      have := gs_lt (l.take k)
      rwa [List.length_take_of_le (by omega), pow128] at this
    have h63 : 2 ^ (7 * k) ≤ 2 ^ 63 := Nat.pow_le_pow_right (by omega) (by omega)
    have e63 : (2 : Nat) ^ 63 = 9223372036854775808 := by decide
    have e64 : (2 : Nat) ^ 64 = 18446744073709551616 := by decide
    have hm : gs (l.take k) % 2 ^ 64 = gs (l.take k) := Nat.mod_eq_of_lt (by omega)
    rw [hm] at ih
    simp only [gv]
    rw [ih, take_gs l k (by omega)]
    generalize (l.getD k 0).toNat = c at *
    have hw : IntKind.u64.wrap ((c : Int) % 128 * 2 ^ (7 * k)) = ((c % 128 * 2 ^ (7 * k) % 2 ^ 64 : Nat) : Int) := by
      have e1 : (c : Int) % 128 * 2 ^ (7 * k) = ((c % 128 * 2 ^ (7 * k) : Nat) : Int) := by
        rw [Int.natCast_mul, Int.natCast_pow]; rfl
      rw [e1, IntKind.wrap_u64, e64]; omega
    rw [hw, mul_pow_mod _ _ (by omega), bits_or_u64_nat _ _ (by omega) (by rw [← mul_pow_mod _ _ (by omega), ← e64]; exact Nat.mod_lt _ (by decide)), or_add _ _ _ hlt, add_pow_mod _ _ _ (by omega) hlt]
/-- Only the last byte is below 128. -/
def Ends (l : List UInt8) : Prop := l ≠ [] ∧ ∀ i, i < l.length → ((l.getD i 0).toNat < 128 ↔ i = l.length - 1)
theorem hiN_ends : ∀ (l m : List UInt8) (f : Nat), Ends l → l.length ≤ f → hiN f (l ++ m) = l.length - 1
  | [], m, f, h, _ => absurd rfl h.1
  | [c], m, f, h, hf => by
    obtain ⟨g, rfl⟩ : ∃ g, f = g + 1 := ⟨f - 1, by simp at hf; omega⟩
    have := (h.2 0 (by simp)).mpr (by simp)
    simp at this
    simp [hiN]; omega
  | c :: d :: l, m, f, h, hf => by
    obtain ⟨g, rfl⟩ : ∃ g, f = g + 1 := ⟨f - 1, by simp at hf; omega⟩
    have h0 : ¬ c.toNat < 128 := by
      have := h.2 0 (by simp)
      simp at this; omega
    have ht : Ends (d :: l) := by
      refine ⟨by simp, fun i hi => ?_⟩
      have := h.2 (i + 1) (by simp at hi ⊢; omega)
      simp only [List.getD_cons_succ, List.length_cons] at this ⊢
      rw [this]; omega
    have ih := hiN_ends (d :: l) m g ht (by simp at hf ⊢; omega)
    simp only [List.cons_append, hiN] at ih ⊢
    rw [if_pos (by omega)]
    simp only [List.length_cons] at ih ⊢
    rw [ih]; omega
theorem getD_app (l m : List UInt8) (k : Nat) (h : k < l.length) : (l ++ m).getD k 0 = l.getD k 0 := by
  simp [List.getD, List.getElem?_append_left h]
theorem gl_app (l m : List UInt8) (h : Ends l) : gl (l ++ m) (l.length - 1 + 1) = ((l.getD (l.length - 1) 0).toNat : Int) := by
  have hp := List.length_pos_iff.mpr h.1
  simp only [gl]
  rw [getD_app _ _ _ (by omega)]
  have := (h.2 (l.length - 1) (by omega)).mpr rfl
  omega
/-- A number's groups at the head: all that a reader asks. -/
theorem ends_whole {l m : List UInt8} (h : Ends l) (h10 : l.length ≤ 10) :
    whole (l ++ m) ∧ hiN 10 (l ++ m) = l.length - 1 ∧ gv (l ++ m) (l.length - 1 + 1) = ((gs l % 2 ^ 64 : Nat) : Int) ∧ (l ++ m).drop (l.length - 1 + 1) = m := by
  have hp := List.length_pos_iff.mpr h.1
  have e := hiN_ends l m 10 h h10
  have e2 : l.length - 1 + 1 = l.length := by omega
  refine ⟨⟨by omega, by simp; omega⟩, e, ?_, ?_⟩
  · rw [e2, gv_eq _ _ (by simp) h10]
    simp
  · rw [e2]; simp
theorem U_reads {l m : List UInt8} (h : Ends l) (h10 : l.length ≤ 10) (hv : gs l < 18446744073709551616) :
    ¬ (hiN 10 (l ++ m) = 9 ∧ 1 < gl (l ++ m) 10) ∧ gv (l ++ m) (l.length - 1 + 1) = (gs l : Int) := by
  have W := ends_whole (m := m) h h10
  have e64 : (2 : Nat) ^ 64 = 18446744073709551616 := by decide
  refine ⟨?_, by rw [W.2.2.1, e64, Nat.mod_eq_of_lt hv]⟩
  rintro ⟨h9, hg⟩
  have hl : l.length = 10 := by have := W.2.1; have := List.length_pos_iff.mpr h.1; omega
  have e := gl_app l m h
  rw [hl] at e
  rw [e] at hg
  have t := take_gs l 9 (by omega)
  rw [show 9 + 1 = l.length by omega, List.take_length] at t
  have hlow := (h.2 9 (by omega)).mpr (by omega)
  have e63 : (2 : Nat) ^ (7 * 9) = 9223372036854775808 := by decide
  rw [e63] at t
  generalize (l.getD 9 0).toNat = c at *
  omega
/-- The number that groups say, with its sign. -/
def gss (l : List UInt8) : Int := if 64 ≤ (l.getD (l.length - 1) 0).toNat then (gs l : Int) - (128 ^ l.length : Nat) else (gs l : Int)
theorem hiBits_eq (k : Nat) (h : 7 * k ≤ 64) : hiBits k = (((2 ^ (64 - 7 * k) - 1) * 2 ^ (7 * k) : Nat) : Int) := by
  have e64 : (2 : Nat) ^ 64 = 18446744073709551616 := by decide
  unfold hiBits
  have e1 : (18446744073709551615 : Int) * 2 ^ (7 * k) = ((18446744073709551615 * 2 ^ (7 * k) : Nat) : Int) := by
    rw [Int.natCast_mul, Int.natCast_pow]; rfl
  have hm := mul_pow_mod 18446744073709551615 (7 * k) h
  have hle : 2 ^ (64 - 7 * k) ≤ 2 ^ 64 := Nat.pow_le_pow_right (by omega) (by omega)
  have hpos : 0 < 2 ^ (64 - 7 * k) := Nat.two_pow_pos _
  have hd : 18446744073709551615 % 2 ^ (64 - 7 * k) = 2 ^ (64 - 7 * k) - 1 := by
    have e : 2 ^ 64 = 2 ^ (64 - 7 * k) * 2 ^ (7 * k) := by rw [← Nat.pow_add, Nat.sub_add_cancel h]
    have hq : 0 < 2 ^ (7 * k) := Nat.two_pow_pos _
    generalize 2 ^ (64 - 7 * k) = A at *
    generalize 2 ^ (7 * k) = Bq at *
    obtain ⟨c, rfl⟩ : ∃ c, Bq = c + 1 := ⟨Bq - 1, by omega⟩
    rw [e64, Nat.mul_add, Nat.mul_one] at e
    have e2 : 18446744073709551615 = A * c + (A - 1) := by omega
    rw [e2, Nat.mul_add_mod, Nat.mod_eq_of_lt (by omega)]
  rw [hd] at hm
  rw [← hm, e1, IntKind.wrap_u64, e64]; omega
theorem hiBits10 : hiBits 10 = 0 := by unfold hiBits; rw [IntKind.wrap_u64]; decide
theorem S_reads {l m : List UInt8} {n : Int} (h : Ends l) (h10 : l.length ≤ 10) (hn : gss l = n) (h0 : -9223372036854775808 ≤ n) (h1 : n ≤ 9223372036854775807) :
    ¬ (hiN 10 (l ++ m) = 9 ∧ gl (l ++ m) 10 ≠ 0 ∧ gl (l ++ m) 10 ≠ 127) ∧ sv (gv (l ++ m) (l.length - 1 + 1)) (l.length - 1 + 1) (gl (l ++ m) (l.length - 1 + 1)) = n := by
  have W := ends_whole (m := m) h h10
  have hp := List.length_pos_iff.mpr h.1
  have hg := gl_app l m h
  have hlow := (h.2 (l.length - 1) (by omega)).mpr rfl
  have t := take_gs l (l.length - 1) (by omega)
  have hlt := gs_lt (l.take (l.length - 1))
  rw [List.length_take_of_le (by omega), pow128] at hlt
  rw [show l.length - 1 + 1 = l.length by omega, List.take_length] at t
  have e64 : (2 : Nat) ^ 64 = 18446744073709551616 := by decide
  rw [W.2.2.1, hg, W.2.1]
  rw [show l.length - 1 + 1 = l.length by omega] at hg
  unfold gss at hn
  generalize hd : (l.getD (l.length - 1) 0).toNat = d at *
  rw [Nat.mod_eq_of_lt hlow] at t
  by_cases hk : l.length = 10
  · have e63 : (2 : Nat) ^ (7 * (l.length - 1)) = 9223372036854775808 := by rw [hk]
    have e70 : (128 : Nat) ^ l.length = 1180591620717411303424 := by rw [hk]
    rw [e63] at t hlt
    rw [e70] at hn
    have hdd : d = 0 ∨ d = 127 := by
      by_cases h64 : 64 ≤ d
      · rw [if_pos h64] at hn; omega
      · rw [if_neg h64] at hn; omega
    rw [hk] at hg
    refine ⟨fun hh => ?_, ?_⟩
    · rw [hg] at hh; rcases hdd with rfl | rfl <;> omega
    · rw [show l.length - 1 + 1 = 10 by omega, e64]
      unfold sv
      rw [hiBits10]
      rcases hdd with rfl | rfl
      · rw [if_neg (by omega)] at hn ⊢
        unfold wrap64; omega
      · rw [if_pos (by omega)] at hn ⊢
        have hb := bits_or_u64_nat (gs l % 18446744073709551616) 0 (by omega) (by omega)
        rw [Nat.or_zero] at hb
        have hb' : bits .or .u64 ((gs l % 18446744073709551616 : Nat) : Int) 0 = ((gs l % 18446744073709551616 : Nat) : Int) := hb
        rw [hb']
        unfold wrap64; omega
  · refine ⟨fun hh => absurd hh.1 (by omega), ?_⟩
    have h7 : 7 * l.length ≤ 63 := by omega
    have hpk : 2 ^ (7 * l.length) = 128 * 2 ^ (7 * (l.length - 1)) := by
      rw [show 7 * l.length = 7 * (l.length - 1) + 7 by omega, Nat.pow_add, Nat.mul_comm]
    have hle : 2 ^ (7 * l.length) ≤ 2 ^ 63 := Nat.pow_le_pow_right (by omega) h7
    have e63 : (2 : Nat) ^ 63 = 9223372036854775808 := by decide
    have hd1 : d * 2 ^ (7 * (l.length - 1)) ≤ 127 * 2 ^ (7 * (l.length - 1)) := Nat.mul_le_mul_right _ (by omega)
    have hx : gs l % 2 ^ 64 = gs l := Nat.mod_eq_of_lt (by omega)
    rw [hx, show l.length - 1 + 1 = l.length by omega]
    unfold sv
    rw [pow128] at hn
    by_cases h64 : 64 ≤ d
    · rw [if_pos h64] at hn
      rw [if_pos (by omega), hiBits_eq _ (by omega)]
      have hd2 : 64 * 2 ^ (7 * (l.length - 1)) ≤ d * 2 ^ (7 * (l.length - 1)) := Nat.mul_le_mul_right _ h64
      have eA : (2 ^ (64 - 7 * l.length) - 1) * 2 ^ (7 * l.length) = 2 ^ 64 - 2 ^ (7 * l.length) := by
        rw [Nat.sub_mul, ← Nat.pow_add, Nat.sub_add_cancel (by omega), Nat.one_mul]
      have ho := or_add (gs l) (2 ^ (64 - 7 * l.length) - 1) (7 * l.length) (by omega)
      rw [bits_or_u64_nat _ _ (by omega) (by rw [eA]; omega), ho, eA]
      unfold wrap64
      omega
    · rw [if_neg h64] at hn
      rw [if_neg (by omega)]
      have hd2 : d * 2 ^ (7 * (l.length - 1)) ≤ 63 * 2 ^ (7 * (l.length - 1)) := Nat.mul_le_mul_right _ (by omega)
      unfold wrap64
      omega
/-! ### What PutU and PutS write -/
theorem ends_one (c : UInt8) (h : c.toNat < 128) : Ends [c] := by
  refine ⟨by simp, fun i hi => ?_⟩
  have : i = 0 := by simpa using hi
  subst this
  simp [h]
theorem ends_cons (c : UInt8) (l : List UInt8) (h : ¬ c.toNat < 128) (he : Ends l) : Ends (c :: l) := by
  have hp := List.length_pos_iff.mpr he.1
  refine ⟨by simp, fun i hi => ?_⟩
  match i, hi with
  | 0, _ => simp [h]; omega
  | i + 1, hi =>
    have := he.2 i (by simpa using hi)
    simp only [List.getD_cons_succ, List.length_cons]
    rw [this]; omega
theorem b8_hi (k : Nat) (h : k < 128) : (b8 (k + 128)).toNat = k + 128 := by
  have := ofNat_toNat (k := k + 128) (by omega); omega
theorem b8_lo (k : Nat) (h : k < 128) : (b8 k).toNat = k := by
  have := ofNat_toNat (k := k) (by omega); omega
theorem lebU_says : ∀ (f n : Nat), 1 ≤ f → n < 128 ^ f → Ends (lebU f n) ∧ gs (lebU f n) = n ∧ (lebU f n).length ≤ f
  | 0, n, h, _ => by omega
  | f + 1, n, _, h => by
    unfold lebU
    split
    · rename_i h0
      exact ⟨ends_one _ (by rw [b8_lo _ h0]; exact h0), by simp [gs, b8_lo _ h0]; omega, by simp⟩
    · rename_i h0
      have D := div128 h h0
      simp only [Nat.add_sub_cancel] at D
      have ih := lebU_says f (n / 128) D.2 D.1
      refine ⟨ends_cons _ _ (by rw [b8_hi _ (by omega)]; omega) ih.1, ?_, by simp; exact ih.2.2⟩
      simp only [gs]
      rw [ih.2.1, b8_hi _ (by omega)]; omega
theorem gss_cons (c : UInt8) (l : List UInt8) (h : Ends l) : gss (c :: l) = (c.toNat % 128 : Nat) + 128 * gss l := by
  have hp := List.length_pos_iff.mpr h.1
  obtain ⟨k, hk⟩ : ∃ k, l.length = k + 1 := ⟨l.length - 1, by omega⟩
  unfold gss
  simp only [List.length_cons, gs, hk, Nat.add_sub_cancel, List.getD_cons_succ]
  rw [Nat.pow_succ 128 (k + 1)]
  split <;> omega
theorem lebS_says : ∀ (f : Nat) (n : Int), 1 ≤ f → roomS f n → Ends (lebS f n) ∧ gss (lebS f n) = n ∧ (lebS f n).length ≤ f
  | 0, n, h, _ => by omega
  | f + 1, n, h1, h => by
    unfold lebS
    split
    · rename_i h0
      have hb := b8_lo (n % 128).toNat (by omega)
      refine ⟨ends_one _ (by omega), ?_, by simp⟩
      simp [gss, gs, hb]
      split <;> omega
    · rename_i h0
      have D := roomS_step h1 h h0
      simp only [Nat.add_sub_cancel] at D
      have ih := lebS_says f (n / 128) D.2 D.1
      refine ⟨ends_cons _ _ (by rw [b8_hi _ (by omega)]; omega) ih.1, ?_, by simp; exact ih.2.2⟩
      rw [gss_cons _ _ ih.1, ih.2.1, b8_hi _ (by omega)]; omega
end Go.Proofs.Ytiicmakeoidiaaa
