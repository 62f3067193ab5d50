/-
  Plain facts: a text is read as a number just if it is the number's digits; no program is in sight here.
-/
import Derived.Test.YtbpajkoaeopnfaaDigits2
import Derived.Lib.SmallJoins
set_option linter.unusedVariables false
namespace Go.Proofs.Ytbpajkoaeopnfaa
open Go.RowKit Go.PlainAid

/-- The number that digits say behind another one. -/
def hor (b : Nat) : List UInt8 → Nat → Option Nat
  | [], n => some n
  | c :: cs, n => if dv b (c.toNat : Int) < 0 then none else hor b cs (n * b + (dv b (c.toNat : Int)).toNat)
def horM (b M : Nat) : List UInt8 → Nat → Option Nat
  | [], n => some n
  | c :: cs, n => if dv b (c.toNat : Int) < 0 then none else if (((M : Int) - dv b (c.toNat : Int)) / b) < (n : Int) then none else horM b M cs (n * b + (dv b (c.toNat : Int)).toNat)
theorem drop_bt (s : ByteArray) (k : Nat) (h : k < s.size) : ∃ c : UInt8, bt s k = (c.toNat : Int) ∧ s.data.toList.drop k = c :: s.data.toList.drop (k + 1) := by
  refine ⟨s[k], ?_, ?_⟩
  · unfold bt; rw [dif_pos h]
  · rw [List.drop_eq_getElem_cons (by simpa using h)]; rfl
theorem rdLoop_list (b M : Nat) (s : ByteArray) : ∀ (f k n : Nat), k + f = s.size → rdLoop b M s f k n = horM b M (s.data.toList.drop k) n
  | 0, k, n, h => by
    rw [List.drop_of_length_le (by simp; omega)]; rfl
  | f + 1, k, n, h => by
    obtain ⟨c, h1, h2⟩ := drop_bt s k (by omega)
    rw [h2]
    simp only [rdLoop, horM, h1]
    rw [rdLoop_list b M s f (k + 1) _ (by omega)]
theorem hor_ge {b : Nat} (hb : 1 ≤ b) : ∀ (l : List UInt8) (n v : Nat), hor b l n = some v → n ≤ v
  | [], n, v, h => by simp [hor] at h; omega
  | c :: cs, n, v, h => by
    simp only [hor] at h
    split at h
    · cases h
    · have := hor_ge hb cs _ _ h
      have h2 : n * 1 ≤ n * b := Nat.mul_le_mul_left n hb
      omega
theorem over_iff {b M n : Nat} {d : Int} (hb : 1 ≤ b) : ((M : Int) - d) / b < (n : Int) ↔ (M : Int) < (n : Int) * b + d := by
  have h := Int.ediv_lt_iff_lt_mul (a := (M : Int) - d) (b := (n : Int)) (c := (b : Int)) (by omega)
  rw [h]; omega
theorem horM_iff {b M : Nat} (hb : 1 ≤ b) : ∀ (l : List UInt8) (n v : Nat), n ≤ M → (horM b M l n = some v ↔ hor b l n = some v ∧ v ≤ M)
  | [], n, v, h => by
    simp only [horM, hor]
    constructor
    · intro h1; simp at h1; subst h1; exact ⟨rfl, h⟩
    · intro h1; exact h1.1
  | c :: cs, n, v, h => by
    simp only [horM, hor]
    by_cases h1 : dv b (c.toNat : Int) < 0
    · simp [h1]
    · rw [if_neg h1, if_neg h1]
      have hd : ((dv b (c.toNat : Int)).toNat : Int) = dv b (c.toNat : Int) := by omega
      have hm : ((n * b : Nat) : Int) = (n : Int) * b := Int.natCast_mul _ _
      by_cases h2 : ((M : Int) - dv b (c.toNat : Int)) / b < (n : Int)
      · rw [if_pos h2]
        have h3 := (over_iff hb).mp h2
        constructor
        · intro h4; cases h4
        · rintro ⟨h4, h5⟩
          have := hor_ge hb _ _ _ h4
          omega
      · rw [if_neg h2]
        have h3 : ¬ (M : Int) < (n : Int) * b + dv b (c.toNat : Int) := fun h => h2 ((over_iff hb).mpr h)
        exact horM_iff hb cs _ v (by omega)
theorem hor_append (b : Nat) : ∀ (l m : List UInt8) (n : Nat), hor b (l ++ m) n = (hor b l n).bind (hor b m)
  | [], m, n => by simp [hor]
  | c :: l, m, n => by
    simp only [List.cons_append, hor]
    split
    · rfl
    · exact hor_append b l m _
theorem dv_dg_10 (d : Nat) (h : d < 10) : dv 10 ((dg d).toNat : Int) = (d : Int) := by
  have : ∀ k : Fin 10, dv 10 ((dg k.val).toNat : Int) = (k.val : Int) := by decide
  exact this ⟨d, h⟩
theorem dg_dv_10 (c : UInt8) (h : ¬ dv 10 (c.toNat : Int) < 0) : c = dg (dv 10 (c.toNat : Int)).toNat := by
  have h1 : dv 10 (c.toNat : Int) = ((dv 10 (c.toNat : Int)).toNat : Nat) := by omega
  have h2 := (Lib.indexByte_some (l := (ByteArray.extract ⟨#[48, 49, 50, 51, 52, 53, 54, 55, 56, 57, 97, 98, 99, 100, 101, 102]⟩ 0 10).data.toList) h1).1
  have hlt := dv_lt10 (c.toNat : Int)
  generalize (dv 10 (c.toNat : Int)).toNat = d at h2
  have h3 : ∀ k : Nat, (ByteArray.extract ⟨#[48, 49, 50, 51, 52, 53, 54, 55, 56, 57, 97, 98, 99, 100, 101, 102]⟩ 0 10).data.toList[k]? = some ((c.toNat : Int).toNat.toUInt8) → (c.toNat : Int).toNat.toUInt8 = dg k := by
    intro k hk
    by_cases hk2 : k < 10
    · have : ∀ j : Fin 10, (ByteArray.extract ⟨#[48, 49, 50, 51, 52, 53, 54, 55, 56, 57, 97, 98, 99, 100, 101, 102]⟩ 0 10).data.toList[j.val]? = some (dg j.val) := by decide
      rw [this ⟨k, hk2⟩] at hk
      exact (Option.some.inj hk).symm
    · rw [List.getElem?_eq_none (by have : (ByteArray.extract ⟨#[48, 49, 50, 51, 52, 53, 54, 55, 56, 57, 97, 98, 99, 100, 101, 102]⟩ 0 10).data.toList.length = 10 := by decide
                                    omega)] at hk
      cases hk
  have h4 := h3 d h2
  have h5 : (c.toNat : Int).toNat.toUInt8 = c := by simp
  rw [h5] at h4; exact h4
theorem hor_digs_10 : ∀ (f n : Nat), 1 ≤ f → n < 10 ^ f → hor 10 (digs 10 f n) 0 = some n
  | 0, n, h, _ => by omega
  | f + 1, n, _, h => by
    unfold digs
    have hd := dv_dg_10 (n % 10) (by omega)
    have hnn : ¬ dv 10 ((dg (n % 10)).toNat : Int) < 0 := by rw [hd]; omega
    split
    · simp only [hor]
      rw [if_neg hnn, hd]; congr 1; omega
    · rename_i h0
      have hlt : n / 10 < 10 ^ f := div_lt_pow (by omega) h
      have hf : 1 ≤ f := by
        cases f with
        | zero => simp at hlt; omega
        | succ f => omega
      rw [hor_append, hor_digs_10 f (n / 10) hf hlt]
      simp only [Option.bind_some, hor]
      rw [if_neg hnn, hd]; congr 1; omega
theorem digs_head_10 : ∀ (f n : Nat), 1 ≤ f → n < 10 ^ f → (digs 10 f n).head? = some 48 → n = 0
  | 0, n, h, _, _ => by omega
  | f + 1, n, _, h, hh => by
    unfold digs at hh
    split at hh
    · rename_i h0
      have : ∀ k : Fin 10, dg k.val = 48 → k.val = 0 := by decide
      simp at hh
      have := this ⟨n % 10, by omega⟩ hh
      simp at this; omega
    · rename_i h0
      have hlt : n / 10 < 10 ^ f := div_lt_pow (by omega) h
      have hf : 1 ≤ f := by
        cases f with
        | zero => simp at hlt; omega
        | succ f => omega
      cases hl : digs 10 f (n / 10) with
      | nil =>
        have := hor_digs_10 f (n / 10) hf hlt
        rw [hl] at this; simp [hor] at this; omega
      | cons x l =>
        rw [hl] at hh
        simp at hh
        exact absurd (digs_head_10 f (n / 10) hf hlt (by rw [hl]; simp [hh])) h0
theorem hor_pos_10 (l : List UInt8) (v : Nat) (c : UInt8) (hc : c ≠ 48) (h : hor 10 (c :: l) 0 = some v) : 1 ≤ v := by
  simp only [hor] at h
  split at h
  · cases h
  · rename_i h1
    have h2 := dg_dv_10 c h1
    have h3 := hor_ge (by omega) _ _ _ h
    have h4 : (dv 10 (c.toNat : Int)).toNat ≠ 0 := fun e => hc (by rw [h2, e]; rfl)
    omega
theorem canon_10 : ∀ (k : Nat) (l : List UInt8) (v f : Nat), l.length = k → l ≠ [] → ¬ (l.head? = some 48 ∧ l ≠ [48]) → hor 10 l 0 = some v → 1 ≤ f → v < 10 ^ f → l = digs 10 f v
  | 0, l, v, f, hk, hne, _, _, _, _ => absurd (List.length_eq_zero_iff.mp hk) hne
  | k + 1, l, v, f, hk, hne, hh, hv, hf, hlt => by
    obtain ⟨g, rfl⟩ : ∃ g, f = g + 1 := ⟨f - 1, by omega⟩
    have hsp := List.dropLast_concat_getLast hne
    generalize l.getLast hne = c at hsp
    generalize hl' : l.dropLast = l' at hsp
    subst hsp
    clear hl'
    rw [hor_append] at hv
    obtain ⟨v', hv', hv2⟩ := Option.bind_eq_some_iff.mp hv
    simp only [hor] at hv2
    split at hv2
    · cases hv2
    · rename_i h1
      have h2 := dg_dv_10 c h1
      have h3 := dv_lt10 (c.toNat : Int)
      simp at hv2
      have hd : (dv 10 (c.toNat : Int)).toNat < 10 := by omega
      generalize (dv 10 (c.toNat : Int)).toNat = d at *
      have e1 : v / 10 = v' := by omega
      have e2 : v % 10 = d := by omega
      unfold digs
      rw [e1, e2]
      cases l' with
      | nil =>
        simp [hor] at hv'
        subst hv'
        rw [if_pos rfl, ← h2]; rfl
      | cons x l' =>
        have hx : x ≠ 48 := fun e => hh ⟨by simp [e], by simp⟩
        have hp := hor_pos_10 l' v' x hx hv'
        have hlt2 : v' < 10 ^ g := by rw [← e1]; exact div_lt_pow (by omega) hlt
        have hg : 1 ≤ g := by
          cases g with
          | zero => simp at hlt2; omega
          | succ g => omega
        rw [if_neg (by omega), ← h2, ← canon_10 k (x :: l') v' g (by simp at hk ⊢; omega) (by simp) (fun hc => hx (by simpa using hc.1)) hv' hg hlt2]
theorem dv_dg_16 (d : Nat) (h : d < 16) : dv 16 ((dg d).toNat : Int) = (d : Int) := by
  have : ∀ k : Fin 16, dv 16 ((dg k.val).toNat : Int) = (k.val : Int) := by decide
  exact this ⟨d, h⟩
theorem dg_dv_16 (c : UInt8) (h : ¬ dv 16 (c.toNat : Int) < 0) : c = dg (dv 16 (c.toNat : Int)).toNat := by
  have h1 : dv 16 (c.toNat : Int) = ((dv 16 (c.toNat : Int)).toNat : Nat) := by omega
  have h2 := (Lib.indexByte_some (l := (ByteArray.extract ⟨#[48, 49, 50, 51, 52, 53, 54, 55, 56, 57, 97, 98, 99, 100, 101, 102]⟩ 0 16).data.toList) h1).1
  have hlt := dv_lt16 (c.toNat : Int)
  generalize (dv 16 (c.toNat : Int)).toNat = d at h2
  have h3 : ∀ k : Nat, (ByteArray.extract ⟨#[48, 49, 50, 51, 52, 53, 54, 55, 56, 57, 97, 98, 99, 100, 101, 102]⟩ 0 16).data.toList[k]? = some ((c.toNat : Int).toNat.toUInt8) → (c.toNat : Int).toNat.toUInt8 = dg k := by
    intro k hk
    by_cases hk2 : k < 16
    · have : ∀ j : Fin 16, (ByteArray.extract ⟨#[48, 49, 50, 51, 52, 53, 54, 55, 56, 57, 97, 98, 99, 100, 101, 102]⟩ 0 16).data.toList[j.val]? = some (dg j.val) := by decide
      rw [this ⟨k, hk2⟩] at hk
      exact (Option.some.inj hk).symm
    · rw [List.getElem?_eq_none (by have : (ByteArray.extract ⟨#[48, 49, 50, 51, 52, 53, 54, 55, 56, 57, 97, 98, 99, 100, 101, 102]⟩ 0 16).data.toList.length = 16 := by decide
                                    omega)] at hk
      cases hk
  have h4 := h3 d h2
  have h5 : (c.toNat : Int).toNat.toUInt8 = c := by simp
  rw [h5] at h4; exact h4
theorem hor_digs_16 : ∀ (f n : Nat), 1 ≤ f → n < 16 ^ f → hor 16 (digs 16 f n) 0 = some n
  | 0, n, h, _ => by omega
  | f + 1, n, _, h => by
    unfold digs
    have hd := dv_dg_16 (n % 16) (by omega)
    have hnn : ¬ dv 16 ((dg (n % 16)).toNat : Int) < 0 := by rw [hd]; omega
    split
    · simp only [hor]
      rw [if_neg hnn, hd]; congr 1; omega
    · rename_i h0
      have hlt : n / 16 < 16 ^ f := div_lt_pow (by omega) h
      have hf : 1 ≤ f := by
        cases f with
        | zero => simp at hlt; omega
        | succ f => omega
      rw [hor_append, hor_digs_16 f (n / 16) hf hlt]
      simp only [Option.bind_some, hor]
      rw [if_neg hnn, hd]; congr 1; omega
theorem digs_head_16 : ∀ (f n : Nat), 1 ≤ f → n < 16 ^ f → (digs 16 f n).head? = some 48 → n = 0
  | 0, n, h, _, _ => by omega
  | f + 1, n, _, h, hh => by
    unfold digs at hh
    split at hh
    · rename_i h0
      have : ∀ k : Fin 16, dg k.val = 48 → k.val = 0 := by decide
      simp at hh
      have := this ⟨n % 16, by omega⟩ hh
      simp at this; omega
    · rename_i h0
      have hlt : n / 16 < 16 ^ f := div_lt_pow (by omega) h
      have hf : 1 ≤ f := by
        cases f with
        | zero => simp at hlt; omega
        | succ f => omega
      cases hl : digs 16 f (n / 16) with
      | nil =>
        have := hor_digs_16 f (n / 16) hf hlt
        rw [hl] at this; simp [hor] at this; omega
      | cons x l =>
        rw [hl] at hh
        simp at hh
        exact absurd (digs_head_16 f (n / 16) hf hlt (by rw [hl]; simp [hh])) h0
theorem hor_pos_16 (l : List UInt8) (v : Nat) (c : UInt8) (hc : c ≠ 48) (h : hor 16 (c :: l) 0 = some v) : 1 ≤ v := by
  simp only [hor] at h
  split at h
  · cases h
  · rename_i h1
    have h2 := dg_dv_16 c h1
    have h3 := hor_ge (by omega) _ _ _ h
    have h4 : (dv 16 (c.toNat : Int)).toNat ≠ 0 := fun e => hc (by rw [h2, e]; rfl)
    omega
theorem canon_16 : ∀ (k : Nat) (l : List UInt8) (v f : Nat), l.length = k → l ≠ [] → ¬ (l.head? = some 48 ∧ l ≠ [48]) → hor 16 l 0 = some v → 1 ≤ f → v < 16 ^ f → l = digs 16 f v
  | 0, l, v, f, hk, hne, _, _, _, _ => absurd (List.length_eq_zero_iff.mp hk) hne
  | k + 1, l, v, f, hk, hne, hh, hv, hf, hlt => by
    obtain ⟨g, rfl⟩ : ∃ g, f = g + 1 := ⟨f - 1, by omega⟩
    have hsp := List.dropLast_concat_getLast hne
    generalize l.getLast hne = c at hsp
    generalize hl' : l.dropLast = l' at hsp
    subst hsp
    clear hl'
    rw [hor_append] at hv
    obtain ⟨v', hv', hv2⟩ := Option.bind_eq_some_iff.mp hv
    simp only [hor] at hv2
    split at hv2
    · cases hv2
    · rename_i h1
      have h2 := dg_dv_16 c h1
      have h3 := dv_lt16 (c.toNat : Int)
      simp at hv2
      have hd : (dv 16 (c.toNat : Int)).toNat < 16 := by omega
      generalize (dv 16 (c.toNat : Int)).toNat = d at *
      have e1 : v / 16 = v' := by omega
      have e2 : v % 16 = d := by omega
      unfold digs
      rw [e1, e2]
      cases l' with
      | nil =>
        simp [hor] at hv'
        subst hv'
        rw [if_pos rfl, ← h2]; rfl
      | cons x l' =>
        have hx : x ≠ 48 := fun e => hh ⟨by simp [e], by simp⟩
        have hp := hor_pos_16 l' v' x hx hv'
        have hlt2 : v' < 16 ^ g := by rw [← e1]; exact div_lt_pow (by omega) hlt
        have hg : 1 ≤ g := by
          cases g with
          | zero => simp at hlt2; omega
          | succ g => omega
        rw [if_neg (by omega), ← h2, ← canon_16 k (x :: l') v' g (by simp at hk ⊢; omega) (by simp) (fun hc => hx (by simpa using hc.1)) hv' hg hlt2]
theorem rd_iff_16 (t : ByteArray) (n : Nat) : rd 16 18446744073709551615 t = some n ↔ t.data.toList = digs 16 20 n ∧ n ≤ 18446744073709551615 := by
  have hlen : t.data.toList.length = t.size := by simp
  unfold rd
  rw [rdLoop_list _ _ _ t.size 0 0 (by omega), List.drop_zero, Lib.toList_data]
  have hb0 : 0 < t.size → ∃ c : UInt8, bt t 0 = (c.toNat : Int) ∧ t.data.toList.head? = some c := by
    intro h
    obtain ⟨c, h1, h2⟩ := drop_bt t 0 h
    rw [List.drop_zero] at h2
    exact ⟨c, h1, by rw [h2]; rfl⟩
  generalize hl : t.data.toList = l at *
  constructor
  · intro h
    split at h
    · cases h
    · rename_i h1
      split at h
      · cases h
      · rename_i h2
        have hne : l ≠ [] := fun e => h1 (by rw [e]; rfl)
        have hpos : 0 < t.size := by rw [← hlen]; exact List.length_pos_iff.mpr hne
        obtain ⟨c, hc1, hc2⟩ := hb0 hpos
        have H := (horM_iff (by omega) l 0 n (by omega)).mp h
        refine ⟨canon_16 _ l n 20 rfl hne ?_ H.1 (by omega) (Nat.lt_of_le_of_lt H.2 (by decide)), H.2⟩
        rintro ⟨h3, h4⟩
        rw [hc2] at h3
        have : c = 48 := Option.some.inj h3
        subst this
        exact h2 ⟨by rw [hc1]; rfl, by simpa using h4⟩
  · rintro ⟨rfl, h⟩
    have hlt : n < 16 ^ 20 := Nat.lt_of_le_of_lt h (by decide)
    have hh := hor_digs_16 20 n (by omega) hlt
    have hne : digs 16 20 n ≠ [] := by
      intro e; rw [e] at hh
      simp [hor] at hh
      subst hh
      simp [digs] at e
    have hpos : 0 < t.size := by rw [← hlen]; exact List.length_pos_iff.mpr hne
    obtain ⟨c, hc1, hc2⟩ := hb0 hpos
    rw [if_neg (by simpa using hne), if_neg, (horM_iff (by omega) _ 0 n (by omega))]
    · exact ⟨hh, h⟩
    · rintro ⟨h3, h4⟩
      rw [hc1] at h3
      have : c = 48 := by
        apply UInt8.toNat_inj.mp
        have e : (48 : UInt8).toNat = 48 := rfl
        omega
      subst this
      have h0 := digs_head_16 20 n (by omega) hlt hc2
      subst h0
      have : digs 16 20 0 = [48] := by decide
      rw [this] at h4
      simp at h4
theorem rd_iff_10 (t : ByteArray) (n : Nat) : rd 10 2147483647 t = some n ↔ t.data.toList = digs 10 20 n ∧ n ≤ 2147483647 := by
  have hlen : t.data.toList.length = t.size := by simp
  unfold rd
  rw [rdLoop_list _ _ _ t.size 0 0 (by omega), List.drop_zero, Lib.toList_data]
  have hb0 : 0 < t.size → ∃ c : UInt8, bt t 0 = (c.toNat : Int) ∧ t.data.toList.head? = some c := by
    intro h
    obtain ⟨c, h1, h2⟩ := drop_bt t 0 h
    rw [List.drop_zero] at h2
    exact ⟨c, h1, by rw [h2]; rfl⟩
  generalize hl : t.data.toList = l at *
  constructor
  · intro h
    split at h
    · cases h
    · rename_i h1
      split at h
      · cases h
      · rename_i h2
        have hne : l ≠ [] := fun e => h1 (by rw [e]; rfl)
        have hpos : 0 < t.size := by rw [← hlen]; exact List.length_pos_iff.mpr hne
        obtain ⟨c, hc1, hc2⟩ := hb0 hpos
        have H := (horM_iff (by omega) l 0 n (by omega)).mp h
        refine ⟨canon_10 _ l n 20 rfl hne ?_ H.1 (by omega) (Nat.lt_of_le_of_lt H.2 (by decide)), H.2⟩
        rintro ⟨h3, h4⟩
        rw [hc2] at h3
        have : c = 48 := Option.some.inj h3
        subst this
        exact h2 ⟨by rw [hc1]; rfl, by simpa using h4⟩
  · rintro ⟨rfl, h⟩
    have hlt : n < 10 ^ 20 := Nat.lt_of_le_of_lt h (by decide)
    have hh := hor_digs_10 20 n (by omega) hlt
    have hne : digs 10 20 n ≠ [] := by
      intro e; rw [e] at hh
      simp [hor] at hh
      subst hh
      simp [digs] at e
    have hpos : 0 < t.size := by rw [← hlen]; exact List.length_pos_iff.mpr hne
    obtain ⟨c, hc1, hc2⟩ := hb0 hpos
    rw [if_neg (by simpa using hne), if_neg, (horM_iff (by omega) _ 0 n (by omega))]
    · exact ⟨hh, h⟩
    · rintro ⟨h3, h4⟩
      rw [hc1] at h3
      have : c = 48 := by
        apply UInt8.toNat_inj.mp
        have e : (48 : UInt8).toNat = 48 := rfl
        omega
      subst this
      have h0 := digs_head_10 20 n (by omega) hlt hc2
      subst h0
      have : digs 10 20 0 = [48] := by decide
      rw [this] at h4
      simp at h4
theorem phex_iff (s : ByteArray) (n : Nat) : phex s = some n ↔ s.data.toList = 48 :: 120 :: digs 16 20 n ∧ n ≤ 18446744073709551615 := by
  have hlen : s.data.toList.length = s.size := by simp
  unfold phex
  rw [Lib.toList_data, Lib.extract_data]
  have e2 : (s.extract 2 s.size).data.toList = s.data.toList.drop 2 := by
    rw [Lib.extract_data, List.take_of_length_le (by simp)]
  simp only [List.drop_zero, Nat.sub_zero]
  constructor
  · intro h
    split at h
    · rename_i h1
      have H := (rd_iff_16 _ n).mp h
      rw [e2] at H
      refine ⟨?_, H.2⟩
      have h3 : s.data.toList.take 2 = [48, 120] := by simpa using h1.2
      rw [← List.take_append_drop 2 s.data.toList, h3, H.1]; rfl
    · cases h
  · rintro ⟨h1, h2⟩
    rw [if_pos]
    · rw [rd_iff_16, e2, h1]; exact ⟨rfl, h2⟩
    · rw [← hlen, h1]; simp
end Go.Proofs.Ytbpajkoaeopnfaa
