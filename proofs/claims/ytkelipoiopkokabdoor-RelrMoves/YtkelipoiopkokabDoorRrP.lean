
/-
  Layer 13 (relr), in plain words: places rise but where a place is told anew; a list behind another one; places that lie further.
-/
import Derived.Test.YtkelipoiopkokabDoorRrN
set_option linter.unusedVariables false
namespace Go.Proofs.YtkelipoiopkokabDoor
open Go.RowKit Go.PlainAid Go.Sort
/-- How often a number isn't above the one ahead, among the first n. -/
def cntF (L : List Nat) : Nat → Nat
  | 0 => 0
  | n + 1 => cntF L n + (if 1 ≤ n ∧ L.getD n 0 ≤ L.getD (n - 1) 0 then 1 else 0)
/-- How many words are even. -/
def evens (ws : List Nat) : Nat := (ws.filter fun w => w % 2 == 0).length
theorem getD_left (a b : List Nat) (i : Nat) (h : i < a.length) : (a ++ b).getD i 0 = a.getD i 0 := by simp [List.getD, List.getElem?_append_left h]
theorem getD_right (a b : List Nat) (i : Nat) : (a ++ b).getD (a.length + i) 0 = b.getD i 0 := by
  simp only [List.getD]
  rw [List.getElem?_append_right (by omega), Nat.add_sub_cancel_left]
theorem cntF_left (a b : List Nat) : ∀ n, n ≤ a.length → cntF (a ++ b) n = cntF a n
  | 0, _ => rfl
  | n + 1, h => by
    rw [cntF, cntF, cntF_left a b n (by omega), getD_left a b n (by omega), getD_left a b (n - 1) (by omega)]
theorem up_get : ∀ (l : List Nat) (a i : Nat), up a l → i < l.length → a + i ≤ l.getD i 0 ∧ (i + 1 < l.length → l.getD i 0 < l.getD (i + 1) 0)
  | [], _, i, _, h => by simp at h
  | x :: t, a, 0, h, _ => by
    refine ⟨by simpa using h.1, fun h1 => ?_⟩
    have := (up_get t (x + 1) 0 h.2 (by simpa using h1)).1
    simp only [List.getD_cons_zero, List.getD_cons_succ]
    omega
  | x :: t, a, i + 1, h, hi => by
    have hi2 : i < t.length := by simpa using hi
    have k := up_get t (x + 1) i h.2 hi2
    have := h.1
    refine ⟨by simp only [List.getD_cons_succ]; omega, fun h1 => ?_⟩
    simp only [List.getD_cons_succ]
    exact k.2 (by simpa using h1)
theorem rowP_up (w f : Nat) : ∀ n k, f + 8 * (k + n) ≤ 18446744073709551616 → up (f + 8 * k) (rowP w f n k) ∧ ∀ x ∈ rowP w f n k, x < f + 8 * (k + n)
  | 0, k, _ => ⟨trivial, fun x hx => by simp [rowP] at hx⟩
  | n + 1, k, h => by
    obtain ⟨h1, h2⟩ := rowP_up w f n (k + 1) (by omega)
    have hm : (f + 8 * k) % 18446744073709551616 = f + 8 * k := Nat.mod_eq_of_lt (by omega)
    unfold rowP
    rw [hm]
    split
    · refine ⟨⟨Nat.le_refl _, up_low h1 (by omega)⟩, fun x hx => ?_⟩
      rcases List.mem_append.1 hx with k1 | k1
      · simp at k1; omega
      · have := h2 x k1; omega
    · rw [List.nil_append]
      exact ⟨up_low h1 (by omega), fun x hx => by have := h2 x hx; omega⟩
/-- Behind what was told, all that rises from above it on. -/
theorem cntF_up (acc X : List Nat) (f : Nat) (h : up f X) (hl : ∀ x ∈ acc, acc.getLast? = some x → x < f) : ∀ k, k ≤ X.length → cntF (acc ++ X) (acc.length + k) = cntF acc acc.length
  | 0, _ => cntF_left acc X _ (Nat.le_refl _)
  | k + 1, hk => by
    rw [show acc.length + (k + 1) = (acc.length + k) + 1 by omega, cntF, cntF_up acc X f h hl k (by omega), if_neg, Nat.add_zero]
    rintro ⟨h1, h2⟩
    rw [getD_right] at h2
    have hx := (up_get X f k h (by omega)).1
    cases k with
    | zero =>
      rw [Nat.add_zero, getD_left acc X _ (by omega)] at h2
      have hn : acc ≠ [] := by rintro rfl; simp at h1
      have hg := List.getLast?_eq_some_getLast hn
      have hm := hl _ (List.getLast_mem hn) hg
      have e : acc.getD (acc.length - 1) 0 = acc.getLast hn := by
        rw [List.getLast_eq_getElem]
        simp [List.getD, List.getElem?_eq_getElem (show acc.length - 1 < acc.length by have := List.length_pos_iff.2 hn; omega)]
      rw [e] at h2
      omega
    | succ k =>
      rw [show acc.length + (k + 1) - 1 = acc.length + k by omega, getD_right] at h2
      have := (up_get X f k h (by omega)).2 hk
      omega
theorem dec_rises : ∀ (ws acc : List Nat) (f : Nat) (L : List Nat), decW acc f ws = some L → (∀ x ∈ acc, acc.getLast? = some x → x < f) → cntF L L.length ≤ cntF acc acc.length + evens ws ∧ acc.length + evens ws ≤ L.length
  | [], acc, f, L, h, _ => by
    simp only [decW, Option.some.injEq] at h
    subst h
    simp [evens]
  | w :: ws, acc, f, L, h, hl => by
    unfold decW at h
    cases hs : stepD acc f w with
    | none => rw [hs] at h; cases h
    | some ag =>
      obtain ⟨a, g⟩ := ag
      rw [hs] at h
      unfold stepD at hs
      split at hs
      · rename_i he
        split at hs
        · rename_i hc
          injection hs with hs
          injection hs with e1 e2
          subst e1 e2
          have k := dec_rises ws _ _ L h (fun x _ hx => by simp at hx; omega)
          have e : evens (w :: ws) = evens ws + 1 := by simp [evens, he]
          have c1 : cntF (acc ++ [w]) (acc ++ [w]).length ≤ cntF acc acc.length + 1 := by
            rw [List.length_append, List.length_singleton, cntF, cntF_left acc [w] _ (Nat.le_refl _)]
            split <;> omega
          rw [e]
          have k1 := k.1
          have k2 := k.2
          rw [List.length_append, List.length_singleton] at k2
          omega
        · cases hs
      · rename_i he
        split at hs
        · rename_i hc
          injection hs with hs
          injection hs with e1 e2
          subst e1 e2
          obtain ⟨u1, u2⟩ := rowP_up w f 63 0 (by omega)
          have hup : up f (rowAll w f) := u1
          have hlt : ∀ x ∈ rowAll w f, x < f + 504 := fun x hx => by have := u2 x hx; omega
          have k := dec_rises ws _ _ L h (fun x hx hx2 => by
            rcases List.mem_append.1 hx with k1 | k1
            · by_cases hr : rowAll w f = []
              · rw [hr, List.append_nil] at hx2
                have := hl x k1 hx2; omega
              · rw [List.getLast?_append, List.getLast?_eq_some_getLast hr] at hx2
                simp only [Option.some_or, Option.some.injEq] at hx2
                have := hlt _ (List.getLast_mem hr); omega
            · have := hlt x k1; omega)
          have e : evens (w :: ws) = evens ws := by simp [evens, he]
          have c1 := cntF_up acc (rowAll w f) f hup hl (rowAll w f).length (Nat.le_refl _)
          rw [← List.length_append] at c1
          rw [e]
          have k1 := k.1
          have k2 := k.2
          rw [List.length_append] at k2
          omega
        · cases hs
/-- How many of the first n words begin with an even byte. -/
def evB (b : List UInt8) : Nat → Nat
  | 0 => 0
  | n + 1 => evB b n + (if (b.getD (8 * n) 0).toNat % 2 = 0 then 1 else 0)
theorem rd_low (b : List UInt8) (p : Nat) (h : p + 8 ≤ b.length) : rd b p 8 % 2 = (b.getD p 0).toNat % 2 := by
  rw [rd_in h]
  have e : win b p 8 = b.getD p 0 :: win b (p + 1) 7 := by
    unfold win
    rw [List.drop_eq_getElem_cons (show p < b.length by omega), List.take_succ_cons]
    simp [List.getD, List.getElem?_eq_getElem (show p < b.length by omega)]
  rw [e, rdN]
  omega
theorem evB_is (b : List UInt8) : ∀ n, 8 * n ≤ b.length → evB b n = evens (wordsOf b n)
  | 0, _ => rfl
  | n + 1, h => by
    have e : wordsOf b (n + 1) = wordsOf b n ++ [rd b (8 * n) 8] := by simp [wordsOf, List.range_succ]
    rw [evB, evB_is b n (by omega), e]
    unfold evens
    rw [List.filter_append, List.length_append, ← rd_low b (8 * n) (by omega)]
    congr 1
    by_cases hc : rd b (8 * n) 8 % 2 = 0
    · rw [if_pos hc]; simp [hc]
    · rw [if_neg hc]; simp [hc]
theorem relrZ_is {l : List UInt8} {L : List Nat} (h : relrZ l = some L) : ∃ n, l.length = 8 * n ∧ n ≤ 512 ∧ decW [] 0 (wordsOf l n) = some L := by
  unfold relrZ at h
  split at h
  · exact ⟨l.length / 8, by omega, by omega, h⟩
  · cases h
theorem relr_rises {b : List UInt8} {L : List Nat} (h : relrZ b = some L) : ∃ n, b.length = 8 * n ∧ n ≤ 512 ∧ L.length ≤ 512 ∧ evB b n ≤ L.length ∧ cntF L L.length ≤ evB b n := by
  obtain ⟨n, h1, h2, h3⟩ := relrZ_is h
  have k := dec_rises _ _ _ _ h3 (by simp)
  have e := evB_is b n (by omega)
  have k1 := k.1
  have k2 := k.2
  have z : cntF [] ([] : List Nat).length = 0 := rfl
  rw [z] at k1
  rw [List.length_nil] at k2
  exact ⟨n, h1, h2, (relrZ_ok h).1, by omega, by omega⟩
/-! ### One behind the other -/
theorem decW_cut : ∀ (ws acc : List Nat) (f : Nat) (X : List Nat), decW acc f ws = some X → ∃ g, ∀ vs, decW acc f (ws ++ vs) = decW X g vs
  | [], acc, f, X, h => by
    simp only [decW, Option.some.injEq] at h
    subst h
    exact ⟨f, fun vs => rfl⟩
  | w :: ws, acc, f, X, h => by
    unfold decW at h
    cases hs : stepD acc f w with
    | none => rw [hs] at h; cases h
    | some ag =>
      obtain ⟨a, g⟩ := ag
      rw [hs] at h
      obtain ⟨g2, k⟩ := decW_cut ws a g X h
      refine ⟨g2, fun vs => ?_⟩
      rw [List.cons_append, decW, hs]
      exact k vs
theorem stepD_more {acc a : List Nat} {f w g : Nat} (h : stepD acc f w = some (a, g)) : acc.length ≤ a.length := by
  unfold stepD at h
  split at h
  · split at h
    · injection h with h; injection h with h1 _; subst h1; simp
    · cases h
  · split at h
    · injection h with h; injection h with h1 _; subst h1; simp
    · cases h
theorem decW_more : ∀ (ws acc : List Nat) (f : Nat) (Y : List Nat), decW acc f ws = some Y → acc.length ≤ Y.length
  | [], acc, f, Y, h => by simp only [decW, Option.some.injEq] at h; subst h; exact Nat.le_refl _
  | w :: ws, acc, f, Y, h => by
    unfold decW at h
    cases hs : stepD acc f w with
    | none => rw [hs] at h; cases h
    | some ag =>
      obtain ⟨a, g⟩ := ag
      rw [hs] at h
      exact Nat.le_trans (stepD_more hs) (decW_more ws a g Y h)
theorem stepD_behind {X acc a : List Nat} {f w g : Nat} (ha : acc ≠ []) (h : stepD acc f w = some (a, g)) : stepD (X ++ acc) f w = if X.length + a.length ≤ 512 then some (X ++ a, g) else none := by
  unfold stepD at h
  split at h
  · rename_i he
    split at h
    · rename_i hc
      injection h with h
      injection h with h1 h2
      subst h1 h2
      by_cases hl : X.length + (acc ++ [w]).length ≤ 512
      · rw [if_pos hl, stepD_even he (by simp at hl ⊢; omega) hc.2, List.append_assoc]
      · rw [if_neg hl, stepD_even_no he (by simp at hl ⊢; omega)]
    · cases h
  · rename_i he
    split at h
    · rename_i hc
      injection h with h
      injection h with h1 h2
      subst h1 h2
      by_cases hl : X.length + (acc ++ rowAll w f).length ≤ 512
      · rw [if_pos hl, stepD_odd (by omega) (by simp [ha]) hc.2.1 (by rw [List.append_assoc, List.length_append]; exact hl), List.append_assoc]
      · rw [if_neg hl, stepD_odd_no (by omega) (fun k => hl (by have := k.2.2; rw [List.append_assoc, List.length_append] at this; exact this))]
    · cases h
theorem stepD_ne {acc a : List Nat} {f w g : Nat} (ha : acc ≠ []) (h : stepD acc f w = some (a, g)) : a ≠ [] := by
  have := stepD_more h
  have h1 : 0 < acc.length := List.length_pos_iff.2 ha
  intro e
  rw [e, List.length_nil] at this
  omega
theorem decW_behind (X : List Nat) : ∀ (ws acc : List Nat) (f : Nat) (Y : List Nat), acc ≠ [] → X.length + acc.length ≤ 512 → decW acc f ws = some Y → decW (X ++ acc) f ws = if X.length + Y.length ≤ 512 then some (X ++ Y) else none
  | [], acc, f, Y, _, hl, h => by
    simp only [decW, Option.some.injEq] at h
    subst h
    rw [if_pos hl]; rfl
  | w :: ws, acc, f, Y, ha, hl, h => by
    unfold decW at h
    cases hs : stepD acc f w with
    | none => rw [hs] at h; cases h
    | some ag =>
      obtain ⟨a, g⟩ := ag
      rw [hs] at h
      have k := stepD_behind (X := X) ha hs
      rw [decW, k]
      by_cases hl2 : X.length + a.length ≤ 512
      · rw [if_pos hl2]
        exact decW_behind X ws a g Y (stepD_ne ha hs) hl2 h
      · rw [if_neg hl2]
        have := decW_more ws a g Y h
        rw [if_neg (by omega)]
theorem decW_join {X Y : List Nat} {g : Nat} {vs : List Nat} (h : decW [] 0 vs = some Y) (hX : X.length ≤ 512) : decW X g vs = if X.length + Y.length ≤ 512 then some (X ++ Y) else none := by
  cases vs with
  | nil =>
    simp only [decW, Option.some.injEq] at h
    subst h
    rw [List.length_nil, Nat.add_zero, if_pos hX, List.append_nil]; rfl
  | cons w ws =>
    unfold decW at h
    cases hs : stepD [] 0 w with
    | none => rw [hs] at h; cases h
    | some ag =>
      obtain ⟨a, q⟩ := ag
      rw [hs] at h
      unfold stepD at hs
      split at hs
      · rename_i he
        split at hs
        · rename_i hc
          injection hs with hs
          injection hs with e1 e2
          subst e1 e2
          have hm := decW_more ws _ _ Y h
          simp only [List.nil_append, List.length_singleton] at hm h
          by_cases hl : X.length < 512
          · rw [decW, stepD_even he hl hc.2]
            exact decW_behind X ws [w] (w + 8) Y (by simp) (by simp; omega) h
          · rw [decW, stepD_even_no he (by omega), if_neg (by omega)]
        · cases hs
      · split at hs
        · rename_i hc
          exact absurd rfl hc.1
        · cases hs
theorem relr_join {a b : List UInt8} {X Y : List Nat} (hx : relrZ a = some X) (hy : relrZ b = some Y) :
    relrZ (a ++ b) = if X.length + Y.length ≤ 512 ∧ a.length + b.length ≤ 4096 then some (X ++ Y) else none := by
  obtain ⟨n, h1, h2, h3⟩ := relrZ_is hx
  obtain ⟨m, k1, k2, k3⟩ := relrZ_is hy
  have hX := (relrZ_ok hx).1
  by_cases hl : a.length + b.length ≤ 4096
  · rw [relrZ_yes (m := n + m) (by rw [List.length_append]; omega) (by omega), words_app a b n m h1]
    obtain ⟨g, hg⟩ := decW_cut _ _ _ _ h3
    rw [hg, decW_join k3 hX]
    by_cases hl2 : X.length + Y.length ≤ 512
    · rw [if_pos hl2, if_pos ⟨hl2, hl⟩]
    · rw [if_neg hl2, if_neg (fun k => hl2 k.1)]
  · rw [relrZ_no (by rw [List.length_append]; omega), if_neg (fun k => hl k.2)]
/-! ### Further on -/
def mv (d w : Nat) : Nat := if w % 2 = 1 then w else w + d
theorem fitP_move (d : Nat) (hd : d % 2 = 0) (hd2 : d < 4611686018427387904) : ∀ (l : List Nat) (a b : Nat), (∀ p ∈ l, p < 4611686018427387904) → (∀ p ∈ l.head?, a ≤ p ↔ b ≤ p + d) → fitP b (l.map (· + d)) = fitP a l
  | [], _, _, _, _ => rfl
  | p :: t, a, b, h, hab => by
    have hp := h p (by simp)
    have e := hab p (by simp)
    rw [List.map_cons, fitP, fitP, fitP_move d hd hd2 t (p + 8) (p + d + 8) (fun x hx => h x (by simp [hx])) (fun x _ => by omega)]
    congr 1
    apply decide_eq_decide.2
    constructor
    · rintro ⟨q1, q2, q3⟩; exact ⟨by omega, e.2 q2, by omega⟩
    · rintro ⟨q1, q2, q3⟩; exact ⟨by omega, e.1 q2, by omega⟩
theorem rowN_move (d f : Nat) : ∀ (s : List Nat) (r m : Nat), rowN (f + d) (s.map (· + d)) r m = rowN f s r m
  | [], _, _ => rfl
  | p :: t, r, m => by
    rw [List.map_cons, rowN, rowN, show p + d - (f + d) = p - f by omega]
    by_cases hc : f ≤ p ∧ (p - f) % 8 = 0 ∧ p - f < 504
    · rw [if_pos hc, if_pos ⟨by omega, hc.2⟩, rowN_move d f t]
    · rw [if_neg hc, if_neg (fun k => hc ⟨by omega, k.2⟩)]
theorem encF_move (d : Nat) : ∀ (n f : Nat) (s : List Nat), fitP 0 s = true → encF n (f + d) (s.map (· + d)) = (encF n f s).map (mv d)
  | 0, f, s, _ => rfl
  | n + 1, f, [], _ => rfl
  | n + 1, f, p :: t, h => by
    have hm := rowN_move d f (p :: t) 1 0
    rw [List.map_cons] at hm
    rw [List.map_cons, encF, encF, hm]
    obtain ⟨R, M, hR⟩ : ∃ R M, rowN f (p :: t) 1 0 = (R, M) := ⟨_, _, rfl⟩
    rw [hR]
    by_cases hM : 0 < M
    · rw [if_pos hM, if_pos hM, List.map_cons]
      have hroom := row_room h hR hM
      have hodd := (row_back h hR (by omega)).2
      have ih := encF_move d n (f + 504) ((p :: t).drop M) (fitP_drop _ _ h M)
      rw [List.map_drop, List.map_cons] at ih
      rw [show f + d + 504 = f + 504 + d by omega, ih]
      congr 1
      unfold mv
      rw [if_pos hodd]
    · have h2 := h
      simp only [fitP, Bool.and_eq_true, decide_eq_true_eq] at h2
      have ih := encF_move d n (p + 8) t (by have := fitP_drop _ _ h 1; simpa using this)
      rw [if_neg hM, if_neg hM, List.map_cons, show p + d + 8 = p + 8 + d by omega, ih]
      congr 1
      unfold mv
      rw [if_neg (by omega)]
theorem encW_move (d : Nat) (l : List Nat) (h : fitP 0 l = true) : encW (l.map (· + d)) = (encW l).map (mv d) := by
  cases l with
  | nil => rfl
  | cons p t =>
    have h2 := h
    simp only [fitP, Bool.and_eq_true, decide_eq_true_eq] at h2
    show encT ((p :: t).map (· + d)).length ((p + d) :: t.map (· + d)) = (encT (p :: t).length (p :: t)).map (mv d)
    rw [List.length_map, encT, encT, List.map_cons, show p + d + 8 = p + 8 + d by omega, encF_move d _ _ t (by have := fitP_drop _ _ h 1; simpa using this)]
    congr 1
    unfold mv
    rw [if_neg (by omega)]
theorem relr_move {d : Nat} {l : List Nat} (hd : d % 2 = 0) (hd2 : d < 4611686018427387904) (h : ∀ p ∈ l, p < 4611686018427387904) :
    relrE (l.map (· + d)) = if l.length ≤ 512 ∧ fitP 0 l = true then some (flatW ((encW l).map (mv d))) else none := by
  unfold relrE
  rw [List.length_map, fitP_move d hd hd2 l 0 0 h (fun p _ => by omega)]
  by_cases hc : l.length ≤ 512 ∧ fitP 0 l = true
  · rw [if_pos hc, if_pos hc, encW_move d l hc.2]
  · rw [if_neg hc, if_neg hc]
theorem rd_flat (ws : List Nat) (h : ∀ w ∈ ws, w < 18446744073709551616) (i : Nat) (hi : i < ws.length) : rd (flatW ws) (8 * i) 8 = ws[i] := by
  have e := words_flat ws h
  have : (wordsOf (flatW ws) ws.length)[i]? = ws[i]? := by rw [e]
  rw [List.getElem?_eq_getElem hi] at this
  simp only [wordsOf, List.getElem?_map, List.getElem?_range hi, Option.map_some, Option.some.injEq] at this
  exact this
end Go.Proofs.YtkelipoiopkokabDoor
