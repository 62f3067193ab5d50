
/-
  Layer 13 (relr), in plain words: places that are written are read as they were.
-/
import Derived.Test.YtkelipoiopkokaaDoorRrI
set_option linter.unusedVariables false
namespace Go.Proofs.YtkelipoiopkokaaDoor
open Go.RowKit Go.PlainAid Go.Sort
/-- A row that rises, from a number on. -/
def up : Nat → List Nat → Prop
  | _, [] => True
  | a, x :: t => a ≤ x ∧ up (x + 1) t
theorem up_ge : ∀ (l : List Nat) (a : Nat), up a l → ∀ x ∈ l, a ≤ x
  | [], _, _, x, hx => by simp at hx
  | y :: t, a, h, x, hx => by
    rcases List.mem_cons.1 hx with rfl | hx
    · exact h.1
    · have := up_ge t (y + 1) h.2 x hx
      have := h.1
      omega
theorem up_low {a b : Nat} : ∀ {l : List Nat}, up a l → b ≤ a → up b l
  | [], _, _ => trivial
  | x :: t, h, hb => ⟨Nat.le_trans hb h.1, h.2⟩
theorem rowP_idx (w f : Nat) : ∀ (n k : Nat) (ks : List Nat), up k ks → (∀ x ∈ ks, x < k + n) → (∀ j, k ≤ j → j < k + n → (w / 2 ^ (j + 1) % 2 = 1 ↔ j ∈ ks)) → f + 8 * (k + n) ≤ 18446744073709551616 → rowP w f n k = ks.map fun x => f + 8 * x
  | 0, k, ks, hu, hl, _, _ => by
    cases ks with
    | nil => rfl
    | cons x t => have := hl x (by simp); have := hu.1; omega
  | n + 1, k, ks, hu, hl, hb, hf => by
    unfold rowP
    have hm : (f + 8 * k) % 18446744073709551616 = f + 8 * k := Nat.mod_eq_of_lt (by omega)
    have hk := hb k (Nat.le_refl _) (by omega)
    cases ks with
    | nil =>
      rw [if_neg (fun e => by have := hk.1 e; simp at this), rowP_idx w f n (k + 1) [] trivial (by simp) (fun j h1 h2 => hb j (by omega) (by omega)) (by omega)]
      rfl
    | cons x t =>
      by_cases hx : x = k
      · subst hx
        rw [if_pos (hk.2 (by simp)), hm, rowP_idx w f n (x + 1) t hu.2 (fun y hy => by have := hl y (by simp [hy]); omega) ?_ (by omega)]
        · rfl
        · intro j h1 h2
          rw [hb j (by omega) (by omega)]
          simp only [List.mem_cons]
          exact ⟨fun h => h.elim (fun e => by omega) id, .inr⟩
      · have hlt : k + 1 ≤ x := by have := hu.1; omega
        have hnk : k ∉ x :: t := fun h => by have := up_ge _ _ (up_low (b := k + 1) (l := x :: t) ⟨Nat.le_refl x, hu.2⟩ hlt) k h; omega
        rw [if_neg (fun e => hnk (hk.1 e)), List.nil_append, rowP_idx w f n (k + 1) (x :: t) ⟨hlt, hu.2⟩ (fun y hy => by have := hl y hy; omega) (fun j h1 h2 => hb j (by omega) (by omega)) (by omega)]
/-- What a row is made of. -/
theorem rowN_bits (f : Nat) : ∀ (s : List Nat) (r m least a : Nat), fitP least s = true → (a * 8 + f ≤ least ∨ a = 0) → ∃ c ks, (rowN f s r m).2 = m + c ∧ s.take c = ks.map (fun x => f + 8 * x) ∧ up a ks ∧ (∀ x ∈ ks, x < 63) ∧
    ∀ j, (rowN f s r m).1.testBit j = (r.testBit j || decide (∃ x ∈ ks, j = x + 1))
  | [], r, m, least, a, _, _ => ⟨0, [], rfl, rfl, trivial, by simp, fun j => by simp [rowN]⟩
  | p :: t, r, m, least, a, h, ha => by
    simp only [fitP, Bool.and_eq_true, decide_eq_true_eq] at h
    unfold rowN
    split
    · rename_i hc
      obtain ⟨x, hx⟩ : ∃ x, (p - f) / 8 = x := ⟨_, rfl⟩
      have hp : p = f + 8 * x := by omega
      obtain ⟨c, ks, h1, h2, h3, h4, h5⟩ := rowN_bits f t (r ||| 2 ^ (1 + (p - f) / 8)) (m + 1) (p + 8) (x + 1) h.2 (.inl (by omega))
      refine ⟨c + 1, x :: ks, by omega, ?_, ⟨by omega, h3⟩, ?_, ?_⟩
      · rw [List.take_succ_cons, h2, List.map_cons, ← hp]
      · intro y hy
        rcases List.mem_cons.1 hy with rfl | hy
        · omega
        · exact h4 y hy
      · intro j
        rw [h5 j, Nat.testBit_or, Nat.testBit_two_pow, hx, Bool.or_assoc]
        congr 1
        by_cases e : j = x + 1
        · subst e
          have : decide (∃ y ∈ x :: ks, x + 1 = y + 1) = true := decide_eq_true ⟨x, by simp, rfl⟩
          rw [this, show decide (1 + x = x + 1) = true by simp; omega, Bool.true_or]
        · rw [show decide (1 + x = j) = false by simp; omega, Bool.false_or]
          congr 1
          apply propext
          constructor
          · rintro ⟨y, hy, e2⟩; exact ⟨y, by simp [hy], e2⟩
          · rintro ⟨y, hy, e2⟩
            rcases List.mem_cons.1 hy with rfl | hy
            · exact absurd e2 e
            · exact ⟨y, hy, e2⟩
    · exact ⟨0, [], rfl, rfl, trivial, by simp, fun j => by simp⟩
/-- A row tells the places that it was made of. -/
theorem row_back {f least : Nat} {s : List Nat} {R M : Nat} (h : fitP least s = true) (hR : rowN f s 1 0 = (R, M)) (hf : f + 504 < 18446744073709551616) : rowAll R f = s.take M ∧ R % 2 = 1 := by
  obtain ⟨c, ks, h1, h2, h3, h4, h5⟩ := rowN_bits f s 1 0 least 0 h (.inr rfl)
  rw [hR] at h1 h5
  simp only [Nat.zero_add] at h1
  subst h1
  have hb : ∀ j, (R / 2 ^ (j + 1) % 2 = 1 ↔ j ∈ ks) := by
    intro j
    have := h5 (j + 1)
    rw [Nat.testBit_eq_decide_div_mod_eq, show (1 : Nat).testBit (j + 1) = false by rw [Nat.testBit_succ]; simp, Bool.false_or] at this
    have e := decide_eq_decide.1 this
    rw [e]
    constructor
    · rintro ⟨x, hx, e⟩
      have : j = x := by omega
      rw [this]; exact hx
    · intro hj; exact ⟨j, hj, rfl⟩
  refine ⟨?_, ?_⟩
  · rw [h2]
    exact rowP_idx R f 63 0 ks h3 (fun x hx => by have := h4 x hx; omega) (fun j _ _ => hb j) (by omega)
  · have := h5 0
    simp only at this
    rw [Nat.testBit_zero] at this
    have e : decide (∃ x ∈ ks, 0 = x + 1) = false := decide_eq_false (by rintro ⟨x, _, e⟩; omega)
    rw [e] at this
    simp at this
    exact this
theorem dec_back : ∀ (n f : Nat) (s acc : List Nat) (least : Nat), s.length ≤ n → acc ≠ [] → fitP least s = true → (acc ++ s).length ≤ 512 → f < 18446744073709551616 → decW acc f (encF n f s) = some (acc ++ s)
  | 0, f, s, acc, least, hn, _, _, _, _ => by
    have : s = [] := List.length_eq_zero_iff.1 (by omega)
    subst this
    simp [encF, decW]
  | n + 1, f, [], acc, least, _, _, _, _, _ => by simp [encF, decW]
  | n + 1, f, p :: t, acc, least, hn, ha, h, hl, hf => by
    obtain ⟨R, M, hR⟩ : ∃ R M, rowN f (p :: t) 1 0 = (R, M) := ⟨_, _, rfl⟩
    rw [encF, hR]
    simp only [List.length_append, List.length_cons] at hl hn
    by_cases hM : 0 < M
    · rw [if_pos hM]
      have hroom := row_room h hR hM
      obtain ⟨hb, hodd⟩ := row_back h hR (by omega)
      have hMl : M ≤ (p :: t).length := by have := (rowN_le f (p :: t) 1 0).2; rw [hR] at this; omega
      have hs := stepD_odd (l := acc) (f := f) (r := R) hodd ha (by omega) (by rw [hb, List.length_append, List.length_take]; simp only [List.length_cons] at *; omega)
      rw [hb] at hs
      have hfd := fitP_drop _ _ h M
      have ih := dec_back n (f + 504) ((p :: t).drop M) (acc ++ (p :: t).take M) 0 (by rw [List.length_drop]; simp only [List.length_cons] at *; omega) (by simp [ha]) hfd (by rw [List.append_assoc, List.take_append_drop]; simp only [List.length_append, List.length_cons]; omega) (by omega)
      rw [List.append_assoc, List.take_append_drop] at ih
      rw [decW, hs]
      exact ih
    · rw [if_neg hM]
      simp only [fitP, Bool.and_eq_true, decide_eq_true_eq] at h
      have hs := stepD_even (l := acc) (f := f) (r := p) h.1.1 (by omega) (by omega)
      have ih := dec_back n (p + 8) t (acc ++ [p]) (p + 8) (by omega) (by simp) h.2 (by simp only [List.length_append, List.length_cons, List.length_nil]; omega) (by omega)
      rw [decW, hs]
      simp only
      rw [ih]
      simp
theorem decW_encW {l : List Nat} (h : fitP 0 l = true) (hl : l.length ≤ 512) : decW [] 0 (encW l) = some l := by
  cases l with
  | nil => rfl
  | cons p t =>
    have hh := h
    simp only [fitP, Bool.and_eq_true, decide_eq_true_eq] at hh
    have hs := stepD_even (l := []) (f := 0) (r := p) hh.1.1 (by simp) (by omega)
    have ih := dec_back (p :: t).length (p + 8) t [p] (p + 8) (by simp) (by simp) hh.2 (by simpa using hl) (by omega)
    show decW [] 0 (p :: encF (p :: t).length (p + 8) t) = _
    rw [decW, hs]
    simp only [List.nil_append]
    rw [ih]
    rfl
theorem rdx_left (a b : List UInt8) (p s : Nat) (h : p + s ≤ a.length) : rd (a ++ b) p s = rd a p s := by
  rw [rd_in h, rd_in (by simp; omega)]
  unfold win
  rw [List.drop_append_of_le_length (by omega), List.take_append_of_le_length (by simp; omega)]
theorem rdx_right (a b : List UInt8) (p s : Nat) : rd (a ++ b) (a.length + p) s = rd b p s := by
  unfold rd
  by_cases h : p + s ≤ b.length
  · rw [if_pos h, if_pos (by simp; omega)]
    unfold win
    rw [← List.drop_drop, List.drop_left]
  · rw [if_neg h, if_neg (by simp; omega)]
theorem words_app (a b : List UInt8) (n m : Nat) (h : a.length = 8 * n) : wordsOf (a ++ b) (n + m) = wordsOf a n ++ wordsOf b m := by
  unfold wordsOf
  rw [List.range_add, List.map_append, List.map_map]
  congr 1
  · apply List.map_congr_left
    intro i hi
    rw [List.mem_range] at hi
    exact rdx_left _ _ _ _ (by omega)
  · apply List.map_congr_left
    intro i _
    show rd (a ++ b) (8 * (n + i)) 8 = rd b (8 * i) 8
    rw [Nat.mul_add, ← h]
    exact rdx_right _ _ _ _
theorem words_one (w : Nat) (hw : w < 18446744073709551616) : wordsOf (leN 8 w) 1 = [w] := by
  show [rd (leN 8 w) (8 * 0) 8] = [w]
  rw [Nat.mul_zero, rd_in (by rw [leN_length]; omega)]
  have e : win (leN 8 w) 0 8 = leN 8 w := by unfold win; rw [List.drop_zero, List.take_of_length_le (by rw [leN_length]; omega)]
  have e8 : (256 : Nat) ^ 8 = 18446744073709551616 := by decide
  rw [e, rdN_leN, e8, Nat.mod_eq_of_lt hw]
theorem words_flat : ∀ ws : List Nat, (∀ w ∈ ws, w < 18446744073709551616) → wordsOf (flatW ws) ws.length = ws
  | [], _ => rfl
  | w :: ws, h => by
    have e : flatW (w :: ws) = leN 8 w ++ flatW ws := rfl
    rw [e, List.length_cons, Nat.add_comm, words_app _ _ 1 _ (by rw [leN_length]), words_one w (h w (by simp)), words_flat ws (fun x hx => h x (by simp [hx]))]
    rfl
theorem encF_small : ∀ (n f : Nat) (s : List Nat), (∀ p ∈ s, p < 18446744073709551616) → ∀ w ∈ encF n f s, w < 18446744073709551616
  | 0, f, s, _, w, hw => by simp [encF] at hw
  | n + 1, f, [], _, w, hw => by simp [encF] at hw
  | n + 1, f, p :: t, h, w, hw => by
    rw [encF] at hw
    split at hw
    · rcases List.mem_cons.1 hw with rfl | hw
      · exact rowN_small f _ 1 0 (by omega)
      · exact encF_small n _ _ (fun x hx => h x (List.mem_of_mem_drop hx)) w hw
    · rcases List.mem_cons.1 hw with rfl | hw
      · exact h _ (by simp)
      · exact encF_small n _ _ (fun x hx => h x (by simp [hx])) w hw
theorem encW_small (l : List Nat) (h : ∀ p ∈ l, p < 18446744073709551616) : ∀ w ∈ encW l, w < 18446744073709551616 := by
  intro w hw
  cases l with
  | nil => simp [encW, encT] at hw
  | cons p t =>
    have hw' : w ∈ p :: encF (p :: t).length (p + 8) t := hw
    rcases List.mem_cons.1 hw' with rfl | hw'
    · exact h _ (by simp)
    · exact encF_small _ _ _ (fun x hx => h x (by simp [hx])) w hw'
theorem relrE_is {l : List Nat} {b : List UInt8} (h : relrE l = some b) : l.length ≤ 512 ∧ fitP 0 l = true ∧ b = flatW (encW l) := by
  unfold relrE at h
  split at h
  · rename_i hc
    injection h with h
    exact ⟨hc.1, hc.2, h.symm⟩
  · cases h
/-- What is written is read as it was. -/
theorem relr_back {l : List Nat} {b : List UInt8} (h0 : ∀ p ∈ l, p < 18446744073709551616) (h : relrE l = some b) : relrZ b = some l ∧ b.length ≤ 8 * l.length := by
  obtain ⟨h1, h2, rfl⟩ := relrE_is h
  have hl := encW_len l
  have hb := flatW_len (encW l)
  refine ⟨?_, by omega⟩
  rw [relrZ_yes (m := (encW l).length) hb (by omega), words_flat _ (encW_small l h0)]
  exact decW_encW h2 h1
end Go.Proofs.YtkelipoiopkokaaDoor
