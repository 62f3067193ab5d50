
/-
  Layer 18 (conf): placeholders, as plain data. Nothing of the program.
-/
import Derived.Test.YtmcefflgbliehaaDoorCfM
import Derived.Test.YtmcefflgbliehaaDoorPathM
set_option linter.unusedVariables false
namespace Go.Proofs.YtmcefflgbliehaaDoor
open Go.Lib
def libW : List UInt8 := [76, 73, 66]
def levW : List UInt8 := [76, 69, 86, 69, 76]
def lib64 : List UInt8 := [108, 105, 98, 54, 52]
/-- What a word means. -/
def meanT (lv wd : List UInt8) : List UInt8 := if wd = libW then lib64 else if wd = levW then lv else []
def meanB (wd : List UInt8) : Bool := wd == libW || wd == levW
/-- The text without placeholders, from here on (n: at least one more than its length). -/
def rF (lv : List UInt8) : Nat → List UInt8 → Option (List UInt8)
  | 0, _ => none
  | _ + 1, [] => some []
  | n + 1, b :: r =>
    if hasPrefix (b :: r) [36, 123] = true then
      if (cut (r.drop 1) [125]).2.2 = true ∧ meanB (cut (r.drop 1) [125]).1 = true then (rF lv n (cut (r.drop 1) [125]).2.1).map (meanT lv (cut (r.drop 1) [125]).1 ++ ·) else none
    else (rF lv n r).map (b :: ·)
theorem cut_snd (l sep : List UInt8) : (cut l sep).2.1.length ≤ l.length := by
  unfold cut
  split <;> simp
theorem rF_more (lv : List UInt8) : ∀ (n m : Nat) (l : List UInt8), l.length < n → l.length < m → rF lv n l = rF lv m l
  | 0, _, l, h, _ => by omega
  | _, 0, l, _, h => by omega
  | n + 1, m + 1, [], _, _ => rfl
  | n + 1, m + 1, b :: r, h1, h2 => by
    simp only [List.length_cons] at h1 h2
    rw [rF, rF]
    have hc := cut_snd (r.drop 1) [125]
    rw [List.length_drop] at hc
    rw [rF_more lv n m (cut (r.drop 1) [125]).2.1 (by omega) (by omega), rF_more lv n m r (by omega) (by omega)]
def expO (lv l : List UInt8) : Option (List UInt8) := rF lv (l.length + 1) l
theorem expO_nil (lv : List UInt8) : expO lv [] = some [] := rfl
theorem expO_step (lv : List UInt8) (b : UInt8) (r : List UInt8) (h : hasPrefix (b :: r) [36, 123] = false) : expO lv (b :: r) = (expO lv r).map (b :: ·) := by
  unfold expO
  rw [rF, if_neg (by rw [h]; simp)]
  rfl
/-- What follows behind the sign. -/
def bodO (lv r : List UInt8) : Option (List UInt8) := if (cut r [125]).2.2 = true ∧ meanB (cut r [125]).1 = true then (expO lv (cut r [125]).2.1).map (meanT lv (cut r [125]).1 ++ ·) else none
theorem expO_sign (lv : List UInt8) (r : List UInt8) : expO lv (36 :: 123 :: r) = bodO lv r := by
  unfold expO bodO
  rw [rF, if_pos (by unfold hasPrefix; simp [List.isPrefixOf])]
  have hc := cut_snd r [125]
  have e : (123 :: r).drop 1 = r := rfl
  rw [e]
  by_cases h : (cut r [125]).2.2 = true ∧ meanB (cut r [125]).1 = true
  · rw [if_pos h, if_pos h]
    unfold expO
    rw [rF_more lv _ ((cut r [125]).2.1.length + 1) _ (by simp only [List.length_cons]; omega) (by omega)]
  · rw [if_neg h, if_neg h]
theorem pre_form (l : List UInt8) (h : hasPrefix l [36, 123] = true) : ∃ r, l = 36 :: 123 :: r := by
  unfold hasPrefix at h
  match l, h with
  | [], h => simp [List.isPrefixOf] at h
  | [a], h => simp [List.isPrefixOf] at h
  | a :: b :: r, h =>
    simp [List.isPrefixOf] at h
    obtain ⟨h1, h2⟩ := h
    exact ⟨r, by rw [← h1, ← h2]⟩
theorem cut_pre (r : List UInt8) : cut (36 :: 123 :: r) [36, 123] = ([], r, true) := by
  have h0 : index (36 :: 123 :: r) [36, 123] = 0 := by
    rw [index, if_pos (by simp [List.isPrefixOf])]
  unfold cut
  rw [h0]
  simp
theorem cut_cons (b : UInt8) (r : List UInt8) (h : hasPrefix (b :: r) [36, 123] = false) : cut (b :: r) [36, 123] = (b :: (cut r [36, 123]).1, (cut r [36, 123]).2.1, (cut r [36, 123]).2.2) := by
  have hi : index (b :: r) [36, 123] = if index r [36, 123] == -1 then -1 else index r [36, 123] + 1 := by
    rw [index, if_neg (by unfold hasPrefix at h; rw [h]; simp)]
  have hg := index_ge r [36, 123]
  unfold cut
  rw [hi]
  by_cases hm : index r [36, 123] = -1
  · rw [hm]; simp
  · have h1 : (index r [36, 123] == -1) = false := by simpa using hm
    rw [h1]
    have h2 : (0 : Int) ≤ index r [36, 123] := by omega
    have h3 : (0 : Int) ≤ index r [36, 123] + 1 := by omega
    simp only [Bool.false_eq_true, if_false]
    rw [if_pos h3, if_pos h2]
    obtain ⟨k, hk⟩ := Int.eq_ofNat_of_zero_le h2
    rw [hk]
    simp only [List.length_cons, List.length_nil]
    have e1 : ((k : Int) + 1).toNat = k + 1 := by omega
    have e2 : ((k : Int)).toNat = k := by omega
    rw [e1, e2]
    simp
/-- The program's way: up to the next sign. -/
theorem expO_cut (lv : List UInt8) : ∀ l : List UInt8, expO lv l = if (cut l [36, 123]).2.2 = true then (bodO lv (cut l [36, 123]).2.1).map ((cut l [36, 123]).1 ++ ·) else some (cut l [36, 123]).1
  | [] => by
    have : cut [] [36, 123] = (([] : List UInt8), ([] : List UInt8), false) := by decide
    rw [this]; rfl
  | b :: r => by
    by_cases h : hasPrefix (b :: r) [36, 123] = true
    · obtain ⟨t, ht⟩ := pre_form _ h
      rw [ht, expO_sign, cut_pre]
      simp
    · have h' : hasPrefix (b :: r) [36, 123] = false := by simpa using h
      rw [expO_step lv b r h', cut_cons b r h', expO_cut lv r]
      by_cases hc : (cut r [36, 123]).2.2 = true
      · rw [if_pos hc]
        simp only []
        rw [if_pos hc, Option.map_map]
        rfl
      · rw [if_neg hc]
        simp only []
        rw [if_neg hc]
        rfl
theorem index_at (c : UInt8) : ∀ (l : List UInt8) (k : Nat), l[k]? = some c → (∀ j, j < k → l[j]? ≠ some c) → index l [c] = (k : Int)
  | [], k, h, _ => by simp at h
  | b :: t, 0, h, _ => by
    simp at h; subst h; exact index_cons_eq _ _
  | b :: t, k + 1, h, hn => by
    have hb : ¬ b = c := fun e => hn 0 (by omega) (by simp [e])
    have ih := index_at c t k (by simpa using h) (fun j hj => by have := hn (j + 1) (by omega); simpa using this)
    rw [index_cons_ne b c t hb, ih]
    have h1 : (((k : Int)) == -1) = false := by simp
    rw [h1]
    simp
theorem index_no (c : UInt8) : ∀ (l : List UInt8), (∀ j : Nat, l[j]? ≠ some c) → index l [c] = -1
  | [], _ => by simp [index]
  | b :: t, hn => by
    have hb : ¬ b = c := fun e => hn 0 (by simp [e])
    have ih := index_no c t (fun j => by have := hn (j + 1); simpa using this)
    rw [index_cons_ne b c t hb, ih]
    rfl
/-- The end of a placeholder, seen from its beginning. -/
theorem index_sign (r : List UInt8) : index (36 :: 123 :: r) [125] = if index r [125] = -1 then -1 else index r [125] + 2 := by
  have hg := index_ge r [125]
  rw [index_cons_ne 36 125 _ (by decide), index_cons_ne 123 125 _ (by decide)]
  by_cases h : index r [125] = -1
  · rw [h]; rfl
  · rw [if_neg h]
    have h1 : (index r [125] == -1) = false := by simpa using h
    rw [h1]
    have h2 : ((if false = true then (-1 : Int) else index r [125] + 1) == -1) = false := by simp; omega
    rw [h2]
    simp
    omega
end Go.Proofs.YtmcefflgbliehaaDoor
