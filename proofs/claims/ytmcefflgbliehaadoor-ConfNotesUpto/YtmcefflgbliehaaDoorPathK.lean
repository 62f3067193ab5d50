
/-
  What is cleaned is clean; it is the folder above, and its last name: over lists of bytes.
-/
import Derived.Test.YtmcefflgbliehaaDoorPathH
set_option linter.unusedVariables false
namespace Go.Proofs.YtmcefflgbliehaaDoor
theorem getD_in (a n : List UInt8) (i : Nat) (h1 : a.length < i) (h2 : i < (a ++ 47 :: n).length) : (a ++ 47 :: n).getD i 0 ∈ n := by
  rw [List.getD, List.getElem?_append_right (by omega), show i - a.length = (i - a.length - 1) + 1 by omega, List.getElem?_cons_succ]
  have : i - a.length - 1 < n.length := by simp at h2; omega
  rw [List.getElem?_eq_getElem this]
  simp
theorem lastS_at (a n : List UInt8) (h : (47 : UInt8) ∉ n) : lastS (a ++ 47 :: n) = a.length := by
  have h0 : Lib.occAt (a ++ 47 :: n) [47] a.length = true := by
    unfold Lib.occAt; rw [List.drop_left]; simp [List.isPrefixOf]
  unfold lastS
  rcases Lib.lastOcc_spec (a ++ 47 :: n) [47] (a ++ 47 :: n).length with ⟨_, hn⟩ | ⟨i, hi, e, ho, hn⟩
  · rw [hn a.length (by simp)] at h0; cases h0
  · rw [e]
    rcases Nat.lt_trichotomy i a.length with hl | hl | hl
    · rw [hn a.length hl (by simp)] at h0; cases h0
    · rw [hl]
    · rw [occ47 _ i hi] at ho
      have := getD_in a n i hl hi
      rw [beq_iff_eq.1 ho] at this
      exact absurd this h
/-- A stack of a clean path. -/
def Neat (st : List (List UInt8)) : Prop := (∀ x ∈ st, (47 : UInt8) ∉ x ∧ ok x = true ∧ ¬ x = [46, 46] ∧ x.all pb = true) ∧ (whole st).length ≤ 256
theorem slashed_all (st : List (List UInt8)) (h : ∀ x ∈ st, x.all pb = true) : (slashed st).all pb = true := by
  rw [List.all_eq_true]
  intro b hb
  rcases slashed_of st b hb with rfl | ⟨n, hn, hbn⟩
  · decide
  · exact List.all_eq_true.1 (h n hn) b hbn
theorem whole_all (st : List (List UInt8)) (h : ∀ x ∈ st, x.all pb = true) : (whole st).all pb = true := by
  rw [whole_eq]
  split
  · decide
  · exact slashed_all st h
theorem neat_can {st : List (List UInt8)} (h : Neat st) : can (whole st) = true := by
  unfold can good
  rw [whole_all st (fun x hx => (h.1 x hx).2.2.2), whole_head]
  simp [h.2]
theorem neat_cl {st : List (List UInt8)} (h : Neat st) : cl (whole st) = whole st := by
  unfold cl
  rw [names_whole st (fun x hx => ⟨(h.1 x hx).1, (h.1 x hx).2.1⟩), stk_same st (fun x hx => (h.1 x hx).2.2.1)]
theorem neat_isCl {st : List (List UInt8)} (h : Neat st) : isCl (whole st) = true := by
  unfold isCl; rw [neat_can h, neat_cl h]; simp
theorem neat_of {l : List UInt8} (h : can l = true) : Neat (stk (names l)) := by
  refine ⟨?_, ?_⟩
  · intro x hx
    have h1 := stk_sub _ x hx
    have h2 := names_ok l x h1.1
    refine ⟨h2.1, h2.2, h1.2, ?_⟩
    rw [List.all_eq_true]
    intro b hb
    have h3 : x ∈ sp 47 l := by have := h1.1; unfold names at this; exact (List.mem_filter.1 this).1
    have h4 := sp_of 47 l x h3 b hb
    unfold can good at h
    simp only [Bool.and_eq_true, List.all_eq_true] at h
    exact h.1.1 b h4
  · have h1 := cl_le h
    unfold can good at h
    simp only [Bool.and_eq_true, decide_eq_true_eq] at h
    unfold cl at h1
    omega
theorem whole_snoc (st : List (List UInt8)) (n : List UInt8) : whole (st ++ [n]) = slashed st ++ 47 :: n := by
  have h : slashed (st ++ [n]) = slashed st ++ 47 :: n := by rw [slashed_append]; simp [slashed]
  rw [whole_eq, h, if_neg (by simp)]
theorem whole_slashed (st : List (List UInt8)) (h : st ≠ []) : whole st = slashed st := by
  cases st with
  | nil => exact absurd rfl h
  | cons n r => exact whole_cons n r
theorem neat_init {st : List (List UInt8)} {n : List UInt8} (h : Neat (st ++ [n])) : Neat st := by
  refine ⟨fun x hx => h.1 x (List.mem_append_left _ hx), ?_⟩
  have h1 := h.2
  rw [whole_snoc] at h1
  by_cases hs : st = []
  · subst hs; decide
  · rw [whole_slashed st hs]
    simp at h1; omega
theorem neat_last {st : List (List UInt8)} {n : List UInt8} (h : Neat (st ++ [n])) : (47 : UInt8) ∉ n ∧ n ≠ [] := by
  have := h.1 n (by simp)
  refine ⟨this.1, ?_⟩
  rintro rfl
  simp [ok] at this
theorem lastS_snoc {st : List (List UInt8)} {n : List UInt8} (h : Neat (st ++ [n])) : lastS (whole (st ++ [n])) = (slashed st).length := by
  rw [whole_snoc, lastS_at _ _ (neat_last h).1]
theorem base_snoc {st : List (List UInt8)} {n : List UInt8} (h : Neat (st ++ [n])) : baseOf (whole (st ++ [n])) = n := by
  unfold baseOf
  rw [lastS_snoc h, whole_snoc, show ((slashed st).length : Int) + 1 = (((slashed st).length + 1 : Nat) : Int) by omega, Int.toNat_natCast, ← List.drop_drop, List.drop_left]
  rfl
theorem up_snoc {st : List (List UInt8)} {n : List UInt8} (h : Neat (st ++ [n])) : upOf (whole (st ++ [n])) = whole st := by
  unfold upOf
  rw [lastS_snoc h]
  by_cases hs : st = []
  · subst hs; rfl
  · have hp : 0 < (slashed st).length := by
      cases st with
      | nil => exact absurd rfl hs
      | cons m r => simp [slashed]
    rw [if_neg (by omega), whole_snoc, Int.toNat_natCast, List.take_left, whole_slashed st hs]
theorem whole_ne (st : List (List UInt8)) : whole st ≠ [] := by unfold whole; simp
theorem whole_root {st : List (List UInt8)} (h : Neat st) : whole st = [47] ↔ st = [] := by
  constructor
  · intro e
    by_cases hs : st = []
    · exact hs
    · rw [whole_slashed st hs] at e
      have h1 := tot_slashed st
      rw [e] at h1
      cases st with
      | nil => exact absurd rfl hs
      | cons m r =>
        simp [tot] at h1
        have hm : m = [] := List.length_eq_zero_iff.1 (by omega)
        have := (h.1 m (by simp)).2.1
        rw [hm] at this
        simp [ok] at this
  · rintro rfl; rfl
/-- up, a / (not twice), base -/
theorem snoc_glue {st : List (List UInt8)} {n : List UInt8} (h : Neat (st ++ [n])) : (if whole st = [47] then 47 :: n else whole st ++ 47 :: n) = whole (st ++ [n]) := by
  rw [whole_snoc]
  by_cases hs : st = []
  · subst hs; rfl
  · rw [if_neg (by rw [whole_root (neat_init h)]; exact hs), whole_slashed st hs]
theorem child_snoc {st : List (List UInt8)} {n : List UInt8} (h : Neat (st ++ [n])) : childOf (whole (st ++ [n])) (whole st) = true := by
  unfold childOf
  rw [up_snoc h]
  have h1 := whole_ne (st ++ [n])
  have h2 : whole (st ++ [n]) ≠ [47] := by rw [Ne, whole_root h]; simp
  simp [h1, h2]
theorem under_snoc {st : List (List UInt8)} {n : List UInt8} (h : Neat (st ++ [n])) : underOf (whole (st ++ [n])) (whole st) = true := by
  unfold underOf
  split
  · exact whole_head _
  · rename_i hr
    have hs : st ≠ [] := by rw [whole_root (neat_init h)] at hr; exact hr
    rw [whole_snoc, whole_slashed st hs]
    have : Lib.hasPrefix (slashed st ++ 47 :: n) (slashed st ++ [47]) = true := by
      unfold Lib.hasPrefix
      rw [List.isPrefixOf_iff_prefix, List.prefix_append_right_inj]
      exact ⟨n, rfl⟩
    rw [this]; simp
theorem not_under_long (p d : List UInt8) (h : p.length < d.length) (hd : d ≠ [47]) : underOf p d = false := by
  unfold underOf
  rw [if_neg hd]
  have h1 : p ≠ d := by rintro rfl; omega
  have h2 : Lib.hasPrefix p (d ++ [47]) = false := by
    rw [Bool.eq_false_iff]
    intro hh
    unfold Lib.hasPrefix at hh
    have := (List.isPrefixOf_iff_prefix.1 hh).length_le
    simp at this; omega
  simp [h1, h2]
theorem not_under_snoc {st : List (List UInt8)} {n : List UInt8} (h : Neat (st ++ [n])) : underOf (whole st) (whole (st ++ [n])) = false := by
  refine not_under_long _ _ ?_ (by rw [Ne, whole_root h]; simp)
  rw [whole_snoc]
  have hn : 0 < n.length := List.length_pos_iff.2 (neat_last h).2
  by_cases hs : st = []
  · subst hs
    show (1 : Nat) < (slashed [] ++ 47 :: n).length
    simp [slashed]; omega
  · rw [whole_slashed st hs]; simp
end Go.Proofs.YtmcefflgbliehaaDoor
