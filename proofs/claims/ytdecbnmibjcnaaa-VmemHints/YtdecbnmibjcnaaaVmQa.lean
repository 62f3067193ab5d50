
/-
  Two spaces that differ in where their rooms lie: the rooms by the order of their making.
-/
import Derived.Test.YtdecbnmibjcnaaaVmPh
set_option linter.unusedVariables false
namespace Go.Proofs.Ytdecbnmibjcnaaa
open Go.RowKit Go.PlainAid
theorem cut_at {α : Type} {l : List α} {b : Nat} {c : α} (h : l[b]? = some c) : ∃ hb : b < l.length, l = l.take b ++ c :: l.drop (b + 1) := by
  obtain ⟨hb, e⟩ := List.getElem?_eq_some_iff.1 h
  refine ⟨hb, ?_⟩
  have := List.take_append_drop b l
  rw [List.drop_eq_getElem_cons hb, e] at this
  exact this.symm
theorem perm_mid {α : Type} (a b : List α) (c : α) : (a ++ c :: b).Perm (c :: (a ++ b)) := List.perm_middle
theorem perm_set {α : Type} {l m : List α} (h : l.Perm m) {b j : Nat} {c : α} (hl : l[b]? = some c) (hm : m[j]? = some c) (c' : α) : (l.set b c').Perm (m.set j c') := by
  obtain ⟨hb, e1⟩ := cut_at hl
  obtain ⟨hj, e2⟩ := cut_at hm
  have f1 : l.set b c' = l.take b ++ c' :: l.drop (b + 1) := List.set_eq_take_append_cons_drop.trans (if_pos hb)
  have f2 : m.set j c' = m.take j ++ c' :: m.drop (j + 1) := List.set_eq_take_append_cons_drop.trans (if_pos hj)
  rw [f1, f2]
  rw [e1, e2] at h
  have h1 := ((perm_mid _ _ c).symm.trans h).trans (perm_mid _ _ c)
  exact ((perm_mid _ _ c').trans ((List.Perm.cons_inv h1).cons c')).trans (perm_mid _ _ c').symm
/-- The rooms of a space, by where they begin and their pages, in the order of their making. -/
structure Made (sp : Sp) (xs : List Nat) (ps : List (List Sh)) : Prop where
  len : xs.length = ps.length
  perm : (sp.rooms.map fun r => (r.pos, r.pages)).Perm (xs.zip ps)
theorem used_sum (l : List Rm) : used l = ((l.map fun r => (r.pos, r.pages)).map fun x => x.2.length).sum := by
  induction l with
  | nil => rfl
  | cons r l ih => simp [used, ih]
theorem zip_snd {xs : List Nat} {ps : List (List Sh)} (h : xs.length = ps.length) : (xs.zip ps).map (fun x => x.2.length) = ps.map List.length := by
  induction xs generalizing ps with
  | nil => cases ps with
    | nil => rfl
    | cons p ps => simp at h
  | cons x xs ih => cases ps with
    | nil => simp at h
    | cons p ps => simp only [List.zip_cons_cons, List.map_cons, ih (by simpa using h)]
theorem Made.used {sp : Sp} {xs : List Nat} {ps : List (List Sh)} (h : Made sp xs ps) : used sp.rooms = (ps.map List.length).sum := by
  rw [used_sum, (h.perm.map (fun x => x.2.length)).sum_nat, zip_snd h.len]
/-- The room that was made as the j-th. -/
theorem Made.room {sp : Sp} {xs : List Nat} {ps : List (List Sh)} (h : Made sp xs ps) (j : Nat) (h1 : j < xs.length) (h2 : j < ps.length) : ∃ (b : Nat) (r : Rm), sp.rooms[b]? = some r ∧ r.pos = xs[j] ∧ r.pages = ps[j] := by
  have hm : (xs[j], ps[j]) ∈ xs.zip ps := by
    have hz : j < (xs.zip ps).length := by rw [List.length_zip]; omega
    have := List.getElem_mem hz
    rwa [List.getElem_zip] at this
  have hm2 := h.perm.mem_iff.2 hm
  obtain ⟨r, hr, e⟩ := List.mem_map.1 hm2
  obtain ⟨b, hb, eb⟩ := List.getElem_of_mem hr
  injection e with e1 e2
  exact ⟨b, r, by rw [List.getElem?_eq_getElem hb, eb], e1, e2⟩
/-- A room's pages are turned. -/
theorem Made.put {sp : Sp} {xs : List Nat} {ps : List (List Sh)} (h : Made sp xs ps) {b j : Nat} {r : Rm} (hb : sp.rooms[b]? = some r) (h1 : j < xs.length) (h2 : j < ps.length) (e1 : r.pos = xs[j]) (e2 : r.pages = ps[j]) (q : List Sh) : Made (sp.put b r q) xs (ps.set j q) := by
  refine ⟨by rw [List.length_set]; exact h.len, ?_⟩
  have hz : (xs.zip ps)[j]? = some (r.pos, r.pages) := by
    have hz : j < (xs.zip ps).length := by rw [List.length_zip]; omega
    rw [List.getElem?_eq_getElem hz, List.getElem_zip, e1, e2]
  have hl : (sp.rooms.map fun r => (r.pos, r.pages))[b]? = some (r.pos, r.pages) := by rw [List.getElem?_map, hb]; rfl
  have key := perm_set h.perm hl hz (r.pos, q)
  have f1 : (sp.put b r q).rooms.map (fun r => (r.pos, r.pages)) = (sp.rooms.map fun r => (r.pos, r.pages)).set b (r.pos, q) := by
    unfold Sp.put
    rw [List.map_set]
  have f2 : xs.zip (ps.set j q) = (xs.zip ps).set j (r.pos, q) := by
    apply List.ext_getElem?
    intro i
    rw [List.getElem?_set]
    by_cases hij : j = i
    · subst hij
      have hz2 : j < (xs.zip (ps.set j q)).length := by rw [List.length_zip, List.length_set]; omega
      have hz3 : j < (xs.zip ps).length := by rw [List.length_zip]; omega
      rw [List.getElem?_eq_getElem hz2, List.getElem_zip, if_pos rfl, if_pos hz3, List.getElem_set_self, e1]
    · rw [if_neg hij]
      simp only [List.zip, List.getElem?_zipWith, List.getElem?_set, if_neg hij]
  rw [f1, f2]
  exact key
end Go.Proofs.Ytdecbnmibjcnaaa
