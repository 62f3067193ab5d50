
/-
  Layer 18 (conf): a line more behind a configuration, as plain data.
-/
import Derived.Test.YtmcefflgbliehaaDoorCfL
import Derived.Test.YtmcefflgbliehaaDoorCfU
set_option linter.unusedVariables false
namespace Go.Proofs.YtmcefflgbliehaaDoor
theorem goC_app : ∀ (xs ys : List (List UInt8)) (F G : Cf) (k : Int), goC F xs k = (G, 0, 0) → goC F (xs ++ ys) k = goC G ys (k + xs.length)
  | [], ys, F, G, k, h => by
    rw [goC] at h
    injection h with h
    subst h
    simp
  | x :: xs, ys, F, G, k, h => by
    rw [goC] at h
    by_cases he : (takeC F x k).2 = 0
    · rw [if_pos he] at h
      rw [List.cons_append, goC, if_pos he, goC_app xs ys _ G (k + 1) h]
      congr 1
      simp
      omega
    · rw [if_neg he] at h
      injection h with _ h
      injection h with _ h
      exact absurd h he
theorem sp_one (c : UInt8) (l : List UInt8) (h : c ∉ l) : sp c l = [l] := by
  apply sp_miss
  apply index_no
  intro j hj
  exact h (List.mem_of_getElem? hj)
/-- The names of a row of properties are told once. -/
def Nd (l : List Pr) : Prop := (l.map Pr.name).Nodup
theorem nd_find {l : List Pr} (h : Nd l) {p : Pr} (hp : p ∈ l) : l.find? (isP p.name) = some p := by
  induction l with
  | nil => cases hp
  | cons q l ih =>
    unfold Nd at h
    rw [List.map_cons, List.nodup_cons] at h
    by_cases hq : q.name = p.name
    · rw [List.find?_cons_of_pos (by unfold isP; simpa using hq)]
      rcases List.mem_cons.1 hp with rfl | hp
      · rfl
      · exact absurd (hq ▸ List.mem_map_of_mem hp) h.1
    · rw [List.find?_cons_of_neg (by unfold isP; simpa using hq)]
      rcases List.mem_cons.1 hp with rfl | hp
      · exact absurd rfl hq
      · exact ih h.2 hp
theorem tell_set {l : List Pr} {t : Td} {n : Int} : (l.find? (isP t.name) = none ∧ tellC l t n = l ++ [⟨t.name, t.value, n⟩]) ∨
    ∃ (k : Nat) (hk : k < l.length), l.find? (isP t.name) = some l[k] ∧ l[k].name = t.name ∧ (∀ j (hj : j < k), isP t.name (l[j]'(by omega)) = false) ∧ tellC l t n = l.set k ⟨t.name, newV l[k].value t, n⟩ := by
  rcases fstI_is (isP t.name) l 0 with ⟨_, h2, _⟩ | ⟨k, hk, h1, h2, _, h4, h5⟩
  · left
    exact ⟨h2, tellC_no h2⟩
  · right
    have hn : l[k].name = t.name := by unfold isP at h4; simpa using h4
    refine ⟨k, hk, h2, hn, h5, ?_⟩
    have := tellC_yes (t := t) (n := n) hk h2 (by rw [h1, Nat.zero_add])
    rw [this]
    congr 1
    congr 1
theorem names_set (l : List Pr) (k : Nat) (hk : k < l.length) (p : Pr) (h : p.name = l[k].name) : (l.set k p).map Pr.name = l.map Pr.name := by
  rw [List.map_set, h]
  have : (l.map Pr.name).set k (l[k]).name = l.map Pr.name := by
    apply List.ext_getElem?
    intro j
    rw [List.getElem?_set]
    split
    · rename_i e
      subst e
      simp [hk]
    · rfl
  exact this
theorem tell_nd {l : List Pr} (h : Nd l) (t : Td) (n : Int) : Nd (tellC l t n) := by
  rcases tell_set (l := l) (t := t) (n := n) with ⟨h1, h2⟩ | ⟨k, hk, _, hn, _, h2⟩
  · rw [h2]
    unfold Nd at h ⊢
    rw [List.map_append, List.nodup_append]
    refine ⟨h, by simp, fun a ha b hb e => ?_⟩
    simp at hb
    subst hb
    subst e
    obtain ⟨q, hq, hqn⟩ := List.mem_map.1 ha
    have := List.find?_eq_none.1 h1 q hq
    unfold isP at this
    simp at this
    exact this hqn
  · rw [h2]
    unfold Nd at h ⊢
    rw [names_set l k hk _ hn.symm]
    exact h
/-- What the newly told property is, and that the others stay. -/
theorem tell_get (l : List Pr) (t : Td) (n : Int) : getB (tellC l t n) t.name = true ∧ getV (tellC l t n) t.name = (if t.added = true ∧ getB l t.name = true ∧ getV l t.name ≠ [] then getV l t.name ++ betwC t.name ++ t.value else t.value) := by
  have hself : isP t.name ⟨t.name, t.value, n⟩ = true := by unfold isP; simp
  rcases tell_set (l := l) (t := t) (n := n) with ⟨h1, h2⟩ | ⟨k, hk, h1, hn, h5, h2⟩
  · have hf : (tellC l t n).find? (isP t.name) = some ⟨t.name, t.value, n⟩ := by
      rw [h2, List.find?_append, h1]
      simp [isP]
    unfold getB getV
    rw [hf, h1]
    simp
  · have hf : (tellC l t n).find? (isP t.name) = some ⟨t.name, newV l[k].value t, n⟩ := by
      rw [h2, List.find?_eq_some_iff_getElem]
      refine ⟨by unfold isP; simp, k, by simpa using hk, by simp, fun j hj => ?_⟩
      have := h5 j hj
      rw [List.getElem_set_ne (by omega)]
      simpa using this
    unfold getB getV
    rw [hf, h1]
    refine ⟨rfl, ?_⟩
    simp only [Option.map_some, Option.getD_some, Option.isSome_some, true_and]
    rfl
theorem tell_other (l : List Pr) (t : Td) (n : Int) (m : List UInt8) (hm : m ≠ t.name) : (tellC l t n).find? (isP m) = l.find? (isP m) := by
  have hne : ∀ (v : List UInt8), isP m ⟨t.name, v, n⟩ = false := fun v => by unfold isP; simpa using fun e => hm e.symm
  rcases tell_set (l := l) (t := t) (n := n) with ⟨_, h2⟩ | ⟨k, hk, h1, hn, h5, h2⟩
  · rw [h2, List.find?_append, List.find?_cons_of_neg (by rw [hne]; simp)]
    simp
  · rw [h2]
    clear h2 h1 h5
    have hq : isP m l[k] = false := by unfold isP; rw [hn]; simpa using fun e => hm e.symm
    generalize newV l[k].value t = v
    induction l generalizing k with
    | nil => simp at hk
    | cons q l ih =>
      cases k with
      | zero =>
        have hq' : isP m q = false := by simpa using hq
        rw [List.set_cons_zero, List.find?_cons_of_neg (by rw [hne]; simp), List.find?_cons_of_neg (by rw [hq']; simp)]
      | succ k =>
        rw [List.set_cons_succ]
        by_cases hp : isP m q = true
        · rw [List.find?_cons_of_pos hp, List.find?_cons_of_pos hp]
        · rw [List.find?_cons_of_neg hp, List.find?_cons_of_neg hp]
          exact ih k (by simpa using hk) (by simpa using hn) (by simpa using hq)
/-- Each part's names are told once. -/
def NdF (F : Cf) : Prop := ∀ s ∈ F.secs, Nd s.props
theorem tellS_nd {ss : List Sc} (h : ∀ s ∈ ss, Nd s.props) (t : Td) (n : Int) : ∀ s ∈ tellS ss t n, Nd s.props := by
  unfold tellS
  cases hl : ss.getLast? with
  | none => exact h
  | some x =>
    simp only []
    intro s hs
    rcases List.mem_append.1 hs with hs | hs
    · exact h s (List.dropLast_subset _ hs)
    · rw [List.mem_singleton] at hs
      subst hs
      exact tell_nd (h x (List.mem_of_getLast? hl)) t n
theorem take_nd {F : Cf} (h : NdF F) (l : List UInt8) (n : Int) : NdF (takeC F l n).1 := by
  unfold takeC
  split
  · exact h
  · split
    · exact h
    · split
      · split
        · intro s hs
          rcases List.mem_append.1 hs with hs | hs
          · exact h s hs
          · rw [List.mem_singleton] at hs; subst hs; unfold Nd; simp
        · exact h
      · split
        · exact h
        · split
          · split
            · exact h
            · exact h
          · exact tellS_nd h _ _
theorem go_nd : ∀ (xs : List (List UInt8)) (F : Cf) (k : Int), NdF F → NdF (goC F xs k).1
  | [], F, k, h => h
  | x :: xs, F, k, h => by
    rw [goC]
    split
    · exact go_nd xs _ _ (take_nd h x k)
    · intro s hs; cases hs
theorem parse_nd (l : List UInt8) : NdF (parseC l).1 := by
  unfold parseC
  split
  · intro s hs; cases hs
  · exact go_nd _ _ _ (fun s hs => by cases hs)
end Go.Proofs.YtmcefflgbliehaaDoor
