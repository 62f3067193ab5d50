
/-
  Two file systems of the same nodes in another order: each path leads to the same node, or has the same error.
-/
import Derived.Test.YthkpcafbfgfjpaaDoorFsP
import Derived.Test.YthkpcafbfgfjpaaDoorFsR
set_option linter.unusedVariables false
namespace Go.Proofs.YthkpcafbfgfjpaaDoor
open Go.RowKit Go.PlainAid
def stripAt (l : List Nd) (k : Nat) : Option (ByteArray × Int × List UInt8 × ByteArray) := (l[k]?).map strip
theorem pathAt_strip (l : List Nd) (k : Nat) : pathAt l k = ((stripAt l k).map fun x => x.1.data.toList).getD [] := by unfold pathAt stripAt; rw [Option.map_map]; rfl
theorem kindAt_strip (l : List Nd) (k : Nat) : kindAt l k = ((stripAt l k).map fun x => x.2.1).getD 0 := by unfold kindAt stripAt; rw [Option.map_map]; rfl
theorem toAt_strip (l : List Nd) (k : Nat) : toAt l k = ((stripAt l k).map fun x => x.2.2.2.data.toList).getD [] := by unfold toAt stripAt; rw [Option.map_map]; rfl
theorem dataAt_strip (l : List Nd) (k : Nat) : dataAt l k = ((stripAt l k).map fun x => x.2.2.1).getD [] := by unfold dataAt stripAt; rw [Option.map_map]; rfl
section
variable {a b : List Nd}
theorem isIn_mem (ps : List (List UInt8)) (s : List UInt8) : isIn ps s = true ↔ s ∈ ps := by
  constructor
  · intro h
    obtain ⟨hl, e⟩ := isIn_get h
    rw [← e]; exact List.getElem_mem _
  · intro h
    cases e : isIn ps s with
    | true => rfl
    | false => exact absurd h (isIn_false e)
theorem perm_paths (h : (a.map strip).Perm (b.map strip)) : (pathsOf (rootN :: a)).Perm (pathsOf (rootN :: b)) := by
  have e : ∀ l : List Nd, pathsOf l = (l.map strip).map (fun x => x.1.data.toList) := fun l => by unfold pathsOf; rw [List.map_map]; rfl
  show ([47] :: pathsOf a).Perm ([47] :: pathsOf b)
  rw [e a, e b]
  exact (h.map _).cons _
theorem perm_in (h : (a.map strip).Perm (b.map strip)) (s : List UInt8) : isIn (pathsOf (rootN :: a)) s = isIn (pathsOf (rootN :: b)) s := by
  rw [Bool.eq_iff_iff, isIn_mem, isIn_mem]
  exact (perm_paths h).mem_iff
/-- The node of a path is the same in both. -/
theorem perm_num (h : (a.map strip).Perm (b.map strip)) (hb : (pathsOf (rootN :: b)).Nodup) (s : List UInt8) : stripAt (rootN :: a) (numOf (pathsOf (rootN :: a)) s) = stripAt (rootN :: b) (numOf (pathsOf (rootN :: b)) s) := by
  cases e : isIn (pathsOf (rootN :: a)) s with
  | false =>
    have e2 := e
    rw [perm_in h] at e2
    have z : ∀ ps : List (List UInt8), isIn ps s = false → numOf ps s = 0 := fun ps hp => by
      unfold isIn at hp
      rw [Option.isSome_eq_false_iff, Option.isNone_iff_eq_none] at hp
      unfold numOf
      rw [hp]; rfl
    rw [z _ e, z _ e2]
    rfl
  | true =>
    obtain ⟨hl, hp⟩ := isIn_get e
    rw [pathsOf_len] at hl
    have hP : ((rootN :: a).map strip).Perm ((rootN :: b).map strip) := by rw [List.map_cons, List.map_cons]; exact h.cons _
    have hm : strip (rootN :: a)[numOf (pathsOf (rootN :: a)) s] ∈ (rootN :: b).map strip := hP.mem_iff.1 (List.mem_map_of_mem (List.getElem_mem hl))
    obtain ⟨n, hn, e3⟩ := List.mem_map.1 hm
    obtain ⟨j, hj, e4⟩ := List.getElem_of_mem hn
    have hs : (pathsOf (rootN :: b))[j]'(by rw [pathsOf_len]; exact hj) = s := by
      have h1 : (pathsOf (rootN :: b))[j]'(by rw [pathsOf_len]; exact hj) = n.path.data.toList := by unfold pathsOf; rw [List.getElem_map, e4]
      have h2 : n.path = ((rootN :: a)[numOf (pathsOf (rootN :: a)) s]'hl).path := congrArg Prod.fst e3
      rw [h1, h2, ← pathAt_of hl, paths_get hl]
      exact hp
    have hnum : numOf (pathsOf (rootN :: b)) s = j := by rw [← hs]; exact (numOf_get hb (by rw [pathsOf_len]; exact hj)).2
    rw [hnum]
    unfold stripAt
    rw [List.getElem?_eq_getElem hl, List.getElem?_eq_getElem hj, e4]
    show some _ = some _
    rw [e3]
/-- Two ways that stand at the same node. -/
structure SameW (a b : List Nd) (s t : Way) : Prop where
  pos : stripAt (rootN :: a) s.pos = stripAt (rootN :: b) t.pos
  left : s.left = t.left
  links : s.links = t.links
theorem perm_follow (to : List UInt8) {s t : Way} (h : SameW a b s t) : (followW to s).1 = (followW to t).1 ∧ SameW a b (followW to s).2 (followW to t).2 := by
  unfold followW
  rw [h.links]
  by_cases e : t.links = 8
  · rw [if_pos e, if_pos e]; exact ⟨rfl, h⟩
  · rw [if_neg e, if_neg e]
    refine ⟨rfl, ?_, by rw [h.left], rfl⟩
    dsimp only
    split
    · rfl
    · exact h.pos
theorem perm_step (h : (a.map strip).Perm (b.map strip)) (hb : (pathsOf (rootN :: b)).Nodup) (n : List UInt8) {s t : Way} (hs : SameW a b s t) : (stepW (rootN :: a) n s).1 = (stepW (rootN :: b) n t).1 ∧ SameW a b (stepW (rootN :: a) n s).2 (stepW (rootN :: b) n t).2 := by
  have hk : kindAt (rootN :: a) s.pos = kindAt (rootN :: b) t.pos := by rw [kindAt_strip, kindAt_strip, hs.pos]
  have hp : pathAt (rootN :: a) s.pos = pathAt (rootN :: b) t.pos := by rw [pathAt_strip, pathAt_strip, hs.pos]
  have hn : ∀ q, kindAt (rootN :: a) (numOf (pathsOf (rootN :: a)) q) = kindAt (rootN :: b) (numOf (pathsOf (rootN :: b)) q) := fun q => by rw [kindAt_strip, kindAt_strip, perm_num h hb]
  have ht : ∀ q, toAt (rootN :: a) (numOf (pathsOf (rootN :: a)) q) = toAt (rootN :: b) (numOf (pathsOf (rootN :: b)) q) := fun q => by rw [toAt_strip, toAt_strip, perm_num h hb]
  unfold stepW
  rw [hk, hp, perm_in h, hn, ht]
  by_cases c1 : kindAt (rootN :: b) t.pos = 2
  · rw [if_pos c1, if_pos c1]; exact ⟨rfl, hs⟩
  · rw [if_neg c1, if_neg c1]
    by_cases c2 : n = [46, 46]
    · rw [if_pos c2, if_pos c2]; exact ⟨rfl, perm_num h hb _, hs.left, hs.links⟩
    · rw [if_neg c2, if_neg c2]
      by_cases c3 : isIn (pathsOf (rootN :: b)) (belowOf (pathAt (rootN :: b) t.pos) n) = false
      · rw [if_pos c3, if_pos c3]; exact ⟨rfl, hs⟩
      · rw [if_neg c3, if_neg c3]
        by_cases c4 : kindAt (rootN :: b) (numOf (pathsOf (rootN :: b)) (belowOf (pathAt (rootN :: b) t.pos) n)) = 3
        · rw [if_pos c4, if_pos c4]; exact perm_follow _ hs
        · rw [if_neg c4, if_neg c4]; exact ⟨rfl, perm_num h hb _, hs.left, hs.links⟩
theorem perm_run (h : (a.map strip).Perm (b.map strip)) (hb : (pathsOf (rootN :: b)).Nodup) : ∀ (f : Nat) (s t : Way), SameW a b s t → (runW (rootN :: a) f s).1 = (runW (rootN :: b) f t).1 ∧ ((runW (rootN :: a) f s).1 = 0 → stripAt (rootN :: a) (runW (rootN :: a) f s).2 = stripAt (rootN :: b) (runW (rootN :: b) f t).2)
  | 0, s, t, hs => ⟨rfl, fun e => by cases e⟩
  | f + 1, ⟨p, [], k⟩, ⟨q, m, j⟩, hs => by
    have e : m = [] := hs.left.symm
    subst e
    exact ⟨rfl, fun _ => hs.pos⟩
  | f + 1, ⟨p, n :: r, k⟩, ⟨q, m, j⟩, hs => by
    have e : m = n :: r := hs.left.symm
    subst e
    obtain ⟨h1, h2⟩ := perm_step h hb n (s := ⟨p, r, k⟩) (t := ⟨q, r, j⟩) ⟨hs.pos, rfl, hs.links⟩
    unfold runW
    by_cases c : (stepW (rootN :: a) n ⟨p, r, k⟩).1 = 0
    · rw [if_pos c, if_pos (by rw [← h1]; exact c)]
      exact perm_run h hb f _ _ h2
    · rw [if_neg c, if_neg (by rw [← h1]; exact c)]
      exact ⟨h1, fun e => absurd e c⟩
theorem perm_find (h : (a.map strip).Perm (b.map strip)) (hb : (pathsOf (rootN :: b)).Nodup) (p : List UInt8) : (findN (rootN :: a) p).1 = (findN (rootN :: b) p).1 ∧ ((findN (rootN :: a) p).1 = 0 → stripAt (rootN :: a) (findN (rootN :: a) p).2 = stripAt (rootN :: b) (findN (rootN :: b) p).2) := by
  unfold findN
  by_cases c : clE p ≠ 0
  · rw [if_pos c, if_pos c]; exact ⟨rfl, fun e => absurd e c⟩
  · rw [if_neg c, if_neg c]
    exact perm_run h hb _ _ _ ⟨rfl, rfl, rfl⟩
end
end Go.Proofs.YthkpcafbfgfjpaaDoor
