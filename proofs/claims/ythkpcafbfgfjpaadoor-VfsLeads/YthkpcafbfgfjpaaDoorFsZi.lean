
/-
  Layer 6's reference: Names, an insertion sort of what a folder has.
-/
import Derived.Test.YthkpcafbfgfjpaaDoorFsZh
import Derived.Sort.Walk0
import Derived.BigRegion
import Derived.BigQuiet
set_option linter.unusedVariables false
namespace Go.Proofs.YthkpcafbfgfjpaaDoor
open Go.RowKit Go.PlainAid
theorem sorted_is (l : List (List UInt8)) : (sorted l).Pairwise (fun x y => x ≤ y) := by
  have tr : ∀ x y z : List UInt8, decide (x ≤ y) = true → decide (y ≤ z) = true → decide (x ≤ z) = true := fun x y z h1 h2 => decide_eq_true (List.le_trans (of_decide_eq_true h1) (of_decide_eq_true h2))
  have tt : ∀ x y : List UInt8, (decide (x ≤ y) || decide (y ≤ x)) = true := fun x y => by
    rcases List.le_total x y with h | h
    · simp [h]
    · simp [h]
  exact (List.pairwise_mergeSort tr tt l).imp fun h => of_decide_eq_true h
theorem eq_sorted {a b : List (List UInt8)} (h : a.Perm b) (hs : a.Pairwise (fun x y => x ≤ y)) : a = sorted b := by
  have hp : a.Perm (sorted b) := h.trans (List.mergeSort_perm _ _).symm
  exact hp.eq_of_pairwise (le := fun x y => x ≤ y) (fun x y _ _ h1 h2 => List.le_antisymm h1 h2) hs (sorted_is b)
/-- One text is on its way to its place. -/
structure Ins (S : List (List UInt8)) (x : List UInt8) (A B : List (List UInt8)) : Prop where
  whole : S = A ++ B
  right : ∀ b ∈ B, x < b
theorem Ins.start (S : List (List UInt8)) (x : List UInt8) : Ins S x S [] := ⟨by simp, by simp⟩
theorem Ins.step {S A B : List (List UInt8)} {x y : List UInt8} (h : Ins S x (A ++ [y]) B) (hlt : x < y) : Ins S x A (y :: B) :=
  ⟨by rw [h.whole]; simp, fun b hb => by
    rcases List.mem_cons.1 hb with rfl | hb
    · exact hlt
    · exact h.right b hb⟩
theorem Ins.stop {S A B : List (List UInt8)} {x : List UInt8} {K : List (List UInt8)} (h : Ins S x A B) (hS : S = sorted K) (hA : A = [] ∨ ∃ A' y, A = A' ++ [y] ∧ ¬ x < y) : A ++ x :: B = sorted (K ++ [x]) := by
  refine eq_sorted ?_ ?_
  · have h1 : (A ++ x :: B).Perm (x :: (A ++ B)) := List.perm_middle
    have h2 : S.Perm K := by rw [hS]; exact List.mergeSort_perm _ _
    rw [← h.whole] at h1
    exact h1.trans ((h2.cons x).trans (List.perm_append_singleton x K).symm)
  · have hs := sorted_is K
    rw [← hS, h.whole] at hs
    obtain ⟨p1, p2, p3⟩ := List.pairwise_append.1 hs
    have hx : ∀ b ∈ B, x ≤ b := fun b hb => List.le_of_lt (h.right b hb)
    refine List.pairwise_append.2 ⟨p1, List.pairwise_cons.2 ⟨hx, p2⟩, fun a ha c hc => ?_⟩
    rcases List.mem_cons.1 hc with rfl | hc
    · rcases hA with rfl | ⟨A', y, rfl, hy⟩
      · simp at ha
      · have hyx : y ≤ c := List.not_lt.1 hy
        rcases List.mem_append.1 ha with ha | ha
        · exact List.le_trans ((List.pairwise_append.1 p1).2.2 a ha y (by simp)) hyx
        · rw [List.mem_singleton.1 ha]; exact hyx
    · exact p3 a ha c hc
/-- One of a row of texts is set. -/
theorem OwnS.set {w : World} {B g n cap : Nat} {l : List ByteArray} (h : OwnS w B (.slice (some ⟨g, 0, none⟩) n cap) l) (j : Nat) (z : ByteArray) : OwnS (w.setCell ⟨g, j, none⟩ (.string z)) B (.slice (some ⟨g, 0, none⟩) n cap) (l.set j z) := by
  unfold OwnS at h ⊢
  refine ⟨by simp, ?_⟩
  rcases h.2 with ⟨e, _⟩ | ⟨g', cap', cur, e, hB, hg, h1, h2, h3, h4⟩
  · cases e
  · injection e with e1 e2 e3
    injection e1 with e1
    injection e1 with e1
    subst e1 e2 e3
    refine .inr ⟨g, cap, cur.setIfInBounds j (.string z), by rw [List.length_set], hB, heap_setCell_same w g j cur _ _ hg, by rw [List.length_set]; exact h1, h2, by simpa using h3, ?_⟩
    rw [List.length_set, Array.toList_setIfInBounds, List.take_set, h4, List.map_set]
theorem OwnS.soft {w : World} {B g n cap : Nat} {l : List ByteArray} (h : OwnS w B (.slice (some ⟨g, 0, none⟩) n cap) l) (j : Nat) : w.frozen? ⟨g, j, none⟩ = false := by
  unfold OwnS at h
  rcases h.2 with ⟨e, _⟩ | ⟨g', cap', cur, e, hB, hg, _⟩
  · cases e
  · injection e with e1 e2 e3
    injection e1 with e1
    injection e1 with e1
    subst e1
    simp [World.frozen?, hg]
theorem OwnS.drewN {w : World} {B : Nat} {v : Value} {l : List ByteArray} (h : OwnS w B v l) (k : Nat) : OwnS (w.drewN k) B v l := h
theorem set_two (A B : List (List UInt8)) (x y : List UInt8) : (((A ++ y :: x :: B).map tx).set (A.length + 1) (tx y)).set A.length (tx x) = (A ++ x :: y :: B).map tx := by
  induction A with
  | nil => rfl
  | cons a A ih =>
    simp only [List.cons_append, List.map_cons, List.length_cons, List.set_cons_succ]
    rw [ih]
theorem below_set {B g : Nat} {w w' : World} (h : Below B w w') (hg : B ≤ g) (j : Nat) (u : Value) : Below B w (w'.setCell ⟨g, j, none⟩ u) :=
  ⟨h.os, h.tape, h.output, by simpa using h.size, fun k hk => by rw [Below.heap_setCell _ _ _ _ (by simp; omega)]; exact h.block k hk⟩
theorem kids_root (L : List Nd) (d : List UInt8) : kidsOf (rootN :: L) d = kidsOf L d := by
  unfold kidsOf
  rw [List.filter_cons, if_neg]
  show ¬ childOf [47] d = true
  simp [childOf]
theorem kid_good {L : List Nd} (h : newErr L = 0) : ∀ n ∈ L, n.path.data.toList ≠ [] ∧ n.path.data.toList ≠ [47] := fun n hn => by
  have hc := ((newErr_zero L).1 h).2.1 n hn
  unfold chkN chkE at hc
  split at hc
  · simp at hc
  · rename_i hno
    refine ⟨fun e => hno (.inl ?_), fun e => hno (.inr e)⟩
    rw [e]; decide
theorem child_is {p d : List UInt8} (h : p ≠ [] ∧ p ≠ [47]) : childOf p d = (upOf p == d) := by
  unfold childOf
  rw [show (p != []) = true by simpa using h.1, show (p != [47]) = true by simpa using h.2]
  simp
end Go.Proofs.YthkpcafbfgfjpaaDoor
