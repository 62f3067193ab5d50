
/-
  VfsOrder's plain part: where the nodes are turned about, and that all which the two file systems answer is the same.
-/
import Derived.Test.YthkpcafbfgfjpaaDoorFsQd
import Derived.Test.YthkpcafbfgfjpaaDoorFsS
set_option linter.unusedVariables false
namespace Go.Proofs.YthkpcafbfgfjpaaDoor
namespace LVfsOrder
open Go.RowKit
theorem turned (x : Int) (n : Nat) (h0 : 0 < n) (h1 : n ≤ 400) : ∃ k : Nat, k < n ∧ (wrap64 (x.tmod n + n)).tmod n = (k : Int) := by
  have a := Int.tmod_lt_of_pos x (b := (n : Int)) (by omega)
  have b : -(n : Int) < x.tmod n := by
    have := Int.lt_tmod_of_pos x (b := (n : Int)) (by omega)
    exact this
  have e : wrap64 (x.tmod n + n) = x.tmod n + n := by unfold wrap64; omega
  rw [e]
  have c : 0 ≤ x.tmod n + n := by omega
  have d := Int.tmod_nonneg (n : Int) c
  have f := Int.tmod_lt_of_pos (x.tmod n + n) (b := (n : Int)) (by omega)
  exact ⟨((x.tmod n + n).tmod n).toNat, by omega, by omega⟩
def openP (l : List Nd) (p : List UInt8) : ByteArray := if (openN l p).1 = 0 then tx (pathAt l (openN l p).2) else ⟨#[]⟩
def openD (l : List Nd) (p : List UInt8) : List UInt8 := if (openN l p).1 = 0 then dataAt l (openN l p).2 else []
theorem open_any {w w' : World} {l : List Nd} {p : List UInt8} {e : Ending} (h : OpenE w w' l p e) : ∃ (nv : Int) (va : Value), e = .returned (.tuple #[.int .i64 nv, .string (openP l p), va, .int .i64 (openN l p).1]) ∧ Src w' (fun _ => False) va (openD l p) := by
  unfold openD openP
  rcases h with ⟨h1, rfl⟩ | ⟨h1, _, vb, rfl, h2⟩
  · rw [if_neg h1, if_neg h1]
    exact ⟨_, _, rfl, ⟨none, 0, rfl, by simp, by simp [maxLen], .inl ⟨rfl, rfl, rfl⟩⟩⟩
  · rw [if_pos h1, if_pos h1]
    exact ⟨_, vb, by rw [h1], h2.sub (fun _ e => e.elim)⟩
def resP (l : List Nd) (p : List UInt8) : ByteArray := if (findN l p).1 = 0 then tx (pathAt l (findN l p).2) else ⟨#[]⟩
theorem res_any (l : List Nd) (p : List UInt8) : ∃ nv : Int, resV l p = .tuple #[.int .i64 nv, .string (resP l p), .int .i64 (findN l p).1] := by
  unfold resV resP
  by_cases e : (findN l p).1 = 0
  · rw [if_pos e, if_pos e, e]; exact ⟨_, rfl⟩
  · rw [if_neg e, if_neg e]; exact ⟨_, rfl⟩
def namesL (l : List Nd) (p : List UInt8) : List (List UInt8) := if namesE l p = 0 then sorted (kidsOf l (pathAt l (findN l p).2)) else []
theorem names_any {w w' : World} {l : List Nd} {p : List UInt8} {e : Ending} (h : NamesE w w' l p e) : ∃ va : Value, e = .returned (.tuple #[va, .int .i64 (namesE l p)]) ∧ OwnS w' w.heap.size va ((namesL l p).map tx) := by
  unfold namesL
  rcases h with ⟨h1, rfl⟩ | ⟨h1, _, vb, rfl, h2⟩
  · rw [if_neg h1]; exact ⟨_, rfl, OwnS.nil _ _⟩
  · rw [if_pos h1]; exact ⟨vb, by rw [h1], h2⟩
theorem names_len (l : List Nd) (p : List UInt8) : (namesL l p).length ≤ l.length := by
  unfold namesL
  split
  · have := kids_len l l.length (pathAt l (findN l p).2)
    rw [List.take_length] at this
    unfold sorted
    rw [List.length_mergeSort]; exact this
  · simp
/-- All that the two file systems answer is the same. -/
theorem all_same {a b : List Nd} (h : (a.map strip).Perm (b.map strip)) (hb : (pathsOf (rootN :: b)).Nodup) (p : List UInt8) :
    ((findN (rootN :: a) p).1 = (findN (rootN :: b) p).1 ∧ resP (rootN :: a) p = resP (rootN :: b) p) ∧ ((openN (rootN :: a) p).1 = (openN (rootN :: b) p).1 ∧ openP (rootN :: a) p = openP (rootN :: b) p ∧ openD (rootN :: a) p = openD (rootN :: b) p) ∧ namesE (rootN :: a) p = namesE (rootN :: b) p ∧ namesL (rootN :: a) p = namesL (rootN :: b) p := by
  obtain ⟨f1, f2⟩ := perm_find h hb p
  obtain ⟨o1, o2⟩ := open_perm h hb p
  obtain ⟨n1, n2⟩ := names_perm h hb p
  refine ⟨⟨f1, ?_⟩, ⟨o1, ?_, ?_⟩, n1, ?_⟩
  · unfold resP
    rw [← f1]
    by_cases e : (findN (rootN :: a) p).1 = 0
    · simp only [if_pos e]
      rw [pathAt_strip, pathAt_strip, f2 e]
    · simp only [if_neg e]
  · unfold openP
    rw [← o1]
    by_cases e : (openN (rootN :: a) p).1 = 0
    · simp only [if_pos e]; rw [(o2 e).1]
    · simp only [if_neg e]
  · unfold openD
    rw [← o1]
    by_cases e : (openN (rootN :: a) p).1 = 0
    · simp only [if_pos e]; rw [(o2 e).2]
    · simp only [if_neg e]
  · unfold namesL
    rw [← n1]
    by_cases e : namesE (rootN :: a) p = 0
    · simp only [if_pos e]; rw [n2 e]
    · simp only [if_neg e]
end LVfsOrder
end Go.Proofs.YthkpcafbfgfjpaaDoor
