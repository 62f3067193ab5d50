
/-
  Layer 18 (conf): properties and parts in memory.
-/
import Derived.Test.YtmcefflgbliehaaDoorCfG
import Derived.Test.YtmcefflgbliehaaDoorCfM
set_option linter.unusedVariables false
namespace Go.Proofs.YtmcefflgbliehaaDoor
open Go.RowKit Go.PlainAid Go.Sort
def Pr.cells (p : Pr) : List Value := [.string (tx p.name), .string (tx p.value), .int .i64 p.line]
def noPr : Pr := ⟨[], [], 0⟩
theorem Pr.one (e : Pr) : ∀ u ∈ e.cells, u.oneCell' = true := by
  intro u hu
  simp only [Pr.cells, List.mem_cons, List.not_mem_nil, or_false] at hu
  rcases hu with rfl | rfl | rfl <;> rfl
def flatP (l : List Pr) : List Value := l.flatMap Pr.cells
theorem flatP_app (l m : List Pr) : flatP (l ++ m) = flatP l ++ flatP m := by simp [flatP]
theorem flatP_len (l : List Pr) : (flatP l).length = l.length * 3 := by
  induction l with
  | nil => rfl
  | cons n l ih => show (n.cells ++ flatP l).length = _; rw [List.length_append, ih]; simp [Pr.cells]; omega
theorem flatP_get (l : List Pr) : ∀ (j : Nat) (hj : j < l.length) (k : Nat) (hk : k < 3), (flatP l)[j * 3 + k]? = l[j].cells[k]? := by
  induction l with
  | nil => intro j hj; simp at hj
  | cons e l ih =>
    intro j hj k hk
    have e1 : flatP (e :: l) = e.cells ++ flatP l := rfl
    have e2 : e.cells.length = 3 := rfl
    cases j with
    | zero => rw [e1, Nat.zero_mul, Nat.zero_add, List.getElem?_append_left (by omega)]; rfl
    | succ j =>
      rw [e1, List.getElem?_append_right (by omega), e2, show (j + 1) * 3 + k - 3 = j * 3 + k by omega]
      exact ih j (by simpa using hj) k hk
theorem flatP_set (l : List Pr) : ∀ (j : Nat) (hj : j < l.length) (p : Pr), p.name = l[j].name → flatP (l.set j p) = ((flatP l).set (j * 3 + 1) (.string (tx p.value))).set (j * 3 + 2) (.int .i64 p.line) := by
  induction l with
  | nil => intro j hj; simp at hj
  | cons e l ih =>
    intro j hj p hp
    have e1 : flatP (e :: l) = .string (tx e.name) :: .string (tx e.value) :: .int .i64 e.line :: flatP l := rfl
    cases j with
    | zero =>
      have hp' : p.name = e.name := by simpa using hp
      rw [e1, List.set_cons_zero]
      show .string (tx p.name) :: .string (tx p.value) :: .int .i64 p.line :: flatP l = _
      rw [hp']; rfl
    | succ j =>
      have hp' : p.name = (l[j]'(by simpa using hj)).name := by simpa using hp
      rw [e1, List.set_cons_succ]
      show .string (tx e.name) :: .string (tx e.value) :: .int .i64 e.line :: flatP (l.set j p) = _
      rw [ih j (by simpa using hj) p hp', show (j + 1) * 3 + 1 = (j * 3 + 1) + 1 + 1 + 1 by omega, show (j + 1) * 3 + 2 = (j * 3 + 2) + 1 + 1 + 1 by omega]
      simp only [List.set_cons_succ]
/-- A row of properties of the call's own (T: their type there). -/
def OwnP (T : TypeId) (w : World) (B : Nat) (v : Value) (l : List Pr) : Prop := w.ownsRow B T 3 v l.length (flatP l)
theorem OwnP.nil (T : TypeId) (w : World) (B : Nat) : OwnP T w B (.slice none 0 0) [] := World.ownsRow_nil _ _ _ _
/-- A row of properties that can be read. -/
def ArgP (w : World) (v : Value) (l : List Pr) : Prop :=
  l.length ≤ 100000 ∧ ((l = [] ∧ ∃ a cap, v = .slice a 0 cap) ∨ ∃ g o cap, v = .slice (some ⟨g, o, none⟩) l.length cap ∧ l.length ≤ cap ∧ cap ≤ maxLen ∧ g < w.heap.size ∧
    ∀ j (hj : j < l.length) k, k < 3 → w.cell? ⟨g, o + j * 3 + k, none⟩ = l[j].cells[k]?)
theorem OwnP.arg {T : TypeId} {w : World} {B : Nat} {v : Value} {l : List Pr} (h : OwnP T w B v l) (hl : l.length ≤ 100000) : ArgP w v l := by
  have hc := fun g hg => World.ownsRow.cells h (g := g) hg
  unfold OwnP at h
  refine ⟨hl, ?_⟩
  rcases h.2 with ⟨rfl, hn⟩ | ⟨g, cap, cur, rfl, hb, hg, hn, hm, _⟩
  · exact .inl ⟨List.length_eq_zero_iff.1 hn, none, 0, rfl⟩
  · refine .inr ⟨g, 0, cap, rfl, hn, hm, (Array.getElem?_eq_some_iff.1 hg).1, fun j hj k hk => ?_⟩
    have hlen : k < l[j].cells.length := hk
    have := hc g rfl (j * 3 + k) (l[j].cells[k]) (by rw [flatP_get l j hj k hk, List.getElem?_eq_getElem hlen])
    rw [add_at, Nat.zero_add] at this
    rw [Nat.zero_add, this, List.getElem?_eq_getElem hlen]
theorem ArgP.below {w w' : World} {v : Value} {l : List Pr} (h : ArgP w v l) (hb : Below w.heap.size w w') : ArgP w' v l := by
  refine ⟨h.1, ?_⟩
  rcases h.2 with hn | ⟨g, o, cap, rfl, h1, h2, h3, h4⟩
  · exact .inl hn
  · refine .inr ⟨g, o, cap, rfl, h1, h2, Nat.lt_of_lt_of_le h3 hb.size, fun j hj k hk => ?_⟩
    rw [hb.cell (p := ⟨g, o + j * 3 + k, none⟩) h3, h4 j hj k hk]
theorem ArgP.form {w : World} {v : Value} {l : List Pr} (h : ArgP w v l) : ∃ a cap, v = .slice a l.length cap := by
  rcases h.2 with ⟨rfl, a, cap, rfl⟩ | ⟨g, o, cap, rfl, _⟩
  · exact ⟨_, _, rfl⟩
  · exact ⟨_, _, rfl⟩
/-- The cells of one of them. -/
theorem ArgP.at {w : World} {a : Option Addr} {n cap : Nat} {l : List Pr} (h : ArgP w (.slice a n cap) l) (j : Nat) (hj : j < l.length) :
    ∃ g o, a = some ⟨g, o, none⟩ ∧ l.length ≤ cap ∧ cap ≤ 9223372036854775807 ∧ g < w.heap.size ∧
      w.cell? ⟨g, o + j * 3, none⟩ = some (.string (tx l[j].name)) ∧ w.cell? ⟨g, o + j * 3 + 1, none⟩ = some (.string (tx l[j].value)) ∧ w.cell? ⟨g, o + j * 3 + 2, none⟩ = some (.int .i64 l[j].line) := by
  rcases h.2 with ⟨rfl, _⟩ | ⟨g, o, cap', e, h1, h2, h3, h4⟩
  · simp at hj
  · injection e with e1 e2 e3
    subst e1 e3
    have k := fun k hk => h4 j hj k hk
    exact ⟨g, o, rfl, h1, by unfold maxLen at h2; omega, h3, k 0 (by omega), k 1 (by omega), k 2 (by omega)⟩
/-- A part as it lies in memory: its name, the slice of its properties, these. -/
structure Sx where
  name : List UInt8
  pv : Value
  props : List Pr
def Sx.cells (s : Sx) : List Value := [.string (tx s.name), s.pv]
def Sx.sc (s : Sx) : Sc := ⟨s.name, s.props⟩
def flatX (l : List Sx) : List Value := l.flatMap Sx.cells
theorem flatX_app (l m : List Sx) : flatX (l ++ m) = flatX l ++ flatX m := by simp [flatX]
theorem flatX_len (l : List Sx) : (flatX l).length = l.length * 2 := by
  induction l with
  | nil => rfl
  | cons n l ih => show (n.cells ++ flatX l).length = _; rw [List.length_append, ih]; simp [Sx.cells]; omega
theorem flatX_get (l : List Sx) : ∀ (j : Nat) (hj : j < l.length) (k : Nat) (hk : k < 2), (flatX l)[j * 2 + k]? = l[j].cells[k]? := by
  induction l with
  | nil => intro j hj; simp at hj
  | cons e l ih =>
    intro j hj k hk
    have e1 : flatX (e :: l) = e.cells ++ flatX l := rfl
    have e2 : e.cells.length = 2 := rfl
    cases j with
    | zero => rw [e1, Nat.zero_mul, Nat.zero_add, List.getElem?_append_left (by omega)]; rfl
    | succ j =>
      rw [e1, List.getElem?_append_right (by omega), e2, show (j + 1) * 2 + k - 2 = j * 2 + k by omega]
      exact ih j (by simpa using hj) k hk
theorem flatX_last (A : List Sx) (x : Sx) (pv : Value) (ps : List Pr) : (flatX (A ++ [x])).set (A.length * 2 + 1) pv = flatX (A ++ [⟨x.name, pv, ps⟩]) := by
  rw [flatX_app, flatX_app, List.set_append_right _ _ (by rw [flatX_len]; omega), flatX_len, show A.length * 2 + 1 - A.length * 2 = 1 by omega]
  rfl
/-- A row of parts of the call's own (T: their type there). -/
def OwnX (T : TypeId) (w : World) (B : Nat) (v : Value) (l : List Sx) : Prop := w.ownsRow B T 2 v l.length (flatX l)
theorem OwnX.nil (T : TypeId) (w : World) (B : Nat) : OwnX T w B (.slice none 0 0) [] := World.ownsRow_nil _ _ _ _
/-- A row of parts that can be read, with their properties. -/
def ArgX (w : World) (v : Value) (l : List Sx) : Prop :=
  l.length ≤ 100000 ∧ (∀ s ∈ l, ArgP w s.pv s.props) ∧ ((l = [] ∧ ∃ a cap, v = .slice a 0 cap) ∨ ∃ g o cap, v = .slice (some ⟨g, o, none⟩) l.length cap ∧ l.length ≤ cap ∧ cap ≤ maxLen ∧ g < w.heap.size ∧
    ∀ j (hj : j < l.length) k, k < 2 → w.cell? ⟨g, o + j * 2 + k, none⟩ = l[j].cells[k]?)
theorem OwnX.arg {T : TypeId} {w : World} {B : Nat} {v : Value} {l : List Sx} (h : OwnX T w B v l) (hl : l.length ≤ 100000) (hp : ∀ s ∈ l, ArgP w s.pv s.props) : ArgX w v l := by
  have hc := fun g hg => World.ownsRow.cells h (g := g) hg
  unfold OwnX at h
  refine ⟨hl, hp, ?_⟩
  rcases h.2 with ⟨rfl, hn⟩ | ⟨g, cap, cur, rfl, hb, hg, hn, hm, _⟩
  · exact .inl ⟨List.length_eq_zero_iff.1 hn, none, 0, rfl⟩
  · refine .inr ⟨g, 0, cap, rfl, hn, hm, (Array.getElem?_eq_some_iff.1 hg).1, fun j hj k hk => ?_⟩
    have hlen : k < l[j].cells.length := hk
    have := hc g rfl (j * 2 + k) (l[j].cells[k]) (by rw [flatX_get l j hj k hk, List.getElem?_eq_getElem hlen])
    rw [add_at, Nat.zero_add] at this
    rw [Nat.zero_add, this, List.getElem?_eq_getElem hlen]
theorem ArgX.below {w w' : World} {v : Value} {l : List Sx} (h : ArgX w v l) (hb : Below w.heap.size w w') : ArgX w' v l := by
  refine ⟨h.1, fun s hs => (h.2.1 s hs).below hb, ?_⟩
  rcases h.2.2 with hn | ⟨g, o, cap, rfl, h1, h2, h3, h4⟩
  · exact .inl hn
  · refine .inr ⟨g, o, cap, rfl, h1, h2, Nat.lt_of_lt_of_le h3 hb.size, fun j hj k hk => ?_⟩
    rw [hb.cell (p := ⟨g, o + j * 2 + k, none⟩) h3, h4 j hj k hk]
theorem ArgX.form {w : World} {v : Value} {l : List Sx} (h : ArgX w v l) : ∃ a cap, v = .slice a l.length cap := by
  rcases h.2.2 with ⟨rfl, a, cap, rfl⟩ | ⟨g, o, cap, rfl, _⟩
  · exact ⟨_, _, rfl⟩
  · exact ⟨_, _, rfl⟩
theorem ArgX.at {w : World} {a : Option Addr} {n cap : Nat} {l : List Sx} (h : ArgX w (.slice a n cap) l) (j : Nat) (hj : j < l.length) :
    ∃ g o, a = some ⟨g, o, none⟩ ∧ l.length ≤ cap ∧ cap ≤ 9223372036854775807 ∧ g < w.heap.size ∧
      w.cell? ⟨g, o + j * 2, none⟩ = some (.string (tx l[j].name)) ∧ w.cell? ⟨g, o + j * 2 + 1, none⟩ = some l[j].pv := by
  rcases h.2.2 with ⟨rfl, _⟩ | ⟨g, o, cap', e, h1, h2, h3, h4⟩
  · simp at hj
  · injection e with e1 e2 e3
    subst e1 e3
    have k := fun k hk => h4 j hj k hk
    exact ⟨g, o, rfl, h1, by unfold maxLen at h2; omega, h3, k 0 (by omega), k 1 (by omega)⟩
end Go.Proofs.YtmcefflgbliehaaDoor
