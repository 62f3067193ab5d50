
/-
  A way along a path: what one step does; follow keeps its contract.
-/
import Derived.Test.YthkpcafbfgfjpaaDoorFsG
import Derived.Deep.AppendSrc
set_option linter.unusedVariables false
namespace Go.Proofs.YthkpcafbfgfjpaaDoor
open Go.RowKit Go.PlainAid
def pathAt (l : List Nd) (k : Nat) : List UInt8 := ((l[k]?).map fun n => n.path.data.toList).getD []
def toAt (l : List Nd) (k : Nat) : List UInt8 := ((l[k]?).map fun n => n.to.data.toList).getD []
structure Way where
  pos : Nat
  left : List (List UInt8)
  links : Nat
/-- What following a link does. -/
def followW (to : List UInt8) (s : Way) : Int × Way := if s.links = 8 then (64, s) else (0, ⟨if Lib.hasPrefix to [47] then 0 else s.pos, names to ++ s.left, s.links + 1⟩)
/-- One step, by a name. -/
def stepW (l : List Nd) (name : List UInt8) (s : Way) : Int × Way :=
  if kindAt l s.pos = 2 then (65, s)
  else if name = [46, 46] then (0, ⟨numOf (pathsOf l) (upOf (pathAt l s.pos)), s.left, s.links⟩)
  else if isIn (pathsOf l) (belowOf (pathAt l s.pos) name) = false then (63, s)
  else if kindAt l (numOf (pathsOf l) (belowOf (pathAt l s.pos) name)) = 3 then followW (toAt l (numOf (pathsOf l) (belowOf (pathAt l s.pos) name))) s
  else (0, ⟨numOf (pathsOf l) (belowOf (pathAt l s.pos) name), s.left, s.links⟩)
def runW (l : List Nd) : Nat → Way → Int × Nat
  | 0, _ => (64, 0)
  | f + 1, ⟨p, [], _⟩ => (0, p)
  | f + 1, ⟨p, n :: r, k⟩ => if (stepW l n ⟨p, r, k⟩).1 = 0 then runW l f (stepW l n ⟨p, r, k⟩).2 else ((stepW l n ⟨p, r, k⟩).1, 0)
/-- v is a slice of texts that reads as l, in no block of those F. -/
def SrcS (w : World) (F : Nat → Prop) (v : Value) (l : List (List UInt8)) : Prop :=
  ∃ a cap, v = .slice a l.length cap ∧ l.length ≤ cap ∧ cap ≤ maxLen ∧ (l = [] ∨ ∃ g o, a = some ⟨g, o, none⟩ ∧ ¬ F g ∧ ∀ j (hj : j < l.length), w.cell? ⟨g, o + j, none⟩ = some (.string (tx l[j])))
theorem SrcS.turn {F : Nat → Prop} {w w' : World} {v : Value} {l : List (List UInt8)} (h : SrcS w F v l) (ht : Turn F w w') : SrcS w' F v l := by
  obtain ⟨a, cap, rfl, h1, h2, h3⟩ := h
  refine ⟨a, cap, rfl, h1, h2, ?_⟩
  rcases h3 with h3 | ⟨g, o, rfl, hg, hc⟩
  · exact .inl h3
  · exact .inr ⟨g, o, rfl, hg, fun j hj => ht.cell (p := ⟨g, o + j, none⟩) hg (hc j hj)⟩
theorem OwnS.src {w : World} {B : Nat} {v : Value} {l : List (List UInt8)} {F : Nat → Prop} (h : OwnS w B v (l.map tx)) (hF : ∀ k, B ≤ k → ¬ F k) : SrcS w F v l := by
  have hc := fun g hg => World.ownsRow.cells h (g := g) hg
  rcases h.2 with ⟨rfl, hn⟩ | ⟨g, cap, cur, rfl, hB, hg, h1, h2, h3, h4⟩
  · rw [List.length_map] at hn
    have hl := List.eq_nil_of_length_eq_zero hn
    subst hl
    exact ⟨none, 0, rfl, by simp, by simp, .inl rfl⟩
  · rw [List.length_map] at h1
    refine ⟨some ⟨g, 0, none⟩, cap, by rw [List.length_map], h1, h2, .inr ⟨g, 0, rfl, hF g hB, fun j hj => ?_⟩⟩
    have := hc g rfl j (.string (tx l[j])) (by rw [List.map_map, List.getElem?_map, List.getElem?_eq_getElem hj]; rfl)
    rwa [Addr.add_mid] at this
/-- The way in memory: its box X leads to the file system F. -/
structure WayAt (w : World) (X F : Nat) (vl : Value) (s : Way) : Prop where
  box : w.heap[X]? = some (.cells #[.pointer (some ⟨F, 0, none⟩), .int .i64 (s.pos : Nat), vl, .int .i64 (s.links : Nat)] 72 (0, 0))
  row : SrcS w (· = X) vl s.left
  names : ∀ n ∈ s.left, n.length ≤ 4096
  few : s.left.length ≤ 60000
structure W4 (w : World) (X F : Nat) (vl : Value) (s : Way) : Prop where
  c0 : w.cell? ⟨X, 0, none⟩ = some (.pointer (some ⟨F, 0, none⟩))
  c1 : w.cell? ⟨X, 1, none⟩ = some (.int .i64 (s.pos : Nat))
  c2 : w.cell? ⟨X, 2, none⟩ = some vl
  c3 : w.cell? ⟨X, 3, none⟩ = some (.int .i64 (s.links : Nat))
  f1 : w.frozen? ⟨X, 1, none⟩ = false
  f2 : w.frozen? ⟨X, 2, none⟩ = false
  f3 : w.frozen? ⟨X, 3, none⟩ = false
theorem way_cells {w : World} {X F : Nat} {vl : Value} {s : Way} (h : w.heap[X]? = some (.cells #[.pointer (some ⟨F, 0, none⟩), .int .i64 (s.pos : Nat), vl, .int .i64 (s.links : Nat)] 72 (0, 0))) : W4 w X F vl s := by
  constructor <;> simp [World.cell?, World.frozen?, h]
theorem name_len (l : List UInt8) : ∀ n ∈ names l, n.length ≤ l.length := by
  intro n hn
  have h1 := names_tot l
  have key : ∀ (r : List (List UInt8)), n ∈ r → n.length + 1 ≤ tot r := by
    intro r
    induction r with
    | nil => intro h; simp at h
    | cons x r ih =>
      intro h
      rcases List.mem_cons.1 h with e | e
      · subst e; simp [tot]
      · have := ih e; simp [tot]; omega
  have := key _ hn
  omega
end Go.Proofs.YthkpcafbfgfjpaaDoor
