
/-
  Layer 7 (zip): check and Make keep their contracts.
-/
import Derived.Test.YtegcdddfccmljaaZpI
set_option linter.unusedVariables false
namespace Go.Proofs.Ytegcdddfccmljaa
open Go.RowKit Go.PlainAid
/-- A file that came in: its name, its bytes, and the slice that they are. -/
structure Fl where
  name : List UInt8
  data : List UInt8
  vd : Value
/-- What is wrong with a file, the others aside. -/
def chkF (n d : Nat) : Int := if n = 0 ∨ 256 < n then 40 else if 262144 < d then 67 else 0
theorem zip_check (w : World) (nm : List UInt8) (a : Option Addr) (d cap : Nat) (hn : nm.length ≤ 9223372036854775807) (hd : d ≤ 1000000000000) :
    Calls Try.prog 23 #[.agg #[.string ⟨nm.toArray⟩, .slice a d cap]] w fun e w' => e = .returned (.int .i64 (chkF nm.length d)) ∧ Below w.heap.size w w' := by
  have HB1 : Hid (Below w.heap.size w (w.alloc (.cells #[.string ⟨nm.toArray⟩, .slice a d cap] 50))) := (Below.refl _ w).alloc (Nat.le_refl _) _
  have hdI : (d : Int) ≤ 1000000000000 := by omega
  unfold chkF
  by_cases h0 : nm = []
  · subst h0
    rw [if_pos (.inl rfl)]
    go_enter Try.func23, Try.ntmps23
    go_wp2
    go_ret
    exact ⟨rfl, HB1.out⟩
  · have hz : nm.length ≠ 0 := fun e => h0 (List.eq_nil_of_length_eq_zero e)
    have hb : (nm == []) = false := by cases nm with | nil => exact absurd rfl h0 | cons c t => rfl
    have hI0 : (nm.length : Int) ≤ 9223372036854775807 := by omega
    by_cases h1 : 256 < nm.length
    · rw [if_pos (.inr h1)]
      have hI : (256 : Int) < (nm.length : Int) := by omega
      clear h0 hz
      go_enter Try.func23, Try.ntmps23
      go_wp2
      go_ret
      exact ⟨rfl, HB1.out⟩
    · rw [if_neg (by omega)]
      have hI : ¬ (256 : Int) < (nm.length : Int) := by omega
      clear h0 hz
      by_cases h2 : 262144 < d
      · rw [if_pos h2]
        have hI2 : (262144 : Int) < (d : Int) := by omega
        go_enter Try.func23, Try.ntmps23
        go_wp2
        go_ret
        exact ⟨rfl, HB1.out⟩
      · rw [if_neg h2]
        have hI2 : ¬ (262144 : Int) < (d : Int) := by omega
        go_enter Try.func23, Try.ntmps23
        go_wp2
        go_ret
        exact ⟨rfl, HB1.out⟩
/-- The files from some place on, laid behind what is there. -/
def makeZ : List Fl → List UInt8 → List UInt8 → Except Int (List UInt8 × List UInt8)
  | [], a, c => .ok (a, c)
  | f :: t, a, c =>
    if chkF f.name.length f.data.length = 0 then
      if 262144 < (a ++ ownB a.length f.name f.data).length + (c ++ listB a.length f.name f.data).length + 22 then .error 67
      else makeZ t (a ++ ownB a.length f.name f.data) (c ++ listB a.length f.name f.data)
    else .error (chkF f.name.length f.data.length)
/-- An archive of files, or the error. -/
def makeN (fs : List Fl) : Except Int (List UInt8) :=
  if 256 < fs.length then .error 68 else
  match makeZ fs [] [] with
  | .error e => .error e
  | .ok (a, c) => .ok (a ++ c ++ lastB fs.length c.length a.length)
/-- A file in memory. -/
structure IsFl (w : World) (y o : Nat) (f : Fl) : Prop where
  c0 : w.cell? ⟨y, o, none⟩ = some (.string ⟨f.name.toArray⟩)
  c1 : w.cell? ⟨y, o + 1, none⟩ = some f.vd
  arg : Arg w f.vd f.data
  nlen : f.name.length ≤ 9223372036854775807
def FilesAt (w : World) (a : Option Addr) (fs : List Fl) : Prop := fs = [] ∨ ∃ y o, a = some ⟨y, o, none⟩ ∧ ∀ i (h : i < fs.length), IsFl w y (o + i * 2) fs[i]
theorem IsFl.below {w w' : World} {y o : Nat} {f : Fl} (h : IsFl w y o f) (hb : Below w.heap.size w w') : IsFl w' y o f :=
  ⟨by rw [hb.cell (p := ⟨y, o, none⟩) (World.block_lt_of_cell? _ _ h.c0)]; exact h.c0, by rw [hb.cell (p := ⟨y, o + 1, none⟩) (World.block_lt_of_cell? _ _ h.c1)]; exact h.c1, h.arg.below hb rfl, h.nlen⟩
theorem FilesAt.below {w w' : World} {a : Option Addr} {fs : List Fl} (h : FilesAt w a fs) (hb : Below w.heap.size w w') : FilesAt w' a fs := by
  rcases h with h | ⟨y, o, e, h⟩
  · exact .inl h
  · exact .inr ⟨y, o, e, fun i hi => (h i hi).below hb⟩
/-- Two buffers that have nothing in common. -/
structure Tw (w : World) (B R1 R2 : Nat) (o1 o2 : Option Nat) (l1 l2 : List UInt8) : Prop where
  b1 : Bf w B R1 o1 l1
  b2 : Bf w B R2 o2 l2
  ne : R1 ≠ R2
  x1 : o1 ≠ some R2
  x2 : o2 ≠ some R1
  d : o1 = none ∨ o1 ≠ o2
theorem Tw.below {w w' : World} {B R1 R2 : Nat} {o1 o2 : Option Nat} {l1 l2 : List UInt8} (h : Tw w B R1 R2 o1 o2 l1 l2) (hb : Below w.heap.size w w') : Tw w' B R1 R2 o1 o2 l1 l2 :=
  ⟨h.b1.below hb, h.b2.below hb, h.ne, h.x1, h.x2, h.d⟩
theorem Tw.symm {w : World} {B R1 R2 : Nat} {o1 o2 : Option Nat} {l1 l2 : List UInt8} (h : Tw w B R1 R2 o1 o2 l1 l2) : Tw w B R2 R1 o2 o1 l2 l1 :=
  ⟨h.b2, h.b1, h.ne.symm, h.x2, h.x1, by
    rcases h.d with e | e
    · cases o2 with
      | none => exact .inl rfl
      | some k => exact .inr (by rw [e]; simp)
    · exact .inr (Ne.symm e)⟩
theorem Bf.other {w w' : World} {B R R' : Nat} {o o' : Option Nat} {l : List UInt8} (h : Bf w B R o l) (g : Gr w w' R' o') (h1 : R ≠ R') (h2 : o' ≠ some R) (h3 : o ≠ some R') (h4 : o = none ∨ o ≠ o') : Bf w' B R o l := by
  obtain ⟨v, k1, k2, rfl⟩ := h.row
  have hb : w'.heap[R]? = w.heap[R]? := g.block R h.lt h1 (Ne.symm h2)
  exact ⟨Nat.lt_of_lt_of_le h.lt g.size, h.base, ⟨v, by rw [World.cell?_of_block (a := ⟨R, 0, none⟩) hb]; exact k1, k2.gr g h3 h4, rfl⟩, h.far, by rw [World.frozen?_of_block (a := ⟨R, 0, none⟩) hb]; exact h.soft⟩
theorem Tw.left {w w' : World} {B R1 R2 : Nat} {o1 o2 : Option Nat} {l1 l2 l' : List UInt8} (h : Tw w B R1 R2 o1 o2 l1 l2) (k : Lays w w' B R1 o1 l') : ∃ o', Tw w' B R1 R2 o' o2 l' l2 ∧ Nx w o1 o' := by
  obtain ⟨o', k1, k2, k3⟩ := k
  have hd := h.symm.d
  refine ⟨o', ⟨k1, h.b2.other k2 h.ne.symm h.x1 h.x2 hd, h.ne, ?_, h.x2, ?_⟩, k3⟩
  · rcases k3 with e | ⟨k, e, hk⟩
    · rw [e]; exact h.x1
    · rw [e]; intro e2; have := Option.some.inj e2; have := h.b2.lt; omega
  · rcases k3 with e | ⟨k, e, hk⟩
    · rw [e]; exact h.d
    · right; rw [e]; intro e2; have := (h.b2.own_ge k e2.symm).2; omega
theorem Tw.right {w w' : World} {B R1 R2 : Nat} {o1 o2 : Option Nat} {l1 l2 l' : List UInt8} (h : Tw w B R1 R2 o1 o2 l1 l2) (k : Lays w w' B R2 o2 l') : ∃ o', Tw w' B R1 R2 o1 o' l1 l' ∧ Nx w o2 o' := by
  obtain ⟨o', h1, h2⟩ := h.symm.left k
  exact ⟨o', h1.symm, h2⟩
theorem Own.low {w : World} {B C : Nat} {v : Value} {l : List UInt8} (h : Own w C v l) (hc : B ≤ C) : Own w B v l := by
  refine ⟨h.1, ?_⟩
  rcases h.2 with hn | ⟨g, cap, cur, rfl, hB, rest⟩
  · exact .inl hn
  · exact .inr ⟨g, cap, cur, rfl, Nat.le_trans hc hB, rest⟩
theorem Bf.low {w : World} {B C R : Nat} {o : Option Nat} {l : List UInt8} (h : Bf w C R o l) (hc : B ≤ C) : Bf w B R o l := by
  obtain ⟨v, k1, k2, k3⟩ := h.row
  exact ⟨h.lt, Nat.le_trans hc h.base, ⟨v, k1, k2.low hc, k3⟩, h.far, h.soft⟩
theorem Nx.far {w : World} {o o' : Option Nat} {Z : Nat} (h : Nx w o o') (hZ : Z < w.heap.size) (ho : o ≠ some Z) : o' ≠ some Z := by
  rcases h with e | ⟨k, e, hk⟩
  · rw [e]; exact ho
  · rw [e]; intro e2; have := Option.some.inj e2; omega
/-- What Make answers. -/
def MakesZ (w' : World) (B : Nat) (o : Except Int (List UInt8)) (e : Ending) : Prop :=
  match o with
  | .error c => e = .returned (.tuple #[.slice none 0 0, .int .i64 c])
  | .ok b => ∃ v, e = .returned (.tuple #[v, .int .i64 0]) ∧ Own w' B v b
theorem chkF_or (n d : Nat) : (chkF n d = 0 ∧ 0 < n ∧ n ≤ 256 ∧ d ≤ 262144) ∨ ((chkF n d != 0) = true ∧ chkF n d ≠ 0) := by
  unfold chkF
  split
  · exact .inr ⟨rfl, by decide⟩
  · split
    · exact .inr ⟨rfl, by decide⟩
    · exact .inl ⟨rfl, by omega, by omega, by omega⟩
end Go.Proofs.Ytegcdddfccmljaa
