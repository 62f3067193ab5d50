
/-
  An address space in memory: what lies there (SpAt); the small methods of a room; Used.
-/
import Derived.Test.YtdecbnmibjcnaaaVmM
import Derived.WalkLawsBesides
import Derived.WalkSpells
import Derived.Laws.AppendOwn
import Derived.Deep.MidRow
import Derived.BigQuiet
import Derived.Lib.QuietBelow
import Derived.KernelRfl
set_option linter.unusedVariables false
namespace Go.Proofs.Ytdecbnmibjcnaaa
open Go.RowKit Go.PlainAid
def Sh.cells (s : Sh) : List Value := .bool s.there :: .int .i64 s.prot :: s.data.map (fun b => .int .u8 (b.toNat : Int))
def Rm.sl (r : Rm) : Value := .slice (some ⟨r.blk, 0, none⟩) r.pages.length r.cap
def Rm.cells (r : Rm) : List Value := [.int .u64 r.pos, r.sl]
def flatS (l : List Sh) : List Value := l.flatMap Sh.cells
def flatR (l : List Rm) : List Value := l.flatMap Rm.cells
/-- Block g begins with these cells. -/
def Holds (w : World) (g : Nat) (t : TypeId) (xs : List Value) : Prop := ∃ cur : Array Value, w.heap[g]? = some (.cells cur t (0, 0)) ∧ xs <+: cur.toList
/-- Block S is a space; v is the slice of its rooms. -/
structure SpAt (w : World) (S : Nat) (v : Value) (sp : Sp) : Prop where
  head : w.heap[S]? = some (.cells #[.int .i64 sp.budget, v] 74 (0, 0))
  row : w.ownsRow 0 85 2 v sp.rooms.length (flatR sp.rooms)
  pgs : ∀ r ∈ sp.rooms, Holds w r.blk 88 (flatS r.pages)
  nod : (S :: (v.ownBlock.toList ++ sp.rooms.map Rm.blk)).Nodup
theorem flatR_len (l : List Rm) : (flatR l).length = l.length * 2 := by
  induction l with
  | nil => rfl
  | cons r l ih => simp [flatR, Rm.cells] at ih ⊢; omega
theorem flatR_get0 (l : List Rm) (j : Nat) (h : j < l.length) : (flatR l)[j * 2]? = some (.int .u64 l[j].pos) ∧ (flatR l)[j * 2 + 1]? = some l[j].sl := by
  induction l generalizing j with
  | nil => simp at h
  | cons r l ih =>
    cases j with
    | zero => simp [flatR, Rm.cells]
    | succ j =>
      have := ih j (by simpa using h)
      have e : flatR (r :: l) = .int .u64 r.pos :: r.sl :: flatR l := rfl
      rw [e, show (j + 1) * 2 = j * 2 + 1 + 1 by omega, show j * 2 + 1 + 1 + 1 = (j * 2 + 1) + 1 + 1 by omega]
      simpa using this
theorem add_lit (g o : Nat) : (⟨g, 0, none⟩ : Addr).add o = ⟨g, o, none⟩ := by unfold Addr.add; split <;> simp_all
/-- What a walk over the rooms is told. -/
structure Told (w : World) (S : Nat) (v : Value) (l : List Rm) (n g cap : Nat) : Prop where
  c1 : w.cell? ⟨S, 1, none⟩ = some v
  lt : S < w.heap.size
  form : v = .slice (some ⟨g, 0, none⟩) n cap
  glt : g < w.heap.size
  n0 : n ≤ cap
  cap1 : cap ≤ maxLen
  at0 : ∀ j (h : j < l.length), w.cell? ⟨g, j * 2, none⟩ = some (.int .u64 l[j].pos)
  at1 : ∀ j (h : j < l.length), w.cell? ⟨g, j * 2 + 1, none⟩ = some l[j].sl
theorem SpAt.lt {w : World} {S : Nat} {v : Value} {sp : Sp} (h : SpAt w S v sp) : S < w.heap.size := (Array.getElem?_eq_some_iff.1 h.head).1
theorem SpAt.c0 {w : World} {S : Nat} {v : Value} {sp : Sp} (h : SpAt w S v sp) : w.cell? ⟨S, 0, none⟩ = some (.int .i64 sp.budget) := by
  simp [World.cell?, h.head]
theorem SpAt.c1 {w : World} {S : Nat} {v : Value} {sp : Sp} (h : SpAt w S v sp) : w.cell? ⟨S, 1, none⟩ = some v := by
  simp [World.cell?, h.head]
theorem SpAt.told {w : World} {S : Nat} {v : Value} {sp : Sp} (h : SpAt w S v sp) :
    (v = .slice none 0 0 ∧ sp.rooms = []) ∨ ∃ g cap, Told w S v sp.rooms sp.rooms.length g cap := by
  rcases h.row.2 with ⟨rfl, hn⟩ | ⟨g, cap, cur, rfl, _, hg, h1, h2, h3, h4⟩
  · exact .inl ⟨rfl, List.eq_nil_of_length_eq_zero hn⟩
  · have hc := h.row.cells (g := g) rfl
    refine .inr ⟨g, cap, h.c1, h.lt, rfl, (Array.getElem?_eq_some_iff.1 hg).1, h1, h2, fun j hj => ?_, fun j hj => ?_⟩
    · have := hc (j * 2) _ (flatR_get0 sp.rooms j hj).1
      rwa [add_lit] at this
    · have := hc (j * 2 + 1) _ (flatR_get0 sp.rooms j hj).2
      rwa [add_lit] at this
theorem Told.stay {w w' : World} {S : Nat} {v : Value} {l : List Rm} {n g cap : Nat} (h : Told w S v l n g cap) (hb : Below w.heap.size w w') : Told w' S v l n g cap :=
  ⟨by rw [hb.cell (p := ⟨S, 1, none⟩) h.lt]; exact h.c1, Nat.lt_of_lt_of_le h.lt hb.size, h.form, Nat.lt_of_lt_of_le h.glt hb.size, h.n0, h.cap1,
    fun j hj => by rw [hb.cell (p := ⟨g, j * 2, none⟩) h.glt]; exact h.at0 j hj, fun j hj => by rw [hb.cell (p := ⟨g, j * 2 + 1, none⟩) h.glt]; exact h.at1 j hj⟩
theorem vm_size (p : Nat) (s : Option Addr) (n cap : Nat) (w : World) (hn : n ≤ 64) :
    Calls Try.prog 53 #[.agg #[.int .u64 p, .slice s n cap]] w fun e w' => e = .returned (.int .u64 ((n * 256 : Nat) : Int)) ∧ Below w.heap.size w w' := by
  go_enter Try.func53, Try.ntmps53
  go_wp2
  go_ret
  exact ⟨by simp, (Below.refl _ w).alloc (Nat.le_refl _) _⟩
end Go.Proofs.Ytdecbnmibjcnaaa
