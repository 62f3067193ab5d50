
/-
  One call of the program, in plain words: done keeps its contract.
-/
import Derived.Test.YtdecbnmibjcnaaaVmL
import Derived.Lib.BufferRead
set_option linter.unusedVariables false
namespace Go.Proofs.Ytdecbnmibjcnaaa
open Go.RowKit Go.PlainAid
/-- What a call has answered. -/
structure Out where
  e : Nat
  b : List UInt8
  at_ : Nat
  room : Bool
def txt (l : List UInt8) : ByteArray := ⟨l.toArray⟩
def Out.cells (o : Out) : Array Value := #[.int .i64 o.e, .string (txt o.b), .int .u64 o.at_, .bool o.room]
/-- The space behind a call, and what it answers; blk: the block of a new room. -/
def doS (sp : Sp) (x : OpN) (rs : List Nat) (hint blk : Nat) : Sp := match kindN x.kind with
  | 0 | 1 => rvS sp hint (x.size % 70) blk
  | 2 | 3 => mpS sp (placeN x rs) x.size x.prot x.data
  | 4 => prS sp (placeN x rs) x.size x.prot
  | 5 => rlS sp (placeN x rs)
  | 6 => sp
  | 7 | 8 => wrS sp (placeN x rs) x.data
  | 9 => sp
  | _ => wrS sp (placeN x rs) (leN 8 x.hint)
def doO (sp : Sp) (x : OpN) (rs : List Nat) (hint : Nat) : Out := match kindN x.kind with
  | 0 | 1 => ⟨rvE sp (x.size % 70), [], rvP sp hint (x.size % 70), rvE sp (x.size % 70) == 0⟩
  | 2 | 3 => ⟨mpE sp (placeN x rs) x.size x.prot x.data, [], 0, false⟩
  | 4 => ⟨prE sp (placeN x rs) x.size x.prot, [], 0, false⟩
  | 5 => ⟨rlE sp (placeN x rs), [], 0, false⟩
  | 6 => ⟨rdE sp (placeN x rs) x.size, rdB sp (placeN x rs) x.size, 0, false⟩
  | 7 | 8 => ⟨wrE sp (placeN x rs) x.data, [], 0, false⟩
  | 9 => ⟨rdE sp (placeN x rs) 8, leN 8 (ldN sp (placeN x rs)), 0, false⟩
  | _ => ⟨wrE sp (placeN x rs) (leN 8 x.hint), [], 0, false⟩
theorem Src.text {w : World} {F : Nat → Prop} {v : Value} {l : List UInt8} (h : Src w F v l) : (convert 44 9 v).run Try.prog w = .ok (.string (txt l)) w := by
  obtain ⟨a, cap, rfl, h1, h2, h4⟩ := h
  rcases h4 with ⟨rfl, rfl, rfl⟩ | ⟨x, rfl, _, hc⟩
  · exact Lib.run_convert_nil_bytes w 44 9 5 0 Try.underlying44 Try.underlying5 Try.underlying9
  · exact run_convert_bytes_back (P := Try.prog) w 44 9 5 x cap l Try.underlying44 Try.underlying5 Try.underlying9 hc
/-- The boxes of done: the call, and what is answered. -/
structure Bxs (w W : World) (F : Nat → Prop) (x : OpN) (vd : Value) : Prop where
  box : W.heap[w.heap.size]? = some (.cells (x.cells vd) 46 (0, 0))
  ans : W.heap[w.heap.size + 1]? = some (.cells #[.int .i64 0, .string (txt []), .int .u64 0, .bool false] 49 (0, 0))
  turn : Turn F w W
theorem Bxs.start (w : World) (F : Nat → Prop) (x : OpN) (vd : Value) : Bxs w ((w.alloc (.cells (x.cells vd) 46)).alloc (.cells #[.int .i64 0, .string (txt []), .int .u64 0, .bool false] 49)) F x vd := by
  refine ⟨?_, ?_, ?_⟩
  · exact heap_alloc2_old w _ _
  · exact heap_alloc2_new w _ _
  · exact Turn.of_below (((Below.refl _ w).alloc (Nat.le_refl _) _).alloc (by simp) _)
theorem Bxs.on {w W W' : World} {F : Nat → Prop} {x : OpN} {vd : Value} (h : Bxs w W F x vd) (ht : Turn F W W') (hF : ∀ k, F k → k < w.heap.size) : Bxs w W' F x vd := by
  have h1 := (Array.getElem?_eq_some_iff.1 h.box).1
  have h2 := (Array.getElem?_eq_some_iff.1 h.ans).1
  exact ⟨by rw [ht.block _ h1 (fun e => by have := hF _ e; omega)]; exact h.box, by rw [ht.block _ h2 (fun e => by have := hF _ e; omega)]; exact h.ans, h.turn.trans ht⟩
/-- The cells of the call's box, for the walk. -/
structure BxC (W : World) (B : Nat) (x : OpN) (vd : Value) : Prop where
  c0 : W.cell? ⟨B, 0, none⟩ = some (.int .i64 x.kind)
  c1 : W.cell? ⟨B, 1, none⟩ = some (.int .i64 x.room)
  c2 : W.cell? ⟨B, 2, none⟩ = some (.int .u64 x.off)
  c3 : W.cell? ⟨B, 3, none⟩ = some (.int .u64 x.size)
  c4 : W.cell? ⟨B, 4, none⟩ = some (.int .i64 x.prot)
  c5 : W.cell? ⟨B, 5, none⟩ = some (.int .u64 x.hint)
  c6 : W.cell? ⟨B, 6, none⟩ = some vd
structure AnC (W : World) (B : Nat) : Prop where
  a0 : W.cell? ⟨B + 1, 0, none⟩ = some (.int .i64 0)
  a1 : W.cell? ⟨B + 1, 1, none⟩ = some (.string (txt []))
  a2 : W.cell? ⟨B + 1, 2, none⟩ = some (.int .u64 0)
  a3 : W.cell? ⟨B + 1, 3, none⟩ = some (.bool false)
  f0 : W.frozen? ⟨B + 1, 0, none⟩ = false
  f1 : W.frozen? ⟨B + 1, 1, none⟩ = false
  f2 : W.frozen? ⟨B + 1, 2, none⟩ = false
  f3 : W.frozen? ⟨B + 1, 3, none⟩ = false
theorem Bxs.cells {w W : World} {F : Nat → Prop} {x : OpN} {vd : Value} (h : Bxs w W F x vd) : BxC W w.heap.size x vd := by
  constructor <;> simp [World.cell?, h.box, OpN.cells]
theorem Bxs.ansC {w W : World} {F : Nat → Prop} {x : OpN} {vd : Value} (h : Bxs w W F x vd) : AnC W w.heap.size := by
  constructor <;> simp [World.cell?, World.frozen?, h.ans]
/-- The answer's box with an answer in it. -/
def World.put4 (W : World) (B : Nat) (a b c d : Value) : World := (((W.setCell ⟨B, 0, none⟩ a).setCell ⟨B, 1, none⟩ b).setCell ⟨B, 2, none⟩ c).setCell ⟨B, 3, none⟩ d
/-- A space behind a call. -/
def SpTo (w : World) (S : Nat) (v : Value) (l : List Rm) (w' : World) (sp' : Sp) : Prop := (∃ v', SpAt w' S v' sp' ∧ (∀ k ∈ foot S v' sp'.rooms, k ∈ foot S v l ∨ w.heap.size ≤ k)) ∧ Turn (· ∈ foot S v l) w w'
end Go.Proofs.Ytdecbnmibjcnaaa
