
/-
  Layer 14 (aps), the reference: what its Encode gathers, plain and in memory.
-/
import Derived.Test.YtiicmakeoidiaaaApQ
import Derived.Lib.QuietBelow
set_option linter.unusedVariables false
namespace Go.Proofs.Ytiicmakeoidiaaa
open Go.RowKit Go.PlainAid
/-- The relocation ahead of the i-th. -/
def prevO (l : List Rl) (i : Nat) : Option Rl := (l.take i).getLast?
theorem prevO_zero (l : List Rl) : prevO l 0 = none := by simp [prevO]
theorem prevO_succ (l : List Rl) (i : Nat) (h : i < l.length) : prevO l (i + 1) = some l[i] := by
  unfold prevO; rw [List.take_succ_eq_append_getElem h]; exact List.getLast?_concat
def adR (rela : Bool) (p : Option Rl) : Int := if rela = true then prevA p else 0
/-- What the loop holds at the i-th relocation. -/
structure GE (w wr : World) (l : List Rl) (rela : Bool) (i : Nat) (vo : Value) (acc : List Int) : Prop where
  own : OwnI wr w.heap.size vo acc
  bel : Below w.heap.size w wr
  all : (l.take i).all (rlGood rela) = true
  ans : acc ++ goN rela (prevO l i) (l.drop i) = (l.length : Int) :: 0 :: goN rela none l
  len : acc.length ≤ 2 + 5 * i
theorem goN_at (rela : Bool) (l : List Rl) (i : Nat) (h : i < l.length) : goN rela (prevO l i) (l.drop i) = (if isNew (prevO l i) l[i] = true then headN rela (alikeN l[i] (l.drop (i + 1)) + 1) l[i] else []) ++ (oneN rela (prevP (prevO l i)) (prevA (prevO l i)) l[i] ++ goN rela (prevO l (i + 1)) (l.drop (i + 1))) := by
  rw [List.drop_eq_getElem_cons h, prevO_succ l i h]; rfl
/-- Behind one relocation. -/
theorem GE.next {w wr w5 : World} {l : List Rl} {rela : Bool} {i : Nat} {vo v5 : Value} {acc X : List Int} (h : GE w wr l rela i vo acc) (hi : i < l.length) (hg : rlGood rela l[i] = true) (hX : X = (if isNew (prevO l i) l[i] = true then headN rela (alikeN l[i] (l.drop (i + 1)) + 1) l[i] else []) ++ oneN rela (prevP (prevO l i)) (prevA (prevO l i)) l[i])
    (o5 : OwnI w5 w.heap.size v5 (acc ++ X)) (hb : Below w.heap.size w w5) : GE w w5 l rela (i + 1) v5 (acc ++ X) := by
  refine ⟨o5, hb, ?_, ?_, ?_⟩
  · rw [List.take_succ_eq_append_getElem hi, List.all_append, h.all]; simp [hg]
  · rw [← h.ans, goN_at rela l i hi, hX]
    simp only [List.append_assoc]
  · have h1 := h.len
    have h2 := oneN_len rela (prevP (prevO l i)) (prevA (prevO l i)) l[i]
    have h3 : (if isNew (prevO l i) l[i] = true then headN rela (alikeN l[i] (l.drop (i + 1)) + 1) l[i] else []).length ≤ 3 := by
      split
      · simp [headN]
      · simp
    rw [hX, List.length_append, List.length_append]
    omega
theorem GE.start (w : World) (l : List Rl) (rela : Bool) (n : Nat) (hn : l.length = n) : GE w (w.alloc (.cells #[.int .i64 (n : Nat), .int .i64 0] 2)) l rela 0 (.slice (some ⟨w.heap.size, 0, none⟩) 2 2) [(n : Int), 0] := by
  refine ⟨⟨by simp [iv], .inr ⟨w.heap.size, 2, _, rfl, Nat.le_refl _, heap_alloc_new _ _, Nat.le_refl _, by unfold maxLen; omega, rfl, rfl⟩⟩, below1 _ _, by simp, ?_, by simp⟩
  rw [prevO_zero, hn]; rfl
/-- An append to what is gathered: below the base nothing turns. -/
theorem own_grown {w W w' : World} {B : Nat} {v : Value} {l : List Int} (h : OwnI W B v l) (hB : B ≤ W.heap.size) (hb : Below B w W) (hg : W.grownBy w' v.ownBlock) : Below B w w' :=
  hb.trans ⟨hg.os, hg.tape, hg.output, hg.size, fun k hk => hg.block k (by omega) (fun e => by have := (h.base k e.symm).1; omega)⟩
theorem alike_more (r : Rl) (l : List Rl) (k : Nat) (h : k < l.length) (hk : k ≤ alikeN r l) (hs : sameR l[k] r = true) : k + 1 ≤ alikeN r l := by
  rcases Nat.lt_or_ge k (alikeN r l) with h1 | h1
  · exact h1
  · have e : alikeN r l = k := by omega
    have := alike_stop r l (by omega)
    simp only [e] at this
    rw [this] at hs; cases hs
theorem alike_end (r : Rl) (l : List Rl) (k : Nat) (hk : k ≤ alikeN r l) (h : ∀ hlt : k < l.length, sameR l[k] r = false) : alikeN r l = k := by
  rcases Nat.lt_or_ge k (alikeN r l) with h1 | h1
  · have := alike_le r l
    have e := alike_same r l k (by omega) h1
    rw [h (by omega)] at e; cases e
  · omega
/-- Bytes behind the row, as an operation. -/
theorem append_bw {ops : Array Oper} {rest : List Oper} {o : Oper} {a : Act} {Q : Exit → Act → World → Prop} (hgd : o.guard = none) (s y : Operand)
    (ho : o.op = .call { callee := .builtin .append, args := #[s, y], argTypes := #[42, 42] })
    (B : Nat) (W : World) (v : Value) (l : List UInt8) (hw : Bw W B v l) (hB : B ≤ W.heap.size) (g m c : Nat) (x : List UInt8) (hm : x.length = m) (h0 : 0 < m) (hx : ∀ j (hj : j < x.length), W.cell? ⟨g, j, none⟩ = some (.int .u8 (x[j].toNat : Int))) (hl : l.length + m ≤ 1000000000)
    (hs : a.eval s = v) (hy : a.eval y = .slice (some ⟨g, 0, none⟩) m c)
    (h : ∀ v' w', Own w' B v' (l ++ x) → W.grownBy w' v.ownBlock → wpList Try.prog ops Q rest (a.put o.dst v') w') : wpList Try.prog ops Q (o :: rest) a W := by
  obtain ⟨v', w', hr, h2, h3, _⟩ := run_append_bw W o.type B v l hw hB g m c x hm h0 hx hl
  refine wpList_plain hgd fun K hK => ?_
  unfold Oper.wp execOp
  simp only [ho, resolve, invoke, builtin, Sem.run_bind, Sem.run_pure, Result.andThen_ok, List.map_toArray, List.map_cons, List.map_nil, hs, hy, hr]
  exact hK _ _ (h v' w' h2 h3)
end Go.Proofs.Ytiicmakeoidiaaa
