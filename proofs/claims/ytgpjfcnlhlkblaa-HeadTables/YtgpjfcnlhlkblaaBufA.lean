
/-
  What a buffer of package le holds (Bf), and the contracts of its methods that lay bytes down: New, put, Put16, Put32, Put64, Len.
-/
import Derived.Test.YtgpjfcnlhlkblaaOwnZ
import Derived.Maps.AppendAt
import Derived.Deep.AppendLies
import Derived.BigQuiet
set_option linter.unusedVariables false
namespace Go.Proofs.Ytgpjfcnlhlkblaa
open Go.RowKit Go.PlainAid
/-- Block R is a buffer in which l is laid down; o is the block of its bytes; both are among those from B on. -/
structure Bf (w : World) (B R : Nat) (o : Option Nat) (l : List UInt8) : Prop where
  lt : R < w.heap.size
  base : B ≤ R
  row : ∃ v, w.cell? ⟨R, 0, none⟩ = some v ∧ Own w B v l ∧ v.ownBlock = o
  far : o ≠ some R
  soft : w.frozen? ⟨R, 0, none⟩ = false
/-- w' is w but for block R, block o and new blocks. -/
structure Gr (w w' : World) (R : Nat) (o : Option Nat) : Prop where
  os : w'.os = w.os
  tape : w'.tape = w.tape
  output : w'.output = w.output
  size : w.heap.size ≤ w'.heap.size
  block : ∀ k, k < w.heap.size → k ≠ R → some k ≠ o → w'.heap[k]? = w.heap[k]?
/-- The bytes' block stays, or is a new one. -/
def Nx (w : World) (o o' : Option Nat) : Prop := o' = o ∨ ∃ k, o' = some k ∧ w.heap.size ≤ k
theorem Gr.refl (w : World) (R : Nat) (o : Option Nat) : Gr w w R o := ⟨rfl, rfl, rfl, Nat.le_refl _, fun _ _ _ _ => rfl⟩
theorem Nx.refl (w : World) (o : Option Nat) : Nx w o o := .inl rfl
theorem Gr.trans {a b c : World} {R : Nat} {o o' : Option Nat} (h : Gr a b R o) (hn : Nx a o o') (k : Gr b c R o') : Gr a c R o :=
  ⟨k.os.trans h.os, k.tape.trans h.tape, k.output.trans h.output, Nat.le_trans h.size k.size, fun j hj hR ho => by
    rw [k.block j (Nat.lt_of_lt_of_le hj h.size) hR ?_, h.block j hj hR ho]
    rcases hn with rfl | ⟨q, rfl, hq⟩
    · exact ho
    · intro e; have := Option.some.inj e; omega⟩
theorem Nx.trans {a b : World} {o o' o2 : Option Nat} (h : Nx a o o') (hs : a.heap.size ≤ b.heap.size) (k : Nx b o' o2) : Nx a o o2 := by
  rcases k with rfl | ⟨q, rfl, hq⟩
  · exact h
  · exact .inr ⟨q, rfl, Nat.le_trans hs hq⟩
theorem Gr.below {w w' : World} {B R : Nat} {o : Option Nat} (h : Gr w w' R o) (hR : B ≤ R) (ho : ∀ k, o = some k → B ≤ k) (hB : B ≤ w.heap.size) : Below B w w' :=
  ⟨h.os, h.tape, h.output, h.size, fun k hk => h.block k (Nat.lt_of_lt_of_le hk hB) (by omega) (fun e => by have := ho k e.symm; omega)⟩
theorem Bf.own_ge {w : World} {B R : Nat} {o : Option Nat} {l : List UInt8} (h : Bf w B R o l) : ∀ k, o = some k → B ≤ k ∧ k < w.heap.size := by
  obtain ⟨v, _, hv, rfl⟩ := h.row
  exact hv.base
/-- A row that is owned stays where only the buffer's blocks have turned. -/
theorem Own.gr {w w' : World} {B R : Nat} {o : Option Nat} {v : Value} {l : List UInt8} (h : Own w B v l) (g : Gr w w' R o) (h1 : v.ownBlock ≠ some R) (h2 : v.ownBlock = none ∨ v.ownBlock ≠ o) : Own w' B v l := by
  unfold Own at h ⊢
  refine ⟨h.1, ?_⟩
  rcases h.2 with hn | ⟨k, cap, cur, rfl, hB, hg, rest⟩
  · exact .inl hn
  · refine .inr ⟨k, cap, cur, rfl, hB, ?_, rest⟩
    rw [g.block k (Array.getElem?_eq_some_iff.1 hg).1 (fun e => h1 (by simp [Value.ownBlock, e])) (by simpa [Value.ownBlock] using h2)]; exact hg
/-- The step of every method: a new value, owned, is stored into the buffer's cell. -/
theorem Bf.store {w w1 : World} {B R : Nat} {o : Option Nat} {l l' : List UInt8} (h : Bf w B R o l) (hB : B ≤ w.heap.size) {v v' : Value} (hv : w.cell? ⟨R, 0, none⟩ = some v) (ho : v.ownBlock = o)
    (hw : ∀ k, k < w.heap.size → some k ≠ o → w1.heap[k]? = w.heap[k]?) (hsz : w.heap.size ≤ w1.heap.size) (hos : w1.os = w.os) (htp : w1.tape = w.tape) (hop : w1.output = w.output)
    (hown : Own w1 B v' l') (hnx : Nx w o v'.ownBlock) :
    Bf (w1.setCell ⟨R, 0, none⟩ v') B R v'.ownBlock l' ∧ Gr w (w1.setCell ⟨R, 0, none⟩ v') R o ∧ Nx w o v'.ownBlock := by
  have hRo : some R ≠ o := fun e => h.far e.symm
  have hbR : w1.heap[R]? = w.heap[R]? := hw R h.lt hRo
  have hc1 : w1.cell? ⟨R, 0, none⟩ = some v := by rw [World.cell?_of_block (a := ⟨R, 0, none⟩) hbR]; exact hv
  have hne : v'.ownBlock ≠ some R := by
    rcases hnx with e | ⟨k, e, hk⟩
    · rw [e]; exact h.far
    · rw [e]; intro e2; have := Option.some.inj e2; have := h.lt; omega
  refine ⟨⟨by simpa using Nat.lt_of_lt_of_le h.lt hsz, h.base, ⟨v', World.cell?_setCell_same _ _ _ hc1, ?_, rfl⟩, hne, ?_⟩, ⟨hos, htp, hop, by simpa using hsz, ?_⟩, hnx⟩
  · unfold Own at hown ⊢
    refine ⟨hown.1, ?_⟩
    rcases hown.2 with hn | ⟨k, cap, cur, rfl, hB', hg, rest⟩
    · exact .inl hn
    · refine .inr ⟨k, cap, cur, rfl, hB', ?_, rest⟩
      have hkR : k ≠ R := fun e => hne (by simp [Value.ownBlock, e])
      simp only [World.setCell, Array.getElem?_modify]
      rw [if_neg (fun e => hkR e.symm)]; exact hg
  · rw [World.frozen?_setCell, World.frozen?_of_block (a := ⟨R, 0, none⟩) hbR]; exact h.soft
  · intro k hk hkR hko
    simp only [World.setCell, Array.getElem?_modify]
    rw [if_neg (fun e => hkR e.symm)]; exact hw k hk hko
end Go.Proofs.Ytgpjfcnlhlkblaa
