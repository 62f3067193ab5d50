
/-
  Layer 14 (aps), the reference: rows of numbers; has, take and numbers keep their contracts.
-/
import Derived.Test.YtiicmakeoidiaaaApL
set_option linter.unusedVariables false
namespace Go.Proofs.Ytiicmakeoidiaaa
open Go.RowKit Go.PlainAid
def iv (l : List Int) : List Value := l.map fun n => .int .i64 n
theorem iv_app (l m : List Int) : iv (l ++ m) = iv l ++ iv m := by simp [iv]
theorem iv_one (l : List Int) : ∀ u ∈ iv l, u.oneCell' = true := by
  intro u hu; unfold iv at hu; obtain ⟨c, _, rfl⟩ := List.mem_map.mp hu; rfl
theorem info_i64 : (Try.prog.info? 2).map (fun i => (i.zero, i.size, i.bytes)) = some (some (.int .i64 0), 1, 8) := by kernel_rfl
/-- A row of numbers of the call's own. -/
def OwnI (w : World) (B : Nat) (v : Value) (l : List Int) : Prop := w.ownsRow B 2 1 v l.length (iv l)
theorem OwnI.nil (w : World) (B : Nat) : OwnI w B (.slice none 0 0) [] := World.ownsRow_nil _ _ _ _
theorem OwnI.base {w : World} {B : Nat} {v : Value} {l : List Int} (h : OwnI w B v l) : ∀ k, v.ownBlock = some k → B ≤ k ∧ k < w.heap.size := World.ownsRow.lt h
theorem OwnI.form {w : World} {B : Nat} {v : Value} {l : List Int} (h : OwnI w B v l) : ∃ a cap, v = .slice a l.length cap := by
  unfold OwnI at h
  rcases h.2 with ⟨rfl, hn⟩ | ⟨g, cap, cur, rfl, _⟩
  · exact ⟨none, 0, by rw [hn]⟩
  · exact ⟨_, cap, rfl⟩
theorem OwnI.move {w w' : World} {B : Nat} {v : Value} {l : List Int} (h : OwnI w B v l) (ho : ∀ k, v.ownBlock = some k → w'.heap[k]? = w.heap[k]?) : OwnI w' B v l := by
  unfold OwnI at h ⊢
  refine ⟨h.1, ?_⟩
  rcases h.2 with hn | ⟨k, cap, cur, rfl, hB, hg, rest⟩
  · exact .inl hn
  · refine .inr ⟨k, cap, cur, rfl, hB, ?_, rest⟩
    rw [ho k rfl]; exact hg
theorem OwnI.below {w w' : World} {B : Nat} {v : Value} {l : List Int} (h : OwnI w B v l) (hb : Below w.heap.size w w') : OwnI w' B v l := h.move (fun k hk => hb.block k (h.base k hk).2)
/-- Numbers behind a row that is owned; where they lie is a premise. -/
theorem run_append_is (W : World) (ty : TypeId) (B : Nat) (v : Value) (l : List Int) (h : OwnI W B v l) (hB : B ≤ W.heap.size) (g m c : Nat) (x : List Int) (hm : x.length = m) (hx : IntsAt W g x) (hl : l.length + m ≤ 1000000) :
    ∃ v' w', (Builtin.append_ #[57, 57] ty #[v, .slice (some ⟨g, 0, none⟩) m c]).run Try.prog W = .ok v' w' ∧ OwnI w' B v' (l ++ x) ∧ W.grownBy w' v.ownBlock ∧ (v'.ownBlock = v.ownBlock ∨ v'.ownBlock = some W.heap.size) := by
  obtain ⟨i, hi, hz0, hz1, hz2⟩ := info_parts info_i64
  have hnews : ∀ j u, (iv x)[j]? = some u → W.cell? ((⟨g, 0, none⟩ : Addr).add j) = some u := by
    intro j u hj
    unfold iv at hj
    rw [List.getElem?_map] at hj
    obtain ⟨q, hq, rfl⟩ := Option.map_eq_some_iff.mp hj
    obtain ⟨hlt, hq2⟩ := List.getElem?_eq_some_iff.1 hq
    rw [add_at, Nat.zero_add, hx j hlt, hq2]
  obtain ⟨v', w', hr, k1, k2, k3, k4⟩ := run_append_own_at (P := Try.prog) W B 57 ty 2 i (.int .i64 0) 1 8 Try.underlying57 hi hz0 hz1 hz2 rfl (by decide) v l.length (iv l) h ⟨g, 0, none⟩ m c (iv x) (by simp [iv, hm]) hnews (iv_one x) (by unfold maxLen; omega) (by omega) hB
  refine ⟨v', w', hr, ?_, k2, k4⟩
  unfold OwnI; rw [List.length_append, iv_app, hm]; exact k1
theorem append_is {ops : Array Oper} {rest : List Oper} {o : Oper} {a : Act} {Q : Exit → Act → World → Prop} (hgd : o.guard = none) (s y : Operand)
    (ho : o.op = .call { callee := .builtin .append, args := #[s, y], argTypes := #[57, 57] })
    (B : Nat) (W : World) (v : Value) (l : List Int) (h : OwnI W B v l) (hB : B ≤ W.heap.size) (g m c : Nat) (x : List Int) (hm : x.length = m) (hx : IntsAt W g x) (hl : l.length + m ≤ 1000000) (hs : a.eval s = v) (hy : a.eval y = .slice (some ⟨g, 0, none⟩) m c)
    (hk : ∀ v' w', OwnI w' B v' (l ++ x) → W.grownBy w' v.ownBlock → (v'.ownBlock = v.ownBlock ∨ v'.ownBlock = some W.heap.size) → wpList Try.prog ops Q rest (a.put o.dst v') w') :
    wpList Try.prog ops Q (o :: rest) a W := by
  obtain ⟨v', w', hr, h2, h3, h4⟩ := run_append_is W o.type B v l h hB g m c x hm hx hl
  refine wpList_plain hgd fun K hK => ?_
  unfold Oper.wp execOp
  simp only [ho, resolve, invoke, builtin, Sem.run_bind, Sem.run_pure, Result.andThen_ok, List.map_toArray, List.map_cons, List.map_nil, hs, hy, hr]
  exact hK _ _ (hk v' w' h2 h3 h4)
/-- A row of numbers that can be read, below the block X. -/
def ArgI (w : World) (X : Nat) (v : Value) (l : List Int) : Prop :=
  ∃ a cap, v = .slice a l.length cap ∧ l.length ≤ cap ∧ cap ≤ maxLen ∧ (l = [] ∨ ∃ g o, a = some ⟨g, o, none⟩ ∧ g < X ∧ ∀ j (hj : j < l.length), w.cell? ⟨g, o + j, none⟩ = some (.int .i64 l[j]))
theorem OwnI.arg {w : World} {B : Nat} {v : Value} {l : List Int} (h : OwnI w B v l) : ArgI w w.heap.size v l := by
  have hc := fun g hg => World.ownsRow.cells h (g := g) hg
  have h0 := h
  unfold OwnI at h
  rcases h.2 with ⟨rfl, hn⟩ | ⟨g, cap, cur, rfl, hb, hg, hn, hm, _⟩
  · exact ⟨none, 0, by rw [hn], by omega, by unfold maxLen; omega, .inl (List.length_eq_zero_iff.1 hn)⟩
  · refine ⟨_, cap, rfl, hn, hm, .inr ⟨g, 0, rfl, bk_lt hg, fun j hj => ?_⟩⟩
    have := hc g rfl j (.int .i64 l[j]) (by unfold iv; rw [List.getElem?_map, List.getElem?_eq_getElem hj]; rfl)
    rw [add_at] at this; exact this
theorem ArgI.move {w w' : World} {X : Nat} {v : Value} {l : List Int} (h : ArgI w X v l) (ho : ∀ k, k < X → w'.heap[k]? = w.heap[k]?) : ArgI w' X v l := by
  obtain ⟨a, cap, rfl, h1, h2, h3⟩ := h
  refine ⟨a, cap, rfl, h1, h2, ?_⟩
  rcases h3 with h3 | ⟨g, o, rfl, h4, h5⟩
  · exact .inl h3
  · refine .inr ⟨g, o, rfl, h4, fun j hj => ?_⟩
    rw [World.cell?_of_block (a := ⟨g, o + j, none⟩) (ho g h4)]; exact h5 j hj
theorem ArgI.tail {w : World} {X g o n cap : Nat} {x : Int} {l : List Int} (h : ArgI w X (.slice (some ⟨g, o, none⟩) n cap) (x :: l)) : n = l.length + 1 ∧ l.length + 1 ≤ cap ∧ cap ≤ maxLen ∧ w.cell? ⟨g, o, none⟩ = some (.int .i64 x) ∧ ArgI w X (.slice (some ⟨g, o + 1, none⟩) (n - 1) (cap - 1)) l := by
  obtain ⟨a, cap', e, h1, h2, h3⟩ := h
  injection e with e1 e2 e3
  subst e1 e3
  rcases h3 with h3 | ⟨g', o', e, h4, h5⟩
  · cases h3
  · injection e with e
    injection e with e5 e6
    subst e5 e6
    refine ⟨by simpa using e2, by simpa using h1, h2, (by have := h5 0 (by simp); rw [Nat.add_zero] at this; exact this), _, cap - 1, by rw [e2]; simp, by simp at h1; omega, by omega, .inr ⟨g, o + 1, rfl, h4, fun j hj => ?_⟩⟩
    have := h5 (j + 1) (by simpa using hj)
    rw [List.getElem_cons_succ] at this
    rw [← this, Nat.add_assoc, Nat.add_comm 1 j]
theorem ArgI.nil {w : World} {X : Nat} {a : Option Addr} : ArgI w X (.slice a 0 0) [] := ⟨a, 0, rfl, by simp, by simp, .inl rfl⟩
theorem fb_ref (f b : Int) (h0 : 0 ≤ f) (h1 : f ≤ 15) (hb : b = 1 ∨ b = 2 ∨ b = 4 ∨ b = 8) : ((f.tdiv b).tmod 2 == 1) = fb f b := by
  have h : ∀ k : Fin 16, (((k.val : Int).tdiv 1).tmod 2 == 1) = fb k.val 1 ∧ (((k.val : Int).tdiv 2).tmod 2 == 1) = fb k.val 2 ∧ (((k.val : Int).tdiv 4).tmod 2 == 1) = fb k.val 4 ∧ (((k.val : Int).tdiv 8).tmod 2 == 1) = fb k.val 8 := by decide +kernel
  obtain ⟨k, rfl⟩ := Int.eq_ofNat_of_zero_le h0
  have := h ⟨k, by omega⟩
  rcases hb with rfl | rfl | rfl | rfl
  · exact this.1
  · exact this.2.1
  · exact this.2.2.1
  · exact this.2.2.2
theorem fb_ref2 (f b : Int) (h0 : 0 ≤ f) (h1 : f ≤ 15) (hb : b = 1 ∨ b = 2 ∨ b = 4 ∨ b = 8) : (f / b % 2 == 1) = fb f b := by
  unfold fb
  by_cases c : f / b % 2 = 1
  · rw [decide_eq_true c]; simp [c]
  · rw [decide_eq_false c]; simp [c]
/-- What take answers: the row behind, wherever the row ahead can be read. -/
def TakeIs14 (X : Nat) (v : Value) (N : List Int) (bad : Bool) (e : Ending) : Prop :=
  ∃ v', e = .returned (.tuple #[.agg #[v', .bool (bad || N.isEmpty)], .int .i64 (N.headD 0)]) ∧ ∀ W, ArgI W X v N → ArgI W X v' N.tail
/-- What numbers answers. -/
def NumsIs (w : World) (l : List UInt8) (e : Ending) (w' : World) : Prop := ∃ v, e = .returned (.tuple #[v, .bool (numsZ l).2]) ∧ OwnI w' w.heap.size v (numsZ l).1
theorem OwnI.low {w : World} {B C : Nat} {v : Value} {l : List Int} (h : OwnI w B v l) (hc : C ≤ B) : OwnI w C v l := by
  unfold OwnI at h ⊢
  refine ⟨h.1, ?_⟩
  rcases h.2 with hn | ⟨g, cap, cur, rfl, hB, rest⟩
  · exact .inl hn
  · exact .inr ⟨g, cap, cur, rfl, by omega, rest⟩
end Go.Proofs.Ytiicmakeoidiaaa
