
/-
  Layer 8's reference: three rows of headers that grow beside one another, and how reading goes on from a place.
-/
import Derived.Test.YtgpjfcnlhlkblaaHdU
import Derived.Maps.AppendAt
set_option linter.unusedVariables false
namespace Go.Proofs.Ytgpjfcnlhlkblaa
open Go.RowKit Go.PlainAid Go.Sort
theorem run_append_ph (W : World) (ty : TypeId) (B : Nat) (v : Value) (l : List Ph) (hown : OwnH W B v l) (e : Ph) (q : Nat) (hq : ∀ j u, e.cells[j]? = some u → W.cell? ⟨q, j, none⟩ = some u) (hlen : l.length ≤ 100000) (hB : B ≤ W.heap.size) :
    ∃ v' w', (Builtin.append_ #[23, 23] ty #[v, .slice (some ⟨q, 0, none⟩) 1 1]).run Try.prog W = .ok v' w' ∧ OwnH w' B v' (l ++ [e]) ∧ W.grownBy w' v.ownBlock ∧ (v'.ownBlock = v.ownBlock ∨ v'.ownBlock = some W.heap.size) := by
  obtain ⟨i, hi, hz0, hz1, hz2⟩ := info_parts infoH
  obtain ⟨v', w', hr, h2, h3, h4, h5⟩ := run_append_own_at (P := Try.prog) W B 23 ty 32 i _ 7 48 Try.underlying23 hi hz0 hz1 hz2 rfl (by decide) v l.length (flatH l) hown ⟨q, 0, none⟩ 1 1 e.cells rfl
    (fun j u hj => by rw [add_at, Nat.zero_add]; exact hq j u hj) e.one (by unfold maxLen; omega) (by omega) hB
  refine ⟨v', w', hr, ?_, h3, h5⟩
  unfold OwnH
  rw [List.length_append, flatH_app]
  simpa [flatH] using h2
theorem new_ph (W : World) (e : Ph) : ∀ j u, e.cells[j]? = some u → (W.alloc (.cells e.cells.toArray 32)).cell? ⟨W.heap.size, j, none⟩ = some u := fun j u h => by
  rw [World.cell?_alloc_at _ _ _ _ (by simp)]; simpa using h
theorem grown_alloc {wr w' : World} {o : Obj} {b : Option Nat} (h : (wr.alloc o).grownBy w' b) : wr.grownBy w' b :=
  ⟨h.os, h.tape, h.output, Nat.le_trans (by simp) h.size, fun k hk hne => by rw [h.block k (by simp; omega) hne]; exact heap_alloc_old wr _ hk⟩
/-- append of one header, with where the row lies behind it. -/
theorem append_ph_at {ops : Array Oper} {rest : List Oper} {o : Oper} {a : Act} {Q : Exit → Act → World → Prop} (hgd : o.guard = none) (s x : Operand)
    (ho : o.op = .call { callee := .builtin .append, args := #[s, x], argTypes := #[23, 23] })
    (B : Nat) (wr : World) (v : Value) (l : List Ph) (hown : OwnH wr B v l) (e : Ph) (hs : a.eval s = v)
    (q : Nat) (hq : q = wr.heap.size) (hx : a.eval x = .slice (some ⟨q, 0, none⟩) 1 1) (hlen : l.length ≤ 100000) (hB : B ≤ wr.heap.size)
    (h : ∀ v' w', OwnH w' B v' (l ++ [e]) → wr.grownBy w' v.ownBlock → (v'.ownBlock = v.ownBlock ∨ ∃ k, v'.ownBlock = some k ∧ wr.heap.size ≤ k) → wpList Try.prog ops Q rest (a.put o.dst v') w') :
    wpList Try.prog ops Q (o :: rest) a (wr.alloc (.cells e.cells.toArray 32)) := by
  subst hq
  obtain ⟨v', w', hr, h2, h3, h4⟩ := run_append_ph (wr.alloc (.cells e.cells.toArray 32)) o.type B v l (hown.stay ((Below.refl _ _).alloc (Nat.le_refl _) _)) e wr.heap.size (new_ph wr e) hlen (by simp; omega)
  refine wpList_plain hgd fun K hK => ?_
  unfold Oper.wp execOp
  simp only [ho, resolve, invoke, builtin, Sem.run_bind, Sem.run_pure, Result.andThen_ok, List.map_toArray, List.map_cons, List.map_nil, hs, hx, hr]
  refine hK _ _ (h v' w' h2 (grown_alloc h3) ?_)
  rcases h4 with e | e
  · exact .inl e
  · exact .inr ⟨_, e, by simp⟩
/-- The same as a step of a region that draws. -/
theorem step_append_ph {ops : Array Oper} {o : Oper} {a : Act} {W : World} {K : Act → World → Prop} {Q : Exit → Act → World → Prop} {E : Prop} (hgd : o.guard = none) (s x : Operand)
    (ho : o.op = .call { callee := .builtin .append, args := #[s, x], argTypes := #[23, 23] })
    (B : Nat) (v : Value) (l : List Ph) (hown : OwnH W B v l) (e : Ph) (hs : a.eval s = v) (q : Nat)
    (hx : a.eval x = .slice (some ⟨q, 0, none⟩) 1 1) (hq : ∀ j u, e.cells[j]? = some u → W.cell? ⟨q, j, none⟩ = some u) (hlen : l.length ≤ 100000) (hB : B ≤ W.heap.size)
    (h : ∀ v' w', OwnH w' B v' (l ++ [e]) → W.grownBy w' v.ownBlock → (v'.ownBlock = v.ownBlock ∨ v'.ownBlock = some W.heap.size) → K (a.put o.dst v') w') :
    if Region.wanted o (yielded ops a.tmps) = true then Oper.wp Try.prog o a W K Q else E := by
  have hw : Region.wanted o (yielded ops a.tmps) = true := by simp [Region.wanted, hgd]
  rw [if_pos hw]
  obtain ⟨v', w', hr, h2, h3, h4⟩ := run_append_ph W o.type B v l hown e q hq hlen hB
  unfold Oper.wp execOp
  simp only [ho, resolve, invoke, builtin, Sem.run_bind, Sem.run_pure, Result.andThen_ok, List.map_toArray, List.map_cons, List.map_nil, hs, hx, hr]
  exact h v' w' h2 h3 h4
theorem OwnH.apart {w w' : World} {B : Nat} {b : Option Nat} {v : Value} {l : List Ph} (h : OwnH w B v l) (hb : w.grownBy w' b) (hR : ∀ k, v.ownBlock = some k → b ≠ some k) : OwnH w' B v l := by
  unfold OwnH at h ⊢
  refine ⟨h.1, ?_⟩
  rcases h.2 with hn | ⟨g, cap, cur, rfl, hB, hg, rest⟩
  · exact .inl hn
  · refine .inr ⟨g, cap, cur, rfl, hB, ?_, rest⟩
    rw [hb.block g (Array.getElem?_eq_some_iff.1 hg).1 (fun e => hR g rfl e.symm)]; exact hg
theorem OwnH.lt {w : World} {B : Nat} {v : Value} {l : List Ph} (h : OwnH w B v l) : ∀ k, v.ownBlock = some k → B ≤ k ∧ k < w.heap.size := World.ownsRow.lt h
/-- The header that is filled, and three rows beside it. -/
structure Pz (w1 wr : World) (m : Nat) (vL vD vR : Value) (L D R : List Ph) : Prop where
  bel : Below w1.heap.size w1 wr
  hd : wr.heap[w1.heap.size]? = some (.cells (hdCells m vL noPh noPh).toArray 37 (0, 0))
  l : OwnH wr (w1.heap.size + 1) vL L
  d : OwnH wr (w1.heap.size + 1) vD D
  r : OwnH wr (w1.heap.size + 1) vR R
  ld : ∀ k, vL.ownBlock = some k → vD.ownBlock ≠ some k
  lr : ∀ k, vL.ownBlock = some k → vR.ownBlock ≠ some k
  dr : ∀ k, vD.ownBlock = some k → vR.ownBlock ≠ some k
theorem Pz.below {w1 wr w' : World} {m : Nat} {vL vD vR : Value} {L D R : List Ph} (h : Pz w1 wr m vL vD vR L D R) (hb : Below wr.heap.size wr w') : Pz w1 w' m vL vD vR L D R :=
  ⟨h.bel.trans (hb.mono h.bel.size), block_stay h.hd hb, h.l.stay hb, h.d.stay hb, h.r.stay hb, h.ld, h.lr, h.dr⟩
theorem Pz.size {w1 wr : World} {m : Nat} {vL vD vR : Value} {L D R : List Ph} (h : Pz w1 wr m vL vD vR L D R) : w1.heap.size + 1 ≤ wr.heap.size := (Array.getElem?_eq_some_iff.1 h.hd).1
theorem Pz.grown {w1 wr w' : World} {m : Nat} {vL vD vR v : Value} {l L D R : List Ph} (h : Pz w1 wr m vL vD vR L D R) (hv : OwnH wr (w1.heap.size + 1) v l) (hg : wr.grownBy w' v.ownBlock) :
    Below w1.heap.size w1 w' ∧ w'.heap[w1.heap.size]? = some (.cells (hdCells m vL noPh noPh).toArray 37 (0, 0)) := by
  refine ⟨h.bel.grown hg h.bel.size (fun k hk => by have := (hv.lt k hk).1; omega), ?_⟩
  rw [hg.block _ h.size (fun e => by have := (hv.lt _ e.symm).1; omega)]; exact h.hd
theorem Pz.appD {w1 wr w' : World} {m : Nat} {vL vD vR v' : Value} {L D R : List Ph} {e : Ph} (h : Pz w1 wr m vL vD vR L D R) (ho : OwnH w' (w1.heap.size + 1) v' (D ++ [e])) (hg : wr.grownBy w' vD.ownBlock) (hn : v'.ownBlock = vD.ownBlock ∨ ∃ k, v'.ownBlock = some k ∧ wr.heap.size ≤ k) :
    Pz w1 w' m vL v' vR L (D ++ [e]) R := by
  obtain ⟨g1, g2⟩ := h.grown h.d hg
  refine ⟨g1, g2, h.l.apart hg (fun k hk => h.ld k hk), ho, h.r.apart hg (fun k hk e => h.dr k e hk), fun k hk e => ?_, h.lr, fun k hk e => ?_⟩
  · rcases hn with q | ⟨j, q, hj⟩
    · exact h.ld k hk (q ▸ e)
    · have := (h.l.lt k hk).2; rw [q] at e; injection e with e; omega
  · rcases hn with q | ⟨j, q, hj⟩
    · exact h.dr k (q ▸ hk) e
    · have := (h.r.lt k e).2; rw [q] at hk; injection hk with hk; omega
theorem Pz.appR {w1 wr w' : World} {m : Nat} {vL vD vR v' : Value} {L D R : List Ph} {e : Ph} (h : Pz w1 wr m vL vD vR L D R) (ho : OwnH w' (w1.heap.size + 1) v' (R ++ [e])) (hg : wr.grownBy w' vR.ownBlock) (hn : v'.ownBlock = vR.ownBlock ∨ ∃ k, v'.ownBlock = some k ∧ wr.heap.size ≤ k) :
    Pz w1 w' m vL vD v' L D (R ++ [e]) := by
  obtain ⟨g1, g2⟩ := h.grown h.r hg
  refine ⟨g1, g2, h.l.apart hg (fun k hk => h.lr k hk), h.d.apart hg (fun k hk => h.dr k hk), ho, h.ld, fun k hk e => ?_, fun k hk e => ?_⟩
  · rcases hn with q | ⟨j, q, hj⟩
    · exact h.lr k hk (q ▸ e)
    · have := (h.l.lt k hk).2; rw [q] at e; injection e with e; omega
  · rcases hn with q | ⟨j, q, hj⟩
    · exact h.dr k hk (q ▸ e)
    · have := (h.d.lt k hk).2; rw [q] at e; injection e with e; omega
theorem heap_setCell_at (w : World) (g j : Nat) (v : Value) (cur : Array Value) (t : TypeId) (r : Nat × Nat) (hg : w.heap[g]? = some (.cells cur t r)) : (w.setCell ⟨g, j, none⟩ v).heap[g]? = some (.cells (cur.setIfInBounds j v) t r) := by
  obtain ⟨hl, hg2⟩ := Array.getElem?_eq_some_iff.1 hg
  simp [World.setCell, hl, Array.getElem_modify, hg2]
theorem setCell_grown (w : World) (g j : Nat) (v : Value) : w.grownBy (w.setCell ⟨g, j, none⟩ v) (some g) :=
  ⟨rfl, rfl, rfl, by simp [World.setCell], fun k hk hne => by
    simp only [World.setCell, Array.getElem?_modify]
    rw [if_neg (fun e => hne (by rw [e]))]⟩
theorem Pz.appL {w1 wr w' : World} {m : Nat} {vL vD vR v' : Value} {L D R : List Ph} {e : Ph} (h : Pz w1 wr m vL vD vR L D R) (ho : OwnH w' (w1.heap.size + 1) v' (L ++ [e])) (hg : wr.grownBy w' vL.ownBlock) (hn : v'.ownBlock = vL.ownBlock ∨ ∃ k, v'.ownBlock = some k ∧ wr.heap.size ≤ k) :
    Pz w1 (w'.setCell ⟨w1.heap.size, 1, none⟩ v') m v' vD vR (L ++ [e]) D R := by
  obtain ⟨g1, g2⟩ := h.grown h.l hg
  have sg := setCell_grown w' w1.heap.size 1 v'
  have far : ∀ (v : Value) (l : List Ph) (w : World), OwnH w (w1.heap.size + 1) v l → ∀ k, v.ownBlock = some k → some w1.heap.size ≠ some k := fun v l w hv k hk e => by
    injection e with e; have := (hv.lt k hk).1; omega
  refine ⟨grown_below (Nat.le_refl _) g1 sg, heap_setCell_at _ _ _ _ _ _ _ g2, ho.apart sg (far _ _ _ ho), (h.d.apart hg (fun k hk e => h.ld k e hk)).apart sg (far _ _ _ h.d), (h.r.apart hg (fun k hk e => h.lr k e hk)).apart sg (far _ _ _ h.r), fun k hk e => ?_, fun k hk e => ?_, h.dr⟩
  · rcases hn with q | ⟨j, q, hj⟩
    · exact h.ld k (q ▸ hk) e
    · have := (h.d.lt k e).2; rw [q] at hk; injection hk with hk; omega
  · rcases hn with q | ⟨j, q, hj⟩
    · exact h.lr k (q ▸ hk) e
    · have := (h.r.lt k e).2; rw [q] at hk; injection hk with hk; omega
/-- How reading goes on. -/
def goOn (m n : Nat) (L : List Ph) (E : Nat) (D R rest : List Ph) : Except Nat Hd :=
  if loadsFrom n (decide (L = [])) E (ofT rest 1) = true ∧ ¬ (L ++ ofT rest 1 = []) then heads1 m (L ++ ofT rest 1) (D ++ ofT rest 2) (R ++ ofT rest 1685382482) else .error 85
theorem goOn_start (m n : Nat) (all : List Ph) : goOn m n [] 0 [] [] all = headsOf m n all := by
  unfold goOn headsOf loadsOk
  simp only [List.nil_append, decide_true, Bool.and_eq_true, Bool.not_eq_true', decide_eq_false_iff_not]
theorem goOn_end (m n : Nat) (L : List Ph) (E : Nat) (D R : List Ph) : goOn m n L E D R [] = if L = [] then .error 85 else heads1 m L D R := by
  unfold goOn
  simp only [ofT, List.filter_nil, List.append_nil, loadsFrom, true_and]
  by_cases c : L = []
  · rw [if_neg (fun h => h c), if_pos c]
  · rw [if_pos c, if_neg c]
theorem ofT_cons (p : Ph) (t : List Ph) (k : Nat) : ofT (p :: t) k = if p.type = k then p :: ofT t k else ofT t k := by
  unfold ofT; rw [List.filter_cons]
  by_cases c : p.type = k
  · rw [if_pos (by simpa using c), if_pos c]
  · rw [if_neg (by simpa using c), if_neg c]
theorem goOn_load (m n : Nat) (L : List Ph) (E : Nat) (D R : List Ph) (p : Ph) (t : List Ph) (h : p.type = 1) : goOn m n L E D R (p :: t) = if mayB p n E (decide (L = [])) = true then goOn m n (L ++ [p]) (endN p) D R t else .error 85 := by
  have a1 : ofT (p :: t) 1 = p :: ofT t 1 := by rw [ofT_cons, if_pos h]
  have a2 : ofT (p :: t) 2 = ofT t 2 := by rw [ofT_cons, if_neg (by omega)]
  have a3 : ofT (p :: t) 1685382482 = ofT t 1685382482 := by rw [ofT_cons, if_neg (by omega)]
  unfold goOn
  rw [a1, a2, a3, loadsFrom]
  have e1 : decide (L ++ [p] = []) = false := by simp
  rw [e1]
  by_cases c : mayB p n E (decide (L = [])) = true
  · have c' : partOk p n = true ∧ ¬ p.vaddr < E ∧ ¬ (decide (L = []) = true ∧ p.vaddr ≠ 0) := by
      unfold mayB at c
      simp only [Bool.and_eq_true, Bool.not_eq_true', decide_eq_false_iff_not, Bool.and_eq_false_iff, Bool.not_eq_false', decide_eq_true_eq] at c
      refine ⟨c.1.1, c.1.2, fun h => ?_⟩
      rcases c.2 with q | q
      · exact q (by simpa using h.1)
      · exact h.2 q
    rw [if_pos c, if_pos c', List.append_assoc]
    rfl
  · have c' : ¬ (partOk p n = true ∧ ¬ p.vaddr < E ∧ ¬ (decide (L = []) = true ∧ p.vaddr ≠ 0)) := fun h => c (by
      unfold mayB
      simp only [Bool.and_eq_true, Bool.not_eq_true', decide_eq_false_iff_not, Bool.and_eq_false_iff, Bool.not_eq_false', decide_eq_true_eq]
      refine ⟨⟨h.1, h.2.1⟩, ?_⟩
      by_cases q : p.vaddr = 0
      · exact .inr q
      · exact .inl (fun e => h.2.2 ⟨by simpa using e, q⟩))
    rw [if_neg c, if_neg c', if_neg (fun h => by simp at h)]
theorem goOn_dyn (m n : Nat) (L : List Ph) (E : Nat) (D R : List Ph) (p : Ph) (t : List Ph) (h : p.type = 2) : goOn m n L E D R (p :: t) = goOn m n L E (D ++ [p]) R t := by
  have a1 : ofT (p :: t) 1 = ofT t 1 := by rw [ofT_cons, if_neg (by omega)]
  have a2 : ofT (p :: t) 2 = p :: ofT t 2 := by rw [ofT_cons, if_pos h]
  have a3 : ofT (p :: t) 1685382482 = ofT t 1685382482 := by rw [ofT_cons, if_neg (by omega)]
  unfold goOn
  rw [a1, a2, a3, List.append_assoc]
  rfl
theorem goOn_rel (m n : Nat) (L : List Ph) (E : Nat) (D R : List Ph) (p : Ph) (t : List Ph) (h : p.type = 1685382482) : goOn m n L E D R (p :: t) = goOn m n L E D (R ++ [p]) t := by
  have a1 : ofT (p :: t) 1 = ofT t 1 := by rw [ofT_cons, if_neg (by omega)]
  have a2 : ofT (p :: t) 2 = ofT t 2 := by rw [ofT_cons, if_neg (by omega)]
  have a3 : ofT (p :: t) 1685382482 = p :: ofT t 1685382482 := by rw [ofT_cons, if_pos h]
  unfold goOn
  rw [a1, a2, a3, List.append_assoc]
  rfl
theorem goOn_other (m n : Nat) (L : List Ph) (E : Nat) (D R : List Ph) (p : Ph) (t : List Ph) (h1 : p.type ≠ 1) (h2 : p.type ≠ 2) (h3 : p.type ≠ 1685382482) : goOn m n L E D R (p :: t) = goOn m n L E D R t := by
  have a1 : ofT (p :: t) 1 = ofT t 1 := by rw [ofT_cons, if_neg h1]
  have a2 : ofT (p :: t) 2 = ofT t 2 := by rw [ofT_cons, if_neg h2]
  have a3 : ofT (p :: t) 1685382482 = ofT t 1685382482 := by rw [ofT_cons, if_neg h3]
  unfold goOn
  rw [a1, a2, a3]
theorem may_small {p : Ph} {n E : Nat} {f : Bool} (h : mayB p n E f = true) : p.off + p.filesz ≤ n ∧ p.vaddr + p.memsz ≤ 16384 ∧ endN p ≤ 16384 := by
  have h1 := (may_iff p n E f).1 h
  refine ⟨h1.2.2.2.2.2.2.2.1, h1.2.2.2.2.2.2.2.2.2.2, ?_⟩
  unfold endN
  rw [if_pos (by omega)]
  omega
end Go.Proofs.Ytgpjfcnlhlkblaa
