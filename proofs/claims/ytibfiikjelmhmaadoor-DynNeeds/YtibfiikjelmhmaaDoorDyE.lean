
/-
  Layer 9's reference: the tags that are looked at, as a row of numbers.
-/
import Derived.Test.YtibfiikjelmhmaaDoorDyD
import Derived.Maps.AppendAt
import Derived.Deep.RegionLaw
set_option linter.unusedVariables false
namespace Go.Proofs.YtibfiikjelmhmaaDoor
open Go.RowKit Go.PlainAid Go.Sort
def uv (l : List Nat) : List Value := l.map fun (n : Nat) => Value.int .u64 n
/-- A row of numbers of the call's own. -/
def OwnU (w : World) (B : Nat) (v : Value) (l : List Nat) : Prop := w.ownsRow B 26 1 v l.length (uv l)
theorem OwnU.nil (w : World) (B : Nat) : OwnU w B (.slice none 0 0) [] := World.ownsRow_nil _ _ _ _
/-- A row of numbers that can be read. -/
def ArgU (w : World) (v : Value) (l : List Nat) : Prop :=
  l.length ≤ 65536 ∧ ((v = .slice none 0 0 ∧ l = []) ∨ ∃ g cap, v = .slice (some ⟨g, 0, none⟩) l.length cap ∧ l.length ≤ cap ∧ cap ≤ maxLen ∧ g < w.heap.size ∧
    ∀ j (hj : j < l.length), w.cell? ⟨g, j, none⟩ = some (.int .u64 (l[j] : Nat)))
theorem OwnU.arg {w : World} {B : Nat} {v : Value} {l : List Nat} (h : OwnU w B v l) (hl : l.length ≤ 65536) : ArgU w v l := by
  have hc := fun g hg => World.ownsRow.cells h (g := g) hg
  unfold OwnU at h
  refine ⟨hl, ?_⟩
  rcases h.2 with ⟨rfl, hn⟩ | ⟨g, cap, cur, rfl, hb, hg, hn, hm, _⟩
  · exact .inl ⟨rfl, List.length_eq_zero_iff.1 hn⟩
  · refine .inr ⟨g, cap, rfl, hn, hm, (Array.getElem?_eq_some_iff.1 hg).1, fun j hj => ?_⟩
    have := hc g rfl j (.int .u64 (l[j] : Nat)) (by unfold uv; rw [List.getElem?_map, List.getElem?_eq_getElem hj]; rfl)
    rwa [add_at, Nat.zero_add] at this
theorem ArgU.below {w w' : World} {v : Value} {l : List Nat} (h : ArgU w v l) (hb : Below w.heap.size w w') : ArgU w' v l := by
  refine ⟨h.1, ?_⟩
  rcases h.2 with hn | ⟨g, cap, rfl, h1, h2, h3, h4⟩
  · exact .inl hn
  · exact .inr ⟨g, cap, rfl, h1, h2, Nat.lt_of_lt_of_le h3 hb.size, fun j hj => by rw [hb.cell (p := ⟨g, j, none⟩) h3, h4 j hj]⟩
theorem ArgU.form {w : World} {v : Value} {l : List Nat} (h : ArgU w v l) : ∃ a cap, v = .slice a l.length cap := by
  rcases h.2 with ⟨rfl, rfl⟩ | ⟨g, cap, rfl, _⟩
  · exact ⟨_, _, rfl⟩
  · exact ⟨_, _, rfl⟩
theorem ArgU.at {w : World} {a : Option Addr} {n cap : Nat} {l : List Nat} (h : ArgU w (.slice a n cap) l) (j : Nat) (hj : j < l.length) :
    ∃ g, a = some ⟨g, 0, none⟩ ∧ l.length ≤ cap ∧ cap ≤ 9223372036854775807 ∧ g < w.heap.size ∧ w.cell? ⟨g, j, none⟩ = some (.int .u64 (l[j] : Nat)) := by
  rcases h.2 with ⟨_, rfl⟩ | ⟨g, cap', e, h1, h2, h3, h4⟩
  · simp at hj
  · injection e with e1 e2 e3
    subst e1 e3
    exact ⟨g, rfl, h1, by unfold maxLen at h2; omega, h3, h4 j hj⟩
theorem info_u : (Tryd.prog.info? 26).map (fun i => (i.zero, i.size, i.bytes)) = some (some (.int .u64 0), 1, 8) := by kernel_rfl
theorem uv_one (l : List Nat) : ∀ u ∈ uv l, u.oneCell' = true := fun u hu => by
  obtain ⟨n, _, rfl⟩ := List.mem_map.1 hu; rfl
theorem run_append_u (W : World) (ty : TypeId) (B : Nat) (v : Value) (l : List Nat) (hown : OwnU W B v l) (m : List Nat) (q c : Nat) (hq : ∀ j u, (uv m)[j]? = some u → W.cell? ⟨q, j, none⟩ = some u) (hlen : l.length + m.length ≤ 100000) (hB : B ≤ W.heap.size) :
    ∃ v' w', (Builtin.append_ #[67, 67] ty #[v, .slice (some ⟨q, 0, none⟩) m.length c]).run Tryd.prog W = .ok v' w' ∧ OwnU w' B v' (l ++ m) ∧ W.grownBy w' v.ownBlock ∧ (v'.ownBlock = v.ownBlock ∨ v'.ownBlock = some W.heap.size) := by
  obtain ⟨i, hi, hz0, hz1, hz2⟩ := info_parts info_u
  obtain ⟨v', w', hr, h2, h3, h4, h5⟩ := run_append_own_at (P := Tryd.prog) W B 67 ty 26 i _ 1 8 Tryd.underlying67 hi hz0 hz1 hz2 rfl (by decide) v l.length (uv l) hown ⟨q, 0, none⟩ m.length c (uv m) (by simp [uv])
    (fun j u hj => by rw [add_at, Nat.zero_add]; exact hq j u hj) (uv_one m) (by unfold maxLen; omega) (by omega) hB
  refine ⟨v', w', hr, ?_, h3, h5⟩
  unfold OwnU
  rw [List.length_append]
  simpa [uv] using h2
theorem new_u (W : World) (m : List Nat) : ∀ j u, (uv m)[j]? = some u → (W.alloc (.cells (uv m).toArray 26)).cell? ⟨W.heap.size, j, none⟩ = some u := fun j u h => by
  rw [World.cell?_alloc_at _ _ _ _ (by simp)]; simpa using h
/-- append of some numbers that lie in a new block. -/
theorem append_u {ops : Array Oper} {rest : List Oper} {o : Oper} {a : Act} {Q : Exit → Act → World → Prop} (hgd : o.guard = none) (s x : Operand)
    (ho : o.op = .call { callee := .builtin .append, args := #[s, x], argTypes := #[67, 67] })
    (B : Nat) (wr : World) (v : Value) (l m : List Nat) (hown : OwnU wr B v l) (hs : a.eval s = v)
    (hx : a.eval x = .slice (some ⟨wr.heap.size, 0, none⟩) m.length m.length) (hlen : l.length + m.length ≤ 100000) (hB : B ≤ wr.heap.size)
    (h : ∀ v' w', OwnU w' B v' (l ++ m) → wr.grownBy w' v.ownBlock → (v'.ownBlock = v.ownBlock ∨ ∃ k, v'.ownBlock = some k ∧ wr.heap.size ≤ k) → wpList Tryd.prog ops Q rest (a.put o.dst v') w') :
    wpList Tryd.prog ops Q (o :: rest) a (wr.alloc (.cells (uv m).toArray 26)) := by
  obtain ⟨v', w', hr, h2, h3, h4⟩ := run_append_u (wr.alloc (.cells (uv m).toArray 26)) o.type B v l (World.ownsRow.alloc hown _) m wr.heap.size m.length (new_u wr m) hlen (by simp; omega)
  refine wpList_plain hgd fun K hK => ?_
  unfold Oper.wp execOp
  simp only [ho, resolve, invoke, builtin, Sem.run_bind, Sem.run_pure, Result.andThen_ok, List.map_toArray, List.map_cons, List.map_nil, hs, hx, hr]
  refine hK _ _ (h v' w' h2 (grown_alloc h3) ?_)
  rcases h4 with e | e
  · exact .inl e
  · exact .inr ⟨_, e, by simp⟩
theorem step_append_u {ops : Array Oper} {o : Oper} {a : Act} {W : World} {K : Act → World → Prop} {Q : Exit → Act → World → Prop} {E : Prop} (hgd : o.guard = none) (s x : Operand)
    (ho : o.op = .call { callee := .builtin .append, args := #[s, x], argTypes := #[67, 67] })
    (B : Nat) (v : Value) (l m : List Nat) (hown : OwnU W B v l) (hs : a.eval s = v) (q c : Nat)
    (hx : a.eval x = .slice (some ⟨q, 0, none⟩) m.length c) (hq : ∀ j u, (uv m)[j]? = some u → W.cell? ⟨q, j, none⟩ = some u) (hlen : l.length + m.length ≤ 100000) (hB : B ≤ W.heap.size)
    (h : ∀ v' w', OwnU w' B v' (l ++ m) → W.grownBy w' v.ownBlock → (v'.ownBlock = v.ownBlock ∨ v'.ownBlock = some W.heap.size) → K (a.put o.dst v') w') :
    if Region.wanted o (yielded ops a.tmps) = true then Oper.wp Tryd.prog o a W K Q else E := by
  have hw : Region.wanted o (yielded ops a.tmps) = true := by simp [Region.wanted, hgd]
  rw [if_pos hw]
  obtain ⟨v', w', hr, h2, h3, h4⟩ := run_append_u W o.type B v l hown m q c hq hlen hB
  unfold Oper.wp execOp
  simp only [ho, resolve, invoke, builtin, Sem.run_bind, Sem.run_pure, Result.andThen_ok, List.map_toArray, List.map_cons, List.map_nil, hs, hx, hr]
  exact h v' w' h2 h3 h4
def single0 : List Nat := [14, 29, 6, 4, 1879047925, 16, 30, 1879048187, 1879048176]
def singleA (i : Nat) : List Nat := single0 ++ (pairsL.take i).flatMap fun e => [e.tag, e.val]
def singleB (i : Nat) : List Nat := singleA 11 ++ [20] ++ (fixedL.take i).map De.tag
/-- The tags that are looked at, but the first one. -/
def singlesL : List Nat := singleB 4
theorem singleA_next {i : Nat} (h : i < 12) : singleA (i + 1) = singleA i ++ [(pairsL[i]'h).tag, (pairsL[i]'h).val] := by
  unfold singleA
  rw [List.take_add_one, List.getElem?_eq_getElem (show i < pairsL.length from h), List.flatMap_append, List.append_assoc]
  rfl
theorem singleB_next {i : Nat} (h : i < 4) : singleB (i + 1) = singleB i ++ [(fixedL[i]'h).tag] := by
  unfold singleB
  rw [List.take_add_one, List.getElem?_eq_getElem (show i < fixedL.length from h), List.map_append, ← List.append_assoc]
  rfl
theorem singleA_len (i : Nat) : (singleA i).length ≤ 33 := by
  unfold singleA
  rw [List.length_append, List.length_flatMap]
  have : ((pairsL.take i).map fun e : De => ([e.tag, e.val] : List Nat).length).sum ≤ 24 := by
    have e : ((pairsL.take i).map fun e : De => ([e.tag, e.val] : List Nat).length) = List.replicate (pairsL.take i).length 2 := by
      rw [List.eq_replicate_iff]
      refine ⟨by simp, fun b hb => ?_⟩
      obtain ⟨x, _, rfl⟩ := List.mem_map.1 hb
      rfl
    rw [e, List.sum_replicate_nat, List.length_take]
    have : pairsL.length = 12 := rfl
    omega
  have h0 : single0.length = 9 := rfl
  omega
theorem singleB_len (i : Nat) : (singleB i).length ≤ 40 := by
  unfold singleB
  have h1 := singleA_len 11
  have h2 : ((fixedL.take i).map De.tag).length ≤ 4 := by rw [List.length_map, List.length_take]; have : fixedL.length = 4 := rfl; omega
  simp only [List.length_append, List.length_cons, List.length_nil]
  omega
theorem OwnU.of_new (w : World) (l : List Nat) (hl : l.length ≤ 1000) : OwnU (w.alloc (.cells (uv l).toArray 26)) w.heap.size (.slice (some ⟨w.heap.size, 0, none⟩) l.length l.length) l := by
  unfold OwnU
  refine ⟨by simp [uv], .inr ⟨w.heap.size, l.length, _, rfl, Nat.le_refl _, heap_alloc_new _ _, Nat.le_refl _, by unfold maxLen; omega, by simp [uv], ?_⟩⟩
  show (uv l).take (l.length * 1) = uv l
  rw [Nat.mul_one, show l.length = (uv l).length by simp [uv], List.take_length]
theorem OwnU.apart {w w' : World} {B : Nat} {b : Option Nat} {v : Value} {l : List Nat} (h : OwnU w B v l) (hb : w.grownBy w' b) (hR : ∀ k, v.ownBlock = some k → b ≠ some k) : OwnU w' B v l := by
  unfold OwnU at h ⊢
  refine ⟨h.1, ?_⟩
  rcases h.2 with hn | ⟨g, cap, cur, rfl, hB, hg, rest⟩
  · exact .inl hn
  · refine .inr ⟨g, cap, cur, rfl, hB, ?_, rest⟩
    rw [hb.block g (Array.getElem?_eq_some_iff.1 hg).1 (fun e => hR g rfl e.symm)]; exact hg
theorem OwnU.stay {w w' : World} {B : Nat} {v : Value} {l : List Nat} (h : OwnU w B v l) (hb : Below w.heap.size w w') : OwnU w' B v l := by
  unfold OwnU at h ⊢
  refine ⟨h.1, ?_⟩
  rcases h.2 with hn | ⟨g, cap, cur, rfl, hB, hg, rest⟩
  · exact .inl hn
  · refine .inr ⟨g, cap, cur, rfl, hB, ?_, rest⟩
    rw [hb.block g (Array.getElem?_eq_some_iff.1 hg).1]; exact hg
theorem ArgD.apart {w w' : World} {b : Option Nat} {g n cap : Nat} {ps : List De} (h : ArgD w (.slice (some ⟨g, 0, none⟩) n cap) ps) (hb : w.grownBy w' b) (hne : b ≠ some g) : ArgD w' (.slice (some ⟨g, 0, none⟩) n cap) ps := by
  refine ⟨h.1, ?_⟩
  rcases h.2 with hn | ⟨g', cap', e, h1, h2, h3, h4⟩
  · exact .inl hn
  · injection e with e1 e2 e3
    injection e1 with e1
    injection e1 with e1
    subst e1 e2 e3
    refine .inr ⟨g, cap, rfl, h1, h2, Nat.lt_of_lt_of_le h3 hb.size, fun j hj k hk => ?_⟩
    rw [World.cell?_of_block (a := ⟨g, j * 2 + k, none⟩) (hb.block g h3 (fun e => hne e.symm))]; exact h4 j hj k hk
/-- One row grows beside another one. -/
structure Uz (w wr : World) (g : Nat) (v : Value) (l : List Nat) (ps : List De) : Prop where
  bel : Below w.heap.size w wr
  own : OwnU wr w.heap.size v l
  arg : ArgD wr (.slice (some ⟨g, 0, none⟩) ps.length ps.length) ps
  lt : g < wr.heap.size
  far : v.ownBlock ≠ some g
theorem Uz.app {w wr w' : World} {g : Nat} {v v' : Value} {l l' : List Nat} {ps : List De} (h : Uz w wr g v l ps) (h1 : OwnU w' w.heap.size v' l') (h2 : wr.grownBy w' v.ownBlock) (h3 : v'.ownBlock = v.ownBlock ∨ ∃ k, v'.ownBlock = some k ∧ wr.heap.size ≤ k) : Uz w w' g v' l' ps :=
  ⟨h.bel.grown h2 h.bel.size (fun k hk => (World.ownsRow.lt h.own k hk).1), h1, h.arg.apart h2 h.far, Nat.lt_of_lt_of_le h.lt h2.size, by
    rcases h3 with e | ⟨k, e, hk⟩
    · rw [e]; exact h.far
    · rw [e]; intro e2; injection e2 with e2; have := h.lt; omega⟩
theorem Uz.below {w wr w' : World} {g : Nat} {v : Value} {l : List Nat} {ps : List De} (h : Uz w wr g v l ps) (hb : Below wr.heap.size wr w') : Uz w w' g v l ps :=
  ⟨h.bel.trans (hb.mono h.bel.size), h.own.stay hb, h.arg.below hb, Nat.lt_of_lt_of_le h.lt hb.size, h.far⟩
end Go.Proofs.YtibfiikjelmhmaaDoor
