
/-
  Layer 8 (head): the program headers of a file.
-/
import Derived.Test.YtibfiikjelmhmaaDoorHdC
set_option linter.unusedVariables false
namespace Go.Proofs.YtibfiikjelmhmaaDoor
open Go.RowKit Go.PlainAid
theorem flatH_set (L : List Ph) (i : Nat) (hi : i < L.length) (e : Ph) : (flatH L).take (i * 7) ++ e.cells ++ (flatH L).drop (i * 7 + 7) = flatH (L.set i e) := by
  have h1 : L = L.take i ++ L[i] :: L.drop (i + 1) := by rw [List.getElem_cons_drop hi, List.take_append_drop]
  have h2 : L.set i e = L.take i ++ e :: L.drop (i + 1) := by
    rw [List.set_eq_take_append_cons_drop, if_pos hi]
  have e1 : ∀ (X Y : List Ph) (y : Ph), flatH (X ++ y :: Y) = flatH X ++ (y.cells ++ flatH Y) := fun X Y y => by rw [flatH_app]; rfl
  have hl : (flatH (L.take i)).length = i * 7 := by rw [flatH_len, List.length_take, Nat.min_eq_left (by omega)]
  rw [h2, e1]
  conv => lhs; rw [h1, e1]
  rw [← hl, List.take_left, List.drop_length_add_append, show (7 : Nat) = L[i].cells.length from rfl, List.drop_left]
  simp
/-- A whole program header is stored into a row that is known. -/
theorem store_ph {ops : Array Oper} {rest : List Oper} {o : Oper} {a : Act} {Q : Exit → Act → World → Prop} {w : World} (hgd : o.guard = none) (x y : Operand) (ho : o.op = .store 28 x y)
    (g i : Nat) (L : List Ph) (e : Ph) (hg : w.heap[g]? = some (.cells (flatH L).toArray 28 (0, 0))) (hi : i < L.length) (hx : a.eval x = .pointer (some ⟨g, i * 7, none⟩)) (hy : a.eval y = .agg e.cells.toArray)
    (h : ∀ w', w'.heap[g]? = some (.cells (flatH (L.set i e)).toArray 28 (0, 0)) → w.grownBy w' (some g) → wpList Tryd.prog ops Q rest (a.put o.dst undef) w') : wpList Tryd.prog ops Q (o :: rest) a w := by
  have hlen : i * 7 + 7 ≤ (flatH L).length := by rw [flatH_len]; omega
  have hst := run_storeCells_at Tryd.prog g (i * 7) 28 e.cells 0 (flatH L).toArray w hg (by show i * 7 + 0 + 7 ≤ _; simpa using hlen) (fun v hv => e.one v hv)
  have hr : (Instr.storeAt 28 (.pointer (some ⟨g, i * 7, none⟩)) (.agg e.cells.toArray)).run Tryd.prog w = .ok () (w.setRow g (flatH (L.set i e)).toArray) := by
    have hsz : ∀ w, (Go.sizeOf 28).run Tryd.prog w = .ok 7 w := Tryd.sizeOf28
    have hcl : e.cells.length = 7 := rfl
    simp only [Nat.add_zero, hcl] at hst
    simp only [Instr.storeAt, Instr.sureAddr, Sem.run_bind, Sem.run_pure, Result.andThen_ok, storeVar, hsz, Value.cells, List.size_toArray, hcl]
    rw [flatH_set L i hi e] at hst
    simpa using hst
  refine wpList_plain hgd fun _ hK => ?_
  unfold Oper.wp execOp
  simp only [ho, hx, hy, Sem.run_bind, Sem.run_pure, Result.andThen_ok, hr]
  exact hK _ _ (h _ (setRow_heap w g _ _ _ _ hg) ⟨rfl, rfl, rfl, by simp, fun k _ hk => setRow_other w g k _ (fun e => hk (by rw [e]))⟩)
theorem made_phs (n : Nat) : (madeCells (Value.cells (.agg noPh.cells.toArray)) (n * 7)).toList = flatH (List.replicate n noPh) := by
  have hm : ∀ (zc : Array Value) (N : Nat), (madeCells zc N).toList = (List.range N).map (fun i => zc[i % zc.size]!) := fun zc N => by unfold madeCells; simp
  rw [hm]
  apply List.ext_getElem?
  intro j
  by_cases hj : j < n * 7
  · have h1 : j / 7 < n := by omega
    have h2 : j % 7 < 7 := by omega
    have h3 : j = (j / 7) * 7 + j % 7 := by omega
    have e : (flatH (List.replicate n noPh))[j]? = noPh.cells[j % 7]? := by
      rw [h3, flatH_get _ (j / 7) (by simpa using h1) (j % 7) h2, ← h3]
      simp
    rw [List.getElem?_map, List.getElem?_range hj, e, List.getElem?_eq_getElem (by exact h2)]
    show some ((noPh.cells.toArray)[j % 7]!) = _
    rw [getElem!_pos _ _ (by exact h2)]
    rfl
  · rw [List.getElem?_eq_none (by simpa using hj), List.getElem?_eq_none (by rw [flatH_len]; simpa using hj)]
theorem OwnH.of_block {w : World} {B g : Nat} {L : List Ph} (hg : w.heap[g]? = some (.cells (flatH L).toArray 28 (0, 0))) (hB : B ≤ g) (hL : L.length ≤ 1000) : OwnH w B (.slice (some ⟨g, 0, none⟩) L.length L.length) L := by
  unfold OwnH
  refine ⟨by rw [flatH_len], .inr ⟨g, L.length, (flatH L).toArray, rfl, hB, hg, Nat.le_refl _, by unfold maxLen; omega, by simp [flatH_len], ?_⟩⟩
  rw [List.take_of_length_le (by simp [flatH_len])]
theorem OwnH.block {w : World} {B g n : Nat} {L : List Ph} (h : w.ownsRow B 28 7 (.slice (some ⟨g, 0, none⟩) n n) n (flatH L)) (hn : L.length = n) : w.heap[g]? = some (.cells (flatH L).toArray 28 (0, 0)) := by
  rcases h.2 with ⟨e, _⟩ | ⟨g', cap', cur, e, _, hg, _, _, hc, ht⟩
  · cases e
  · injection e with e1 e2 e3
    injection e1 with e1
    injection e1 with e1
    subst e1 e3
    rw [hg]
    have : cur.toList = flatH L := by rw [← ht, List.take_of_length_le (by simp [hc])]
    rw [← this]
theorem make_phs {ops : Array Oper} {rest : List Oper} {o : Oper} {a : Act} {Q : Exit → Act → World → Prop} {w : World} (hgd : o.guard = none) (l c : Operand) (ho : o.op = Op.makeSlice 24 l c)
    (n : Nat) (hn : n ≤ 1000) (hl : a.eval l = .int .u64 (n : Int)) (hc : a.eval c = .int .u64 (n : Int))
    (hK : ∀ w', w'.heap[w.heap.size]? = some (.cells (flatH (List.replicate n noPh)).toArray 28 (0, 0)) → Below w.heap.size w w' → wpList Tryd.prog ops Q rest (a.put o.dst (.slice (some ⟨w.heap.size, 0, none⟩) n n)) w') : wpList Tryd.prog ops Q (o :: rest) a w := by
  obtain ⟨i, hi, hz0, hz1, hz2⟩ := info_parts infoH
  refine wpList_make_full (P := Tryd.prog) w hgd l c 24 ho w.heap.size 28 i _ 7 Tryd.underlying24 hi hz0 hz1 .u64 .u64 n n n hl hc rfl rfl (by rw [hz2]; omega) (by unfold maxLen; omega) (Nat.le_refl _) ?_
  intro w' h1 h2
  rw [made_phs] at h1
  exact hK w' (OwnH.block h1 (by simp)) ((Below.refl _ w).grown h2 (Nat.le_refl _) (by simp))
/-- What Table answers. -/
def TableIs (w' : World) (B : Nat) (o : Except Nat (List Ph)) (e : Ending) : Prop :=
  match o with
  | .error n => e = .returned (.tuple #[.slice none 0 0, .int .i64 n])
  | .ok ps => ∃ v, e = .returned (.tuple #[v, .int .i64 0]) ∧ OwnH w' B v ps
theorem Arg.below' {w w' : World} {v : Value} {l : List UInt8} (h : Arg w v l) (hb : Below w.heap.size w w') : Arg w' v l := h.below hb rfl
theorem tab_next (l : List UInt8) (p m i : Nat) (hi : i < m) : ((tabFrom l p i) ++ List.replicate (m - i) noPh).set i (phAt l (p + i * 56)) = (tabFrom l p (i + 1)) ++ List.replicate (m - (i + 1)) noPh := by
  have hl : (tabFrom l p i).length = i := by simp [tabFrom]
  rw [show m - i = (m - (i + 1)) + 1 by omega, List.replicate_succ, List.set_append_right _ _ (by omega), hl, Nat.sub_self, List.set_cons_zero]
  have e : tabFrom l p (i + 1) = tabFrom l p i ++ [phAt l (p + i * 56)] := by unfold tabFrom; rw [List.range_succ, List.map_append]; rfl
  rw [e, List.append_assoc]
  rfl
theorem grown_below {w w0 w1 : World} {g : Nat} (hg : w.heap.size ≤ g) (h0 : Below w.heap.size w w0) (h : w0.grownBy w1 (some g)) : Below w.heap.size w w1 :=
  h0.grown h h0.size (fun k hk => by injection hk with hk; omega)
end Go.Proofs.YtibfiikjelmhmaaDoor
