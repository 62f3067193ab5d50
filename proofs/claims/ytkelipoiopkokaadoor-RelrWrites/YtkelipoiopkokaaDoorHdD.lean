
/-
  Layer 8 (head): the program headers of a file.
-/
import Derived.Test.YtkelipoiopkokaaDoorHdC
set_option linter.unusedVariables false
namespace Go.Proofs.YtkelipoiopkokaaDoor
open Go.RowKit Go.PlainAid
theorem flatH_set (L : List Ph) (i : Nat) (hi : i < L.length) (e : Ph) : (flatH L).take (i * 7) ++ e.cells ++ (flatH L).drop (i * 7 + 7) = flatH (L.set i e) := by
  have h1 : L = L.take i ++ L[i] :: L.drop (i + 1) := by rw [List.getElem_cons_drop hi, List.take_append_drop]
  have h2 : L.set i e = L.take i ++ e :: L.drop (i + 1) := by
    rw [List.set_eq_take_append_cons_drop, if_pos hi]
  have e1 : ∀ (X Y : List Ph) (y : Ph), flatH (X ++ y :: Y) = flatH X ++ (y.cells ++ flatH Y) := fun X Y y => by rw [flatH_app]; rfl
  have hl : (flatH (L.take i)).length = i * 7 := by rw [flatH_len, List.length_take, Nat.min_eq_left (by omega)]
  rw [h2, e1]
  conv => lhs; rw [h1, e1]
  rw [← hl, List.take_left, List.drop_length_add_append, show (7 : Nat) = L[i].cells.length from rfl, List.drop_left]
  simp
theorem made_phs (n : Nat) : (madeCells (Value.cells (.agg noPh.cells.toArray)) (n * 7)).toList = flatH (List.replicate n noPh) := by
  have hm : ∀ (zc : Array Value) (N : Nat), (madeCells zc N).toList = (List.range N).map (fun i => zc[i % zc.size]!) := fun zc N => by unfold madeCells; simp
  rw [hm]
  apply List.ext_getElem?
  intro j
  by_cases hj : j < n * 7
  · have h1 : j / 7 < n := by omega
    have h2 : j % 7 < 7 := by omega
    have h3 : j = (j / 7) * 7 + j % 7 := by omega
    have e : (flatH (List.replicate n noPh))[j]? = noPh.cells[j % 7]? := by
      rw [h3, flatH_get _ (j / 7) (by simpa using h1) (j % 7) h2, ← h3]
      simp
    rw [List.getElem?_map, List.getElem?_range hj, e, List.getElem?_eq_getElem (by exact h2)]
    show some ((noPh.cells.toArray)[j % 7]!) = _
    rw [getElem!_pos _ _ (by exact h2)]
    rfl
  · rw [List.getElem?_eq_none (by simpa using hj), List.getElem?_eq_none (by rw [flatH_len]; simpa using hj)]
theorem Arg.below' {w w' : World} {v : Value} {l : List UInt8} (h : Arg w v l) (hb : Below w.heap.size w w') : Arg w' v l := h.below hb rfl
theorem tab_next (l : List UInt8) (p m i : Nat) (hi : i < m) : ((tabFrom l p i) ++ List.replicate (m - i) noPh).set i (phAt l (p + i * 56)) = (tabFrom l p (i + 1)) ++ List.replicate (m - (i + 1)) noPh := by
  have hl : (tabFrom l p i).length = i := by simp [tabFrom]
  rw [show m - i = (m - (i + 1)) + 1 by omega, List.replicate_succ, List.set_append_right _ _ (by omega), hl, Nat.sub_self, List.set_cons_zero]
  have e : tabFrom l p (i + 1) = tabFrom l p i ++ [phAt l (p + i * 56)] := by unfold tabFrom; rw [List.range_succ, List.map_append]; rfl
  rw [e, List.append_assoc]
  rfl
theorem grown_below {w w0 w1 : World} {g : Nat} (hg : w.heap.size ≤ g) (h0 : Below w.heap.size w w0) (h : w0.grownBy w1 (some g)) : Below w.heap.size w w1 :=
  h0.grown h h0.size (fun k hk => by injection hk with hk; omega)
end Go.Proofs.YtkelipoiopkokaaDoor
