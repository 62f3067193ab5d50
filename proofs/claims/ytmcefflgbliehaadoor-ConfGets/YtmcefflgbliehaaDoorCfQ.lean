
/-
  Layer 18 (conf): a part that came in by value.
-/
import Derived.Test.YtmcefflgbliehaaDoorCfP
import Derived.Deep.MidRow
import Derived.Deep.Slices
import Derived.Lib.SmallJoins
import Derived.ChangeSlices
import Derived.ProofKit
import Derived.OpenShut
set_option linter.unusedVariables false
namespace Go.Proofs.YtmcefflgbliehaaDoor
open Go.RowKit Go.PlainAid Go.ChangeShapes Go.WideShapes
theorem cells3 : Tryd.prog.cellsOf 60 = 3 := by kernel_rfl
theorem cells2 : Tryd.prog.cellsOf 38 = 2 := by kernel_rfl
theorem cellsS : Tryd.prog.cellsOf 9 = 1 := by kernel_rfl
theorem cellsI : Tryd.prog.cellsOf 3 = 1 := by kernel_rfl
theorem cellsL : Tryd.prog.cellsOf 22 = 1 := by kernel_rfl
theorem three {l : List Value} (h : l.length = 3) : ∃ a b c, l = [a, b, c] := by
  match l, h with
  | [a, b, c], _ => exact ⟨a, b, c, rfl⟩
theorem two' {l : List Value} (h : l.length = 2) : ∃ a b, l = [a, b] := by
  match l, h with
  | [a, b], _ => exact ⟨a, b, rfl⟩
theorem list_of {α : Type} {P : Nat → α → Prop} : ∀ (n : Nat), (∀ i, i < n → ∃ x, P i x) → ∃ L : List α, L.length = n ∧ ∀ i (h : i < L.length), P i L[i]
  | 0, _ => ⟨[], rfl, fun i h => by simp at h⟩
  | n + 1, h => by
    obtain ⟨L, hL, hP⟩ := list_of n (fun i hi => h i (by omega))
    obtain ⟨x, hx⟩ := h n (by omega)
    refine ⟨L ++ [x], by simp [hL], fun i hi => ?_⟩
    by_cases hlt : i < L.length
    · rw [List.getElem_append_left hlt]; exact hP i hlt
    · have : i = L.length := by simp at hi; omega
      subst this
      rw [List.getElem_append_right (by omega)]
      simpa [hL] using hx
/-- A slice of properties that came in: it reads, if there are not too many. -/
def IsPs (W : World) (v : Value) : Prop := ∃ a len cap, v = .slice a len cap ∧ len ≤ cap ∧ cap ≤ maxLen ∧ (len ≤ 100000 → ∃ l : List Pr, l.length = len ∧ ArgP W v l)
section
variable {H : Type} {enc : TypeId × Value → H}
theorem pr_of {W : World} {cs : List Value} {x : DataW H × List MemPlace} {fuel : Nat} (h2 : DataW.trod enc Tryd.prog W 0 (fun _ => true) true fuel 60 cs = some x) : ∃ n : Pr, cs = n.cells := by
  obtain ⟨xs, n, _, rfl, hlen, hl4, hf⟩ := DataW.trod_struct Tryd.underlying60 h2
  rw [cells3] at hlen
  obtain ⟨v0, v1, v2, rfl⟩ := three hlen
  match xs, hl4 with
  | [y0, y1, y2], _ =>
    have g0 : DataW.trod enc Tryd.prog W 0 (fun _ => true) true n 9 [v0] = some y0 := by have := hf 0 _ rfl; simpa [cellsS] using this
    have g1 : DataW.trod enc Tryd.prog W 0 (fun _ => true) true n 9 [v1] = some y1 := by have := hf 1 _ rfl; simpa [cellsS] using this
    have g2 : DataW.trod enc Tryd.prog W 0 (fun _ => true) true n 3 [v2] = some y2 := by have := hf 2 _ rfl; simpa [cellsS, cellsI] using this
    obtain ⟨s0, q0, _, _⟩ := DataW.trod_string Tryd.underlying9 g0
    obtain ⟨s1, q1, _, _⟩ := DataW.trod_string Tryd.underlying9 g1
    obtain ⟨k2, q2, _, _⟩ := DataW.trod_int Tryd.underlying3 g2
    simp only [List.cons.injEq, and_true] at q0 q1 q2
    subst q0 q1 q2
    refine ⟨⟨s0.data.toList, s1.data.toList, k2⟩, ?_⟩
    simp only [Pr.cells, tx_data]
theorem ps_of {W : World} {v : Value} {x : DataW H × List MemPlace} {fuel : Nat} (hf : DataW.trod enc Tryd.prog W 0 (fun _ => true) true fuel 22 [v] = some x) : IsPs W v := by
  rcases Go.Deep.open_slice Tryd.underlying22 hf with ⟨hcs, _⟩ | ⟨a, l, c, m, n, D, Pl, hcs, _, hl, hm, hmm, _, hx⟩
  · simp only [List.cons.injEq, and_true] at hcs
    exact ⟨none, 0, 0, hcs, by omega, by simp, fun _ => ⟨[], rfl, by rw [hcs]; exact ArgP.nilA W⟩⟩
  · simp only [List.cons.injEq, and_true] at hcs
    refine ⟨some a, l, c, hcs, hl, hm, fun hbig => ?_⟩
    subst hcs
    by_cases h0 : l = 0
    · subst h0
      exact ⟨[], rfl, by simp, .inl ⟨rfl, _, _, rfl⟩⟩
    · obtain ⟨y, o, spot⟩ := a
      have hread : ∀ i, i < l → ∃ (f : Pr) (cs' : List Value), cs' = f.cells ∧ ∀ j, j < 3 → W.cell? (((⟨y, o, spot⟩ : Addr).add (i * 3)).add j) = cs'[j]? := by
        intro i hi
        obtain ⟨cs', h1, h2⟩ := hx i (by rw [hmm]; simp; omega)
        rw [cells3] at h1
        obtain ⟨_, hlen, hcell⟩ := World.cells?_some h1
        obtain ⟨f, e⟩ := pr_of h2
        exact ⟨f, cs', e, fun j hj => hcell j hj⟩
      have hspot : spot = none := by
        obtain ⟨f, cs', e, hc⟩ := hread 0 (by omega)
        have := hc 0 (by omega)
        rw [e] at this
        simpa [Addr.add] using World.cell?_spot this
      subst hspot
      obtain ⟨L, hL, hP⟩ := list_of (P := fun i (f : Pr) => ∀ j, j < 3 → W.cell? ⟨y, o + i * 3 + j, none⟩ = f.cells[j]?) l (fun i hi => by
        obtain ⟨f, cs', e, hc⟩ := hread i hi
        subst e
        refine ⟨f, fun j hj => ?_⟩
        have := hc j hj
        rw [Addr.add_mid, Addr.add_mid] at this
        exact this)
      have hy : y < W.heap.size := by
        have h1 := hP 0 (by omega) 0 (by omega)
        exact World.block_lt_of_cell? _ _ (h1.trans rfl)
      subst hL
      exact ⟨L, rfl, hbig, .inr ⟨y, o, c, rfl, hl, hm, hy, hP⟩⟩
theorem opAgg_of {W : World} {cs : Array Value} {d : DataW H} {p : List MemPlace}
    (h : DataW.Trod enc Tryd.prog W 0 (fun _ => true) true 38 (.agg cs) d p) : ∃ (x : ByteArray) (vd : Value), cs = #[.string x, vd] ∧ IsPs W vd ∧ True := by
  obtain ⟨fuel, h2⟩ := h
  have h2 : DataW.trod enc Tryd.prog W 0 (fun _ => true) true fuel 38 cs.toList = some (d, p) := h2
  obtain ⟨xs, n, _, _, hlen, hl4, hf⟩ := DataW.trod_struct Tryd.underlying38 h2
  rw [cells2] at hlen
  obtain ⟨v0, v1, hcs⟩ := two' hlen
  rw [hcs] at hf
  match xs, hl4 with
  | [y0, y1], _ =>
    have g0 : DataW.trod enc Tryd.prog W 0 (fun _ => true) true n 9 [v0] = some y0 := by have := hf 0 _ rfl; simpa [cellsS] using this
    have g1 : DataW.trod enc Tryd.prog W 0 (fun _ => true) true n 22 [v1] = some y1 := by have := hf 1 _ rfl; simpa [cellsS, cellsL] using this
    obtain ⟨s0, q0, _, _⟩ := DataW.trod_string Tryd.underlying9 g0
    simp only [List.cons.injEq, and_true] at q0
    subst q0
    refine ⟨s0, v1, ?_, ps_of g1, trivial⟩
    apply Array.toList_inj.1
    rw [hcs]
end
end Go.Proofs.YtmcefflgbliehaaDoor
