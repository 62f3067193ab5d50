
/-
  Layer 13 (relr): rows of numbers that came in.
-/
import Derived.Test.YtkelipoiopkokaaDoorDoorR
import Derived.Test.YtkelipoiopkokaaDoorRrN
set_option linter.unusedVariables false
namespace Go.Proofs.YtkelipoiopkokaaDoor
open Go.RowKit Go.PlainAid Go.Sort
theorem nilN (w : World) : ArgN w (.slice none 0 0) [] := ⟨fun r hr => by simp at hr, none, 0, rfl, by simp, by simp, .inl ⟨rfl, fun _ => rfl⟩⟩
theorem nilB (w : World) : Arg w (.slice none 0 0) [] := ⟨none, 0, rfl, by simp, by simp, by simp, .inl ⟨rfl, rfl, rfl⟩⟩
theorem IsRow.argN {w : World} {a : Option Addr} {len cap : Nat} {zs : List Int} (h : IsRow .u64 w a len cap zs) : ∃ l : List Nat, l.length = len ∧ ArgN w (.slice a len cap) l := by
  rcases h with ⟨rfl, rfl, rfl, rfl⟩ | ⟨x, rfl, h1, h2, h3, h4, h5⟩
  · exact ⟨[], rfl, nilN w⟩
  · have hw : ∀ i, i < zs.length → 0 ≤ zs.getD i 0 ∧ zs.getD i 0 ≤ 18446744073709551615 := by
      intro i hi
      have e : zs.getD i 0 = zs[i] := by simp [List.getD, List.getElem?_eq_getElem hi]
      rw [e]
      exact wf_u64 (h5 _ (List.getElem_mem hi))
    refine ⟨(List.range len).map fun i => (zs.getD i 0).toNat, by simp, ?_, some x, cap, by simp, by simpa using h1, h2, ?_⟩
    · intro p hp
      obtain ⟨i, hi, rfl⟩ := List.mem_map.1 hp
      rw [List.mem_range] at hi
      have := hw i (by omega)
      omega
    · by_cases h0 : len = 0
      · subst h0
        exact .inl ⟨rfl, fun e => by cases e⟩
      · obtain ⟨g, o, spot⟩ := x
        have hc0 := h4 0 (by omega)
        have hspot : spot = none := by simpa [Addr.add] using World.cell?_spot hc0
        subst hspot
        refine .inr ⟨g, o, rfl, ?_, fun j hj => ?_⟩
        · rw [add_at] at hc0
          exact World.block_lt_of_cell? _ _ hc0
        · have hj2 : j < len := by simpa using hj
          have := h4 j (by omega)
          rw [add_at] at this
          rw [this]
          have := hw j (by omega)
          simp only [List.getElem_map, List.getElem_range]
          congr 2
          omega
end Go.Proofs.YtkelipoiopkokaaDoor
