
/-
  Layer 18 (conf): a configuration in memory, by its lengths and by its parts.
-/
import Derived.Test.YtmcefflgbliehaaDoorCfJ
set_option linter.unusedVariables false
namespace Go.Proofs.YtmcefflgbliehaaDoor
open Go.RowKit Go.PlainAid Go.Sort
/-- Both slices of a configuration, by its lengths. -/
theorem CfIs.forms {w : World} {dv sv : Value} {F : Cf} (h : CfIs w dv sv F) : ∃ da dc sa sc, dv = .slice da F.dirs.length dc ∧ sv = .slice sa F.secs.length sc := by
  obtain ⟨h1, ss, h2, h3⟩ := h
  obtain ⟨da, dc, rfl⟩ := h1.form
  obtain ⟨sa, sc, rfl⟩ := h3.form
  have : ss.length = F.secs.length := by rw [← h2, List.length_map]
  rw [this]
  exact ⟨_, _, _, _, rfl, rfl⟩
/-- One part of a configuration, in memory. -/
theorem CfIs.sec {w : World} {dv sv : Value} {F : Cf} (h : CfIs w dv sv F) (i : Nat) (hi : i < F.secs.length) : ∃ g o cap a n c, sv = .slice (some ⟨g, o, none⟩) F.secs.length cap ∧ cap ≤ 9223372036854775807 ∧ F.secs.length ≤ cap ∧
    ∀ W, Below w.heap.size w W → W.cell? ⟨g, o + i * 2, none⟩ = some (.string (tx F.secs[i].name)) ∧ W.cell? ⟨g, o + i * 2 + 1, none⟩ = some (.slice a n c) ∧ ArgP W (.slice a n c) F.secs[i].props := by
  obtain ⟨_, ss, h2, h3⟩ := h
  have hl : ss.length = F.secs.length := by rw [← h2, List.length_map]
  have hi2 : i < ss.length := by omega
  have hs : ss[i].sc = F.secs[i] := by simp [← h2]
  obtain ⟨sa, sc, rfl⟩ := h3.form
  obtain ⟨g, o, rfl, q1, q2, q3, e0, e1⟩ := h3.at i hi2
  have hp := h3.2.1 ss[i] (List.getElem_mem hi2)
  obtain ⟨a, c, hf⟩ := hp.form
  refine ⟨g, o, sc, a, ss[i].props.length, c, by rw [hl], q2, by omega, fun W hW => ?_⟩
  rw [← hs]
  refine ⟨(hW.cell (p := ⟨g, _, none⟩) q3).trans e0, ?_, ?_⟩
  · rw [hW.cell (p := ⟨g, _, none⟩) q3, e1, hf]
  · have := hp.below hW
    rwa [hf] at this
end Go.Proofs.YtmcefflgbliehaaDoor
