
/-
  How many bytes a row of bytes that came in may have: within the form's own reach.
-/
import Derived.Test.YtdclofiifcpkkaaProg
import Derived.WalkKit
import Derived.ProofKit
import Derived.SizedLaws
import Derived.PlainAid
import Derived.OpenShut
import Derived.ChangeOld
import Derived.ChangeSlices
set_option linter.unusedVariables false
namespace Go.Proofs.Ytdclofiifcpkkaa
open Go.RowKit Go.PlainAid Go.ChangeShapes Go.WideShapes
section
variable {H : Type} {enc : TypeId × Value → H}
theorem lits_lenS (k : IntKind) (zs : List Int) : (lits (H := H) k zs).length = zs.length := by simp [lits]
theorem bytesU8S : Try.prog.bytesOf 5 = 1 := by kernel_rfl
theorem bytes_reach {W : World} {s : Option Addr} {len cap : Nat} {d : DataW H} {p : List MemPlace}
    (h : DataW.Trod enc Try.prog W 0 (fun _ => true) true 22 (.slice s len cap) d p) (hz : ∀ k ∈ d.weights Try.prog 22, k ≤ reachBytes) : len ≤ 140737488351232 := by
  obtain ⟨fuel, hf⟩ := h
  rcases Go.ChangeShapes.open_ints Try.underlying22 Try.underlying5 (by kernel_rfl) hf with ⟨q6, _⟩ | ⟨x6, l6, c6, zs, q6, _, hl6, hm6, hz6, hy, _, _⟩
  · simp [Value.cells] at q6
    omega
  · simp [Value.cells] at q6
    obtain ⟨rfl, rfl, rfl⟩ := q6
    have hd : d = _ := congrArg Prod.fst hy
    have hz7 : zs.length = cap := by simpa using hz6
    have hm : (zs.length) * 1 ∈ d.weights Try.prog 22 := by
      rw [hd]
      simp only [DataW.weights, Try.underlying22, lits_lenS, bytesU8S, List.mem_cons]
      left
      rw [← List.length_append, List.take_append_drop]
    have := hz _ hm
    have e : reachBytes = 140737488351232 := rfl
    omega
end
end Go.Proofs.Ytdclofiifcpkkaa
