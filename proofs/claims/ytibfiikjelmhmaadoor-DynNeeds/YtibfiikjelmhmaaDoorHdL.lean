
/-
  Layer 8 (head): the small library is read, as the statements ask.
-/
import Derived.Test.YtibfiikjelmhmaaDoorHdK
import Derived.KernelRfl
set_option linter.unusedVariables false
namespace Go.Proofs.YtibfiikjelmhmaaDoor
open Go.RowKit Go.PlainAid Go.Sort
def smP : Ph := ⟨1, 4, 0, 0, 256, 256, 8⟩
def smD : Ph := ⟨2, 4, 192, 192, 16, 16, 8⟩
theorem sm_parse : parseZ smallB = .ok ⟨62, [smP], smD, noPh⟩ := by kernel_rfl
theorem sm_none : parseZ [] = .error 80 := by kernel_rfl
theorem sm_off : offN [smP] 192 16 = (192, true) := by kernel_rfl
theorem sm_span : spanN [smP] = 1 := by kernel_rfl
theorem sm_ok : ∀ p ∈ [smP], p.ok := fun p hp => by
  rw [List.mem_singleton.1 hp]
  exact ⟨by decide, by decide, by decide, by decide, by decide, by decide, by decide⟩
theorem sm_len : smallB.length = 256 := by kernel_rfl
end Go.Proofs.YtibfiikjelmhmaaDoor
