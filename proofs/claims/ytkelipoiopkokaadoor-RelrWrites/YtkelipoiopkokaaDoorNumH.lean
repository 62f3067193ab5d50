
/-
  The reference's rows of bytes keep their contracts; nothing that was there is turned.
-/
import Derived.Test.YtkelipoiopkokaaDoorNumE
set_option linter.unusedVariables false
namespace Go.Proofs.YtkelipoiopkokaaDoor
open Go.RowKit Go.PlainAid
theorem bcell {W w1 : World} (hb : Below W.heap.size W w1) : (∀ b o, b < W.heap.size → w1.cell? ⟨b, o, none⟩ = W.cell? ⟨b, o, none⟩) ∧ (∀ b o, b < W.heap.size → w1.frozen? ⟨b, o, none⟩ = W.frozen? ⟨b, o, none⟩) :=
  ⟨fun b o h => hb.cell (p := ⟨b, o, none⟩) h, fun b o h => hb.frozen (p := ⟨b, o, none⟩) h⟩
theorem lessB_at (m n : Int) (hm : 0 ≤ m) (hm' : m ≤ 18446744073709551615) (hn : 0 ≤ n) : lessB 0 m (hi64 n) (lo64 n) = decide (m < n) := by
  have := lessB_of m n hm hn
  rwa [hi64_small hm hm', lo64_small hm hm'] at this
end Go.Proofs.YtkelipoiopkokaaDoor
