
/-
  Layer 8's reference: numbers at places, and two headers that are the same.
-/
import Derived.Test.YtibfiikjelmhmaaDoorHdP
set_option linter.unusedVariables false
namespace Go.Proofs.YtibfiikjelmhmaaDoor
open Go.RowKit Go.PlainAid Go.Sort
theorem ref8_N (w : World) (v : Value) (l : List UInt8) (h : Arg w v l) (p s : Nat) (hp : (p : Int) ≤ 18446744073709551615) (hs : s ≤ 8) (hs0 : 0 < s) :
    Calls Tryd.prog 14 #[v, .int .u64 p, .int .i64 s] w fun e w' => e = .returned (.int .u64 (rd l p s)) ∧ w = w' := by
  by_cases hi : p + s ≤ l.length
  · have hU := ref_Get_yes w v l h p s hs hs0 hi
    rw [rd_in hi]
    obtain ⟨a, cap, rfl, _⟩ := h.isSlice
    clear h hi
    go_enter Tryd.func14, Tryd.ntmps14
    go_wp2_with fail
    refine hU.mono ?_
    rintro e w1 ⟨rfl, rfl⟩
    go_wp2
    go_ret
    exact ⟨rfl, rfl⟩
  · have hU := ref_Get_no w v l h p s hp hs hi
    have e0 : rd l p s = 0 := if_neg hi
    rw [e0]
    obtain ⟨a, cap, rfl, _⟩ := h.isSlice
    clear h hi
    go_enter Tryd.func14, Tryd.ntmps14
    go_wp2_with fail
    refine hU.mono ?_
    rintro e w1 ⟨rfl, rfl⟩
    go_wp2
    go_ret
    exact ⟨rfl, rfl⟩
end Go.Proofs.YtibfiikjelmhmaaDoor
