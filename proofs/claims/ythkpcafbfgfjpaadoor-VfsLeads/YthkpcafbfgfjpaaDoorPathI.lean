
/-
  Layer 4, the program's and the reference's: Archive and Same keep their contracts.
-/
import Derived.Test.YthkpcafbfgfjpaaDoorPathH
set_option linter.unusedVariables false
namespace Go.Proofs.YthkpcafbfgfjpaaDoor
open Go.RowKit Go.PlainAid
theorem below_drewN (w : World) (n : Nat) : Below w.heap.size w (w.drewN n) := ⟨rfl, rfl, rfl, Nat.le_refl _, fun _ _ => rfl⟩
/-- Both sides of the first !/, and whether there is one. -/
def arcA (l : List UInt8) : List UInt8 := (Lib.cut l [33, 47]).1
def arcB (l : List UInt8) : List UInt8 := (Lib.cut l [33, 47]).2.1
def arcC (l : List UInt8) : Bool := (Lib.cut l [33, 47]).2.2
set_option maxHeartbeats 1000000 in
theorem ref_Same (w : World) (B C : Nat) (v u : Value) (xs : List ByteArray) (h1 : OwnS w B v xs) (h2 : OwnS w C u xs) (hl : xs.length ≤ 1000000) :
    Calls Tryd.prog 15 #[v, u] w fun e w' => e = .returned (.bool true) ∧ Below w.heap.size w w' := by
  obtain ⟨a, cap, rfl⟩ := h1.slice
  obtain ⟨b, cap', rfl⟩ := h2.slice
  by_cases h0 : 0 < xs.length
  · obtain ⟨g, rfl, _, _, hc1, hc2, hcell⟩ := h1.cells h0
    obtain ⟨g', rfl, _, _, hc1', hc2', hcell'⟩ := h2.cells h0
    have hcap : cap ≤ 9223372036854775807 := by unfold maxLen at hc2; omega
    have hcap' : cap' ≤ 9223372036854775807 := by unfold maxLen at hc2'; omega
    have HC1 : Hid (∀ j x, xs[j]? = some x → w.cell? ⟨g, j, none⟩ = some (.string x)) := hcell
    have HC2 : Hid (∀ j x, xs[j]? = some x → w.cell? ⟨g', j, none⟩ = some (.string x)) := hcell'
    clear h1 h2 hcell hcell'
    go_enter Tryd.func15, Tryd.ntmps15
    go_wp2
    go_loopw [5] (fun vi wr => ∃ i m : Nat, vi = .int .i64 i ∧ i ≤ xs.length ∧ wr = w.drewN m) (fun vi _ => xs.length - (intOf vi).toNat)
    case atStart => exact ⟨0, 0, rfl, by omega, rfl⟩
    case round =>
      obtain ⟨i, m, rfl, hi, rfl⟩ := hrel
      by_cases hlt : i < xs.length
      · have hltI : (i : Int) < (xs.length : Int) := by omega
        obtain ⟨x, hx⟩ : ∃ x, xs[i]? = some x := ⟨xs[i], List.getElem?_eq_getElem hlt⟩
        have c1 := HC1.out i x hx
        have c2 := HC2.out i x hx
        have k1 : i < cap := by omega
        have k2 : i < cap' := by omega
        clear hx
        go_wp2
        go_quiet (fail)
        go_wp2
        go_roundw
        case rel => exact ⟨i + 1, _, by go_num, by omega, rfl⟩
        case measure => (simp [intOf] <;> omega)
      · have hltI : ¬ (i : Int) < (xs.length : Int) := by omega
        go_wp2
        go_ret
        exact ⟨rfl, below_drewN _ _⟩
  · have h00 : xs.length = 0 := by omega
    clear h1 h2
    go_enter Tryd.func15, Tryd.ntmps15
    go_wp2
    go_loop [5] (fun vi => vi = .int .i64 0) (fun _ => 0)
    case atStart => rfl
    case round =>
      subst hrel
      go_wp2
      go_ret
      exact ⟨rfl, Below.refl _ _⟩
end Go.Proofs.YthkpcafbfgfjpaaDoor
