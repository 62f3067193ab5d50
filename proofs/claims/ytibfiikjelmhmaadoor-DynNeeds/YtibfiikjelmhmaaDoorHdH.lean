
/-
  Layer 8 (head): whether a read-only piece may be; whole structs are loaded and stored.
-/
import Derived.Test.YtibfiikjelmhmaaDoorHdG
import Derived.Laws.BitsAllLaws
set_option linter.unusedVariables false
namespace Go.Proofs.YtibfiikjelmhmaaDoor
open Go.RowKit Go.PlainAid Go.Sort
theorem and_two (n : Nat) (h : n < 4294967296) : (bits .and .u32 (n : Int) 2 != 0) = decide (n / 2 % 2 = 1) := by
  have e := u32_and_nat n 2 h (by omega)
  rw [show ((2 : Nat) : Int) = 2 from rfl] at e
  have e2 : n &&& 2 = (n / 2 % 2) * 2 := by
    have h1 : (n &&& 2) / 2 = n / 2 &&& 2 / 2 := Nat.and_div_two
    rw [show 2 / 2 = 1 from rfl, Nat.and_one_is_mod] at h1
    have h2 := Nat.and_mod_two_pow (a := n) (b := 2) (n := 1)
    rw [show 2 ^ 1 = 2 from rfl, show 2 % 2 = 0 from rfl, Nat.and_zero] at h2
    omega
  rw [e, e2]
  by_cases c : n / 2 % 2 = 1
  · rw [decide_eq_true c, c]; rfl
  · rw [decide_eq_false c, show n / 2 % 2 = 0 by omega]; rfl
theorem q_same {F : FuncId} {args : Array Value} {W : World} {d : Nat} {os : Array Obj} {v : Value} (h : Calls Tryd.prog F args (grow (redrawn W d) os) fun e w' => e = .returned v ∧ grow (redrawn W d) os = w') :
    Calls Tryd.prog F args (grow (redrawn W d) os) fun e w'' => e = .returned v ∧ ∃ p : Regrown, w'' = grow (redrawn W p.d) p.os :=
  h.mono fun _ _ ⟨he, hw⟩ => ⟨he, ⟨d, os⟩, hw.symm⟩
end Go.Proofs.YtibfiikjelmhmaaDoor
