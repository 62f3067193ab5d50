
/-
  Layer 18 (conf): the reference's told.
-/
import Derived.Test.YtmcefflgbliehaaDoorCgA
set_option linter.unusedVariables false
namespace Go.Proofs.YtmcefflgbliehaaDoor
open Go.RowKit Go.PlainAid Go.Sort
def toldV (old nm va : List UInt8) : List UInt8 := if old = [] then va else old ++ betwC nm ++ va
theorem toldV_new (old : List UInt8) (t : Td) (h : t.added = true) : toldV old t.name t.value = newV old t := by
  unfold toldV newV
  by_cases e : old = []
  · rw [if_pos e, if_neg (by simp [e])]
  · rw [if_neg e, if_pos ⟨h, e⟩]
set_option maxHeartbeats 1000000 in
theorem ref18_told (old nm va : List UInt8) (ln : Int) (w : World) (h1 : old.length ≤ 1000000000000) (h2 : va.length ≤ 1000000) (h3 : nm.length ≤ 1000000000) :
    Calls Tryd.prog 78 #[.string (tx old), .agg #[.string (tx nm), .string (tx va), .int .i64 ln]] w fun e w' => e = .returned (.string (tx (toldV old nm va))) ∧ Below w.heap.size w w' := by
  have HB0 := hide (below_box w (.cells #[.string (tx nm), .string (tx va), .int .i64 ln] 73))
  have hx := block_new w (.cells #[.string (tx nm), .string (tx va), .int .i64 ln] 73)
  have y0 := cells_of_block hx 0 (.string (tx nm)) rfl
  have y1 := cells_of_block hx 1 (.string (tx va)) rfl
  have hE := fun w => ref18_Ends (tx nm) (tx linksN) w (by rw [tx_size]; exact h3) (by decide)
  simp only [data_tx] at hE
  have s1 : ¬ 9223372036854775807 < old.length + 1 := by omega
  have s2 : ¬ 9223372036854775807 < old.length + 1 + va.length := by omega
  clear hx h1 h2 h3
  by_cases h0 : old = []
  · have hv : toldV old nm va = va := by unfold toldV; rw [if_pos h0]
    rw [hv]
    subst h0
    clear hv hE s1 s2
    unfold tx at *
    go_enter Tryd.func78, Tryd.ntmps78
    go_wp2
    go_ret
    exact ⟨rfl, HB0.out⟩
  · have hv : toldV old nm va = old ++ betwC nm ++ va := by unfold toldV; rw [if_neg h0]
    rw [hv]
    have hne : old.isEmpty = false := empty_of h0
    by_cases h4 : nm = spacesN
    · have hb : betwC nm = [44] := by unfold betwC; rw [if_pos (.inl h4)]
      have HST : Hid (tx (old ++ betwC nm ++ va) = tx old ++ ⟨#[44]⟩ ++ tx va) := by rw [Hid, hb, show (⟨#[44]⟩ : ByteArray) = tx [44] from rfl, tx_append, tx_append]
      rw [HST.out]
      subst h4
      unfold spacesN tx at *
      clear hv hE hb HST
      go_enter Tryd.func78, Tryd.ntmps78
      go_wp2
      go_ret
      exact ⟨rfl, HB0.out⟩
    · have h4e : (nm == spacesN) = false := by simpa using h4
      cases h5 : Lib.hasSuffix nm linksN with
      | true =>
        have hb : betwC nm = [44] := by unfold betwC; rw [if_pos (.inr h5)]
        have HST : Hid (tx (old ++ betwC nm ++ va) = tx old ++ ⟨#[44]⟩ ++ tx va) := by rw [Hid, hb, show (⟨#[44]⟩ : ByteArray) = tx [44] from rfl, tx_append, tx_append]
        rw [HST.out]
        rw [h5] at hE
        clear hv hb HST h5
        unfold spacesN at *
        unfold linksN at *
        unfold tx at *
        go_enter Tryd.func78, Tryd.ntmps78
        go_wp2_with (go_at_call 20; refine (hE _).mono ?_; rintro e w1 ⟨rfl, rfl⟩)
        go_ret
        exact ⟨rfl, HB0.out⟩
      | false =>
        have hb : betwC nm = [58] := by unfold betwC; rw [if_neg (by simp [h4, h5])]
        have HST : Hid (tx (old ++ betwC nm ++ va) = tx old ++ ⟨#[58]⟩ ++ tx va) := by rw [Hid, hb, show (⟨#[58]⟩ : ByteArray) = tx [58] from rfl, tx_append, tx_append]
        rw [HST.out]
        rw [h5] at hE
        clear hv hb HST h5
        unfold spacesN at *
        unfold linksN at *
        unfold tx at *
        go_enter Tryd.func78, Tryd.ntmps78
        go_wp2_with (go_at_call 20; refine (hE _).mono ?_; rintro e w1 ⟨rfl, rfl⟩)
        go_ret
        exact ⟨rfl, HB0.out⟩
end Go.Proofs.YtmcefflgbliehaaDoor
