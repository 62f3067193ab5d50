
/-
  big and alive keep their contracts.
-/
import Derived.Test.YtdecbnmibjcnaaaVmPa
set_option linter.unusedVariables false
namespace Go.Proofs.Ytdecbnmibjcnaaa
open Go.RowKit Go.PlainAid Go.Sort
/-- Calls that may be asked. -/
def OpsOk (w : World) (a : Option Addr) (len : Nat) : Prop := len ≤ 60 ∧ (len = 0 ∨ ∃ y o, a = some ⟨y, o, none⟩ ∧ ∀ i, i < len → ∃ x vd, IsOp7 w y (o + i * 7) x vd ∧ x.ok)
def BigIs (w : World) (a : Option Addr) (len : Nat) (b : Bool) : Prop := b = true ∨ (b = false ∧ OpsOk w a len)
def BigE (w : World) (a : Option Addr) (len : Nat) (e : Ending) : Prop := ∃ b, e = .returned (.bool b) ∧ BigIs w a len b
set_option maxHeartbeats 1000000 in
theorem law_big (w : World) (a : Option Addr) (len cap : Nat) (h : IsOps w a len cap) :
    Calls Try.prog 15 #[.slice a len cap] w fun e w' => BigE w a len e ∧ w = w' := by
  obtain ⟨h1, h2, h3⟩ := h
  have hcap : cap ≤ 9223372036854775807 := by unfold maxLen at h2; omega
  by_cases h60 : 60 < len
  · have h6 : (60 : Int) < (len : Int) := by omega
    have HB : Hid (BigIs w a len true) := .inl rfl
    clear h3
    go_enter Try.func15, Try.ntmps15
    go_wp2
    go_ret
    exact ⟨⟨true, rfl, HB.out⟩, rfl⟩
  · have h6 : ¬ (60 : Int) < (len : Int) := by omega
    rcases h3 with rfl | ⟨y, o, rfl, hx⟩
    · have HB : Hid (BigIs w a 0 false) := .inr ⟨rfl, by omega, .inl rfl⟩
      go_enter Try.func15, Try.ntmps15
      go_wp2
      go_loopw [3] (fun vi wr => vi = .int .i64 0 ∧ wr = w) (fun _ _ => 0)
      case atStart => exact ⟨rfl, rfl⟩
      case round =>
        obtain ⟨rfl, rfl⟩ := hrel
        go_wp2
        go_ret
        exact ⟨⟨false, rfl, HB.out⟩, rfl⟩
    · have HX := (show Hid _ from hx)
      clear hx
      go_enter Try.func15, Try.ntmps15
      go_wp2
      go_loopw [3] (fun vi wr => ∃ i : Nat, i ≤ len ∧ vi = .int .i64 i ∧ wr = w ∧ Hid (∀ j, j < i → ∃ x vd, IsOp7 w y (o + j * 7) x vd ∧ x.ok)) (fun vi _ => len - (intOf vi).toNat)
      case atStart => exact ⟨0, by omega, rfl, rfl, fun j hj => absurd hj (Nat.not_lt_zero _)⟩
      case round =>
        obtain ⟨i, hi, rfl, rfl, HJ⟩ := hrel
        by_cases hlt : i < len
        · have hltI : (i : Int) < (len : Int) := by omega
          obtain ⟨x, vd, I⟩ := HX i hlt
          have c6 := I.c6
          have HI := hide I
          obtain ⟨sa, sc, rfl, k1, k2, k3⟩ := I.src
          by_cases hd : 2048 < x.data.length
          · have hdI : (2048 : Int) < (x.data.length : Int) := by omega
            clear I HI k3
            generalize x.data.length = dl at *
            go_wp2
            go_ret
            exact ⟨⟨true, rfl, .inl rfl⟩, rfl⟩
          · have hdI : ¬ (2048 : Int) < (x.data.length : Int) := by omega
            have HJ2 : Hid (∀ j, j < i + 1 → ∃ x vd, IsOp7 wr y (o + j * 7) x vd ∧ x.ok) := fun j hj => by
              by_cases e : j = i
              · subst e; exact ⟨x, _, I, I.ok (by omega)⟩
              · exact HJ.out j (by omega)
            clear I HI k3
            generalize x.data.length = dl at *
            go_wp2
            go_roundw
            case rel => exact ⟨i + 1, by omega, by go_num, trivial, HJ2⟩
            case measure => simp [intOf]; omega
        · have hltI : ¬ (i : Int) < (len : Int) := by omega
          have he : i = len := by omega
          subst he
          go_wp2
          go_ret
          exact ⟨⟨false, rfl, .inr ⟨rfl, by omega, .inr ⟨y, o, rfl, HJ.out⟩⟩⟩, rfl⟩
/-- The spaces that alive goes through. -/
def al0 : Sp := ⟨4, []⟩
theorem al_ok0 : al0.ok := ⟨by show 1 ≤ 4; omega, by show 4 ≤ 1024; omega, by show 0 ≤ 4; omega, fun r hr => absurd hr (by simp [al0]), List.Pairwise.nil⟩
def al1 (b : Nat) : Sp := ⟨4, [⟨768, b, 2, [blank, blank]⟩]⟩
def al2 (b c : Nat) : Sp := ⟨4, [⟨256, c, 1, [blank]⟩, ⟨768, b, 2, [blank, blank]⟩]⟩
theorem al_1 (b : Nat) : rvS al0 1000 2 b = al1 b := by kernel_rfl
theorem al_2 (b c : Nat) : rvS (al1 b) 0 1 c = al2 b c := by kernel_rfl
theorem al_3 (b c d : Nat) : rvS (al2 b c) 0 2 d = al2 b c := by kernel_rfl
end Go.Proofs.Ytdecbnmibjcnaaa
