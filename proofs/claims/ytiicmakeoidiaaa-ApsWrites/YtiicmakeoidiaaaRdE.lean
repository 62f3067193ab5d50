
/-
  leb's Reader.S keeps its contract: the next number with its sign, or 0 and the first error; nothing but the reader is turned.
-/
import Derived.Test.YtiicmakeoidiaaaRdD
set_option linter.unusedVariables false
namespace Go.Proofs.Ytiicmakeoidiaaa
open Go.RowKit Go.PlainAid
/-- The bits above so many groups. -/
def hiBits (k : Nat) : Int := IntKind.u64.wrap (18446744073709551615 * 2 ^ (7 * k))
/-- What S makes of the bits x of k groups, the last of which is d. -/
def sv (x : Int) (k : Nat) (d : Int) : Int := if 64 ≤ d then wrap64 (bits .or .u64 x (hiBits k)) else wrap64 x
theorem and64 (d : Int) (h0 : 0 ≤ d) (h1 : d ≤ 127) : (bits .and .u8 d 64 != 0) = decide (64 ≤ d) := by
  have h2 : ∀ k : Fin 128, (bits .and .u8 (k.val : Int) 64 != 0) = decide (64 ≤ (k.val : Int)) := by decide +kernel
  obtain ⟨k, rfl⟩ := Int.eq_ofNat_of_zero_le h0
  exact h2 ⟨k, by omega⟩
theorem hiBits_10 : IntKind.u64.wrap 340282366920938463444927863358058659840 = hiBits 10 := by
  unfold hiBits; rw [IntKind.wrap_u64, IntKind.wrap_u64]; decide
set_option maxHeartbeats 1000000 in
theorem leb_S_yes (R : Nat) (l : List UInt8) (e : Int) (w : World) (h : Rd w R l e) (hw : whole l) (hb : ¬ (hiN 10 l = 9 ∧ gl l 10 ≠ 0 ∧ gl l 10 ≠ 127)) :
    Calls Try.prog 30 #[.pointer (some ⟨R, 0, none⟩)] w fun x w' => x = .returned (.int .i64 (sv (gv l (hiN 10 l + 1)) (hiN 10 l + 1) (gl l (hiN 10 l + 1)))) ∧ Rd w' R (l.drop (hiN 10 l + 1)) e ∧ w.grownBy w' (some R) := by
  have hT := leb_take_yes R l e w h hw
  have hn := hw.1
  have hg := gl_bd l (hiN 10 l + 1)
  have hcase : (((hiN 10 l : Int) + 1 == 10) = false) ∨ (hiN 10 l = 9 ∧ gl l (hiN 10 l + 1) = 0) ∨ (hiN 10 l = 9 ∧ gl l (hiN 10 l + 1) = 127) := by
    by_cases h9 : hiN 10 l = 9
    · right; rw [h9] at hb ⊢
      by_cases h0 : gl l 10 = 0
      · exact .inl ⟨rfl, h0⟩
      · by_cases h1 : gl l 10 = 127
        · exact .inr ⟨rfl, h1⟩
        · exact absurd ⟨rfl, h0, h1⟩ hb
    · left; simp; omega
  clear hb hw
  generalize gv l (hiN 10 l + 1) = x at *
  generalize gl l (hiN 10 l + 1) = d at *
  generalize l.drop (hiN 10 l + 1) = l' at *
  generalize hiN 10 l = n at *
  rcases hcase with hc | ⟨rfl, rfl⟩ | ⟨rfl, rfl⟩
  · have hs0 := and64 d hg.1 hg.2
    by_cases hd : 64 ≤ d
    · have hs : (bits .and .u8 d 64 != 0) = true := by rw [hs0]; simp [hd]
      have hv : sv x (n + 1) d = wrap64 (bits .or .u64 x (IntKind.u64.wrap (18446744073709551615 * 2 ^ (7 * (n + 1))))) := by unfold sv; rw [if_pos hd]; rfl
      rw [hv]
      clear hv hs0
      go_enter Try.func30, Try.ntmps30
      go_wp2_with fail
      refine hT.mono ?_
      rintro y w1 ⟨rfl, hr, hg1⟩
      go_wp2
      go_region
      all_goals go_wp2
      go_ret
      exact ⟨rfl, (hr.on (World.grownBy_alloc _ _ _)).drew, gb_drew (gb_alloc hg1 _)⟩
    · have hs : (bits .and .u8 d 64 != 0) = false := by rw [hs0]; simp; omega
      have hv : sv x (n + 1) d = wrap64 x := by unfold sv; rw [if_neg hd]
      rw [hv]
      clear hv hs0
      go_enter Try.func30, Try.ntmps30
      go_wp2_with fail
      refine hT.mono ?_
      rintro y w1 ⟨rfl, hr, hg1⟩
      go_wp2
      go_ret
      exact ⟨rfl, hr.on (World.grownBy_alloc _ _ _), gb_alloc hg1 _⟩
  · have hv : sv x 10 0 = wrap64 x := by unfold sv; rw [if_neg (by omega)]
    have hs := and64 0 (by omega) (by omega)
    rw [hv]
    clear hv
    go_enter Try.func30, Try.ntmps30
    go_wp2_with fail
    refine hT.mono ?_
    rintro y w1 ⟨rfl, hr, hg1⟩
    go_wp2
    go_ret
    exact ⟨rfl, hr.on (World.grownBy_alloc _ _ _), gb_alloc hg1 _⟩
  · have hv : sv x 10 127 = wrap64 (bits .or .u64 x (IntKind.u64.wrap 340282366920938463444927863358058659840)) := by unfold sv; rw [if_pos (by omega), hiBits_10]
    have hs := and64 127 (by omega) (by omega)
    rw [hv]
    clear hv
    go_enter Try.func30, Try.ntmps30
    go_wp2_with fail
    refine hT.mono ?_
    rintro y w1 ⟨rfl, hr, hg1⟩
    go_wp2
    go_region
    all_goals go_wp2
    go_ret
    exact ⟨rfl, (hr.on (World.grownBy_alloc _ _ _)).drew, gb_drew (gb_alloc hg1 _)⟩
set_option maxHeartbeats 1000000 in
theorem leb_S_no (R : Nat) (l : List UInt8) (e : Int) (w : World) (h : Rd w R l e) (hw : ¬ whole l) :
    Calls Try.prog 30 #[.pointer (some ⟨R, 0, none⟩)] w fun x w' => x = .returned (.int .i64 0) ∧ Rd w' R [] (first e (noErr l)) ∧ w.grownBy w' (some R) := by
  have hT := leb_take_no R l e w h hw
  go_enter Try.func30, Try.ntmps30
  go_wp2_with fail
  refine hT.mono ?_
  rintro x w1 ⟨rfl, hr, hg⟩
  go_wp2
  go_ret
  exact ⟨rfl, hr.on (World.grownBy_alloc _ _ _), gb_alloc hg _⟩
set_option maxHeartbeats 1000000 in
theorem leb_S_big (R : Nat) (l : List UInt8) (e : Int) (w : World) (h : Rd w R l e) (hw : whole l) (hb : hiN 10 l = 9 ∧ gl l 10 ≠ 0 ∧ gl l 10 ≠ 127) :
    Calls Try.prog 30 #[.pointer (some ⟨R, 0, none⟩)] w fun x w' => x = .returned (.int .i64 0) ∧ Rd w' R [] (first e 30) ∧ w.grownBy w' (some R) := by
  have hT := leb_take_yes R l e w h hw
  rw [hb.1] at hT
  obtain ⟨_, hd0, hd1⟩ := hb
  have hg := gl_bd l 10
  simp only [Nat.reduceAdd] at hT
  generalize gv l 10 = x at *
  generalize gl l 10 = d at *
  generalize l.drop 10 = l' at *
  have e0 : (d != 0) = true := by simp [hd0]
  have e1 : (d != 127) = true := by simp [hd1]
  clear hd0 hd1
  go_enter Try.func30, Try.ntmps30
  go_wp2_with fail
  refine hT.mono ?_
  rintro y w1 ⟨rfl, hr, hg1⟩
  have hST := fun o => leb_stop R l' e 30 (w1.alloc o) (hr.on (World.grownBy_alloc _ _ _))
  go_wp2_with fail
  refine (hST _).mono ?_
  rintro y w2 ⟨rfl, hr2, hg2⟩
  go_wp2
  go_ret
  exact ⟨rfl, hr2, (gb_alloc hg1 _).trans hg2⟩
end Go.Proofs.Ytiicmakeoidiaaa
