
/-
  Layer 14 (aps): ApsWrites' walk, over both Encodes' contracts.
-/
import Derived.Test.YtiicmakeoidiaaaApP
set_option linter.unusedVariables false
namespace Go.Proofs.Ytiicmakeoidiaaa
open Go.RowKit Go.PlainAid
open Classical
def RefEncSpec : Prop := ∀ (w : World) (v : Value) (l : List Rl) (rela : Bool), ArgR w v l → l.length ≤ 1000 → Calls Try.prog 17 #[v, .bool rela] w fun e w' => EncIs w (encA l rela) e w' ∧ Below w.heap.size w w'
theorem refenc_is (HE : RefEncSpec) (w : World) (v : Value) (l : List Rl) (rela : Bool) (h : ArgR w v l) (hl : l.length ≤ 1000) :
    Calls Try.prog 17 #[v, .bool rela] w fun e w' => (∃ vx x q, e = .returned (.tuple #[vx, .int .i64 q]) ∧ Arg w' vx x ∧ ((encA l rela = none ∧ x = [] ∧ q = 140) ∨ (encA l rela = some x ∧ q = 0))) ∧ Below w.heap.size w w' := by
  refine (HE w v l rela h hl).mono ?_
  rintro e w' ⟨hE, hb⟩
  refine ⟨?_, hb⟩
  cases hO : encA l rela with
  | none => rw [hO] at hE; exact ⟨_, [], 140, hE, nilA _, .inl ⟨rfl, rfl, rfl⟩⟩
  | some x =>
    rw [hO] at hE
    obtain ⟨vx, he, hown⟩ := hE
    exact ⟨vx, x, 0, he, hown.arg (by have := enc_short hO; omega), .inr ⟨rfl, rfl⟩⟩
set_option maxHeartbeats 1000000 in
set_option maxRecDepth 20000 in
theorem writes_core (HD : DecSpec) (HE : RefEncSpec) (w : World) (v : Value) (l : List Rl) (h : ArgR w v l) (hl : l.length ≤ 1000) (rela : Bool) :
    Calls Try.prog 7 #[v, .bool rela] w fun e w' => e = .returned (.bool true) ∧ Below w.heap.size w w' := by
  have hE := enc_is w v l rela h hl
  have HU := hide (fun W (hW : Below w.heap.size w W) => refenc_is HE W v l rela (h.below hW) hl)
  have HAL := hide (alive14 HD)
  obtain ⟨ua, ucap, rfl, _⟩ := h.form
  obtain ⟨k, hk⟩ : ∃ k, l.length = k := ⟨_, rfl⟩
  rw [hk] at hl HU hE ⊢
  have hkI : ¬ (1000 : Int) < (k : Int) := by omega
  clear h hk HD HE
  go_enter Try.func7, Try.ntmps7
  go_wp2_with fail
  refine hE.mono ?_
  rintro e w1 ⟨⟨v1, L1, q1, rfl, h1, hc1⟩, hb1⟩
  have HB1 := hide hb1
  have HA1 := hide h1
  have hR := HU.out w1 hb1
  clear hE hb1 h1
  go_wp2_with fail
  refine hR.mono ?_
  rintro e w2 ⟨⟨v2, L2, q2, rfl, h2, hc2⟩, hb2⟩
  have HB2 : Hid (Below w.heap.size w w2) := HB1.out.trans (hb2.mono HB1.out.size)
  have hsame : L1 = L2 ∧ q1 = q2 := by
    rcases hc1 with ⟨e1, e2, e3⟩ | ⟨e1, e3⟩
    · rcases hc2 with ⟨f1, f2, f3⟩ | ⟨f1, f3⟩
      · exact ⟨e2.trans f2.symm, e3.trans f3.symm⟩
      · rw [e1] at f1; cases f1
    · rcases hc2 with ⟨f1, f2, f3⟩ | ⟨f1, f3⟩
      · rw [e1] at f1; cases f1
      · rw [e1] at f1; injection f1 with f1; exact ⟨f1, e3.trans f3.symm⟩
  obtain ⟨rfl, rfl⟩ := hsame
  have hqq : (q1 == q1) = true := by simp
  have t1 := (HA1.out.below1' hb2).text
  have t2 := h2.text
  obtain ⟨a1, c1, rfl, _⟩ := h2.isSlice
  obtain ⟨a2, c2, rfl, _⟩ := HA1.out.isSlice
  generalize L1.length = BL at *
  have hAl := HAL.out w2
  clear hR hb2 h2 hc1 hc2 HU HA1
  go_wp2_with fail
  refine hAl.mono ?_
  rintro e w4 ⟨rfl, hb4⟩
  have HB4 : Hid (Below w.heap.size w w4) := HB2.out.trans (hb4.mono HB2.out.size)
  clear hAl hb4
  go_wp2
  go_ret
  exact ⟨rfl, HB4.out⟩
end Go.Proofs.Ytiicmakeoidiaaa
