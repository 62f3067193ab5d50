
/-
  Layer 14 (aps): ApsReads' walk, over both Decodes' contracts.
-/
import Derived.Test.YthbikbeedopbcaaApP
set_option linter.unusedVariables false
namespace Go.Proofs.Ythbikbeedopbcaa
open Go.RowKit Go.PlainAid
open Classical
def RefDecSpec : Prop := ∀ (w : World) (v : Value) (l : List UInt8), Arg w v l → l.length ≤ 20000 → ∀ rela : Bool, Calls Try.prog 7 #[v, .bool rela] w fun e w' => ApsIs w (apsZ l rela) e w' ∧ Below w.heap.size w w'
theorem refdec_is (HD : RefDecSpec) (w : World) (v : Value) (l : List UInt8) (rela : Bool) (h : Arg w v l) (hl : l.length ≤ 20000) :
    Calls Try.prog 7 #[v, .bool rela] w fun e w' => (∃ vx L q, e = .returned (.tuple #[vx, .int .i64 q]) ∧ ArgR w' vx L ∧ ((apsZ l rela = none ∧ L = [] ∧ q = 140) ∨ (apsZ l rela = some L ∧ q = 0))) ∧ Below w.heap.size w w' := by
  refine (HD w v l h hl rela).mono ?_
  rintro e w' ⟨hE, hb⟩
  refine ⟨?_, hb⟩
  cases hO : apsZ l rela with
  | none => rw [hO] at hE; exact ⟨_, [], 140, hE, nilR _, .inl ⟨rfl, rfl, rfl⟩⟩
  | some L =>
    rw [hO] at hE
    obtain ⟨vx, he, hown⟩ := hE
    exact ⟨vx, L, 0, he, hown.arg (fun r hr => ((apsZ_good hO).1 r hr).1), .inr ⟨rfl, rfl⟩⟩
set_option maxHeartbeats 1000000 in
set_option maxRecDepth 20000 in
theorem reads_core (HD : DecSpec) (HR : RefDecSpec) (w : World) (v : Value) (b : List UInt8) (hb : Arg w v b) (hbl : b.length ≤ 20000) (rela : Bool) :
    Calls Try.prog 3 #[v, .bool rela] w fun e w' => e = .returned (.bool true) ∧ Below w.heap.size w w' := by
  have hE := dec_is HD w v b rela hb
  have HU := hide (fun W (hW : Below w.heap.size w W) => refdec_is HR W v b rela (hb.below hW rfl) hbl)
  have HAL := hide (alive14 HD)
  obtain ⟨ua, ucap, rfl, _⟩ := hb.isSlice
  obtain ⟨k, hk⟩ : ∃ k, b.length = k := ⟨_, rfl⟩
  rw [hk] at hbl HU hE ⊢
  have hkI : ¬ (20000 : Int) < (k : Int) := by omega
  clear hb hk HD HR
  go_enter Try.func3, Try.ntmps3
  go_wp2_with fail
  refine hE.mono ?_
  rintro e w1 ⟨⟨v1, L1, q1, rfl, h1, hc1⟩, hb1⟩
  have HB1 := hide hb1
  have HA1 := hide h1
  have hR := HU.out w1 hb1
  clear hE hb1 h1
  go_wp2_with fail
  refine hR.mono ?_
  rintro e w2 ⟨⟨v2, L2, q2, rfl, h2, hc2⟩, hb2⟩
  have HB2 : Hid (Below w.heap.size w w2) := HB1.out.trans (hb2.mono HB1.out.size)
  have hsame : L1 = L2 ∧ q1 = q2 := by
    rcases hc1 with ⟨e1, e2, e3⟩ | ⟨e1, e3⟩
    · rcases hc2 with ⟨f1, f2, f3⟩ | ⟨f1, f3⟩
      · exact ⟨e2.trans f2.symm, e3.trans f3.symm⟩
      · rw [e1] at f1; cases f1
    · rcases hc2 with ⟨f1, f2, f3⟩ | ⟨f1, f3⟩
      · rw [e1] at f1; cases f1
      · rw [e1] at f1; injection f1 with f1; exact ⟨f1, e3.trans f3.symm⟩
  obtain ⟨rfl, rfl⟩ := hsame
  have hS := same_yes w2 v1 v2 L1 (HA1.out.below hb2) h2
  have hqq : (q1 == q1) = true := by simp
  clear hR hb2 h2 hc1 hc2 HU HA1
  go_wp2_with fail
  refine hS.mono ?_
  rintro e w3 ⟨rfl, hb3⟩
  have HB3 : Hid (Below w.heap.size w w3) := HB2.out.trans (hb3.mono HB2.out.size)
  have hAl := HAL.out w3
  clear hS hb3
  go_wp2_with fail
  refine hAl.mono ?_
  rintro e w4 ⟨rfl, hb4⟩
  have HB4 : Hid (Below w.heap.size w w4) := HB3.out.trans (hb4.mono HB3.out.size)
  clear hAl hb4
  go_wp2
  go_ret
  exact ⟨rfl, HB4.out⟩
end Go.Proofs.Ythbikbeedopbcaa
