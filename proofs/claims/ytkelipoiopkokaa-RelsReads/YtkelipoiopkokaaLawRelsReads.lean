
/-
  RelsReads returns true for every row of bytes and both kinds of list, and the row reads afterwards as it read before: no condition.
-/
import Derived.Test.YtkelipoiopkokaaRows
import Derived.Test.YtkelipoiopkokaaRlJ
import Derived.WalkKit
import Derived.ProofKit
import Derived.OpenShut
import Derived.ShutString
import Derived.ChangeOld
import Derived.Below
set_option linter.unusedVariables false
namespace Go.Proofs.Ytkelipoiopkokaa
namespace LRelsReads
open Go.ChangeShapes Go.WideShapes Go.ChangeAt Go.RowKit Go.PlainAid Go.Sort
open Classical
set_option maxHeartbeats 4000000 in
set_option maxRecDepth 20000 in
theorem core (w : World) (v : Value) (l : List UInt8) (h : Arg w v l) (hl : l.length ≤ 20000) (rela : Bool) :
    Calls Try.prog 3 #[v, .bool rela] w fun e w' => e = .returned (.bool true) ∧ Below w.heap.size w w' := by
  have HA := hide h
  have hT := rels_Decode w v l h rela (by omega)
  have HR := hide (fun W hW => ref12_Decode W v l hW rela (by omega))
  have HOK := hide (fun L => relsZ_ok (l := l) (rela := rela) (L := L))
  obtain ⟨a, cap, rfl, _⟩ := h.isSlice
  obtain ⟨n, hn⟩ : ∃ n, l.length = n := ⟨_, rfl⟩
  rw [hn] at hl hT HR HA ⊢
  have hnI : ¬ (20000 : Int) < (n : Int) := by omega
  clear h hn
  generalize relsZ l rela = O at *
  go_enter Try.func3, Try.ntmps3
  go_wp2_with fail
  refine hT.mono ?_
  rintro e w1 ⟨hE, hb1⟩
  have HB1 := hide hb1
  have hRR := HR.out w1 (HA.out.below' hb1)
  clear hT hb1 HR
  have FIN : ∀ (v1 v2 : Value) (L : List Rl) (w2 : World) (h1 : ArgR w2 v1 L) (h2 : ArgR w2 v2 L), Hid (Calls Try.prog 9 #[v1, v2] w2 fun e w' => e = .returned (.bool true) ∧ Below w2.heap.size w2 w') ∧ Hid (∀ w3, Below w2.heap.size w2 w3 → Calls Try.prog 10 #[v1, v2] w3 fun e w' => e = .returned (.bool true) ∧ Below w3.heap.size w3 w') := by
    intro v1 v2 L w2 h1 h2
    have e : decide (L = L) = true := by simp
    have k := ref12_Same w2 v1 v2 L L h1 h2
    rw [e] at k
    refine ⟨k, fun w3 hb => ?_⟩
    have k2 := rels_Same w3 v1 v2 L L (h1.below hb) (h2.below hb)
    rw [e] at k2
    exact k2
  have HFIN := hide FIN
  clear FIN
  cases O with
  | none =>
    have hE' : e = _ := hE
    subst hE'
    clear hE
    go_wp2_with fail
    refine hRR.mono ?_
    rintro e w2 ⟨hE, hb2⟩
    have hE' : e = _ := hE
    subst hE'
    have HB2 : Hid (Below w.heap.size w w2) := HB1.out.trans (hb2.mono HB1.out.size)
    clear hE hRR hb2
    obtain ⟨hS1, hS2⟩ := HFIN.out _ _ [] w2 (nilR w2) (nilR w2)
    go_wp2_with fail
    refine hS1.out.mono ?_
    rintro e w3 ⟨rfl, hb3⟩
    have HB3 : Hid (Below w.heap.size w w3) := HB2.out.trans (hb3.mono HB2.out.size)
    have hS3 := hS2.out w3 hb3
    clear hb3 hS2
    go_wp2_with fail
    refine hS3.mono ?_
    rintro e w4 ⟨rfl, hb4⟩
    have HB4 : Hid (Below w.heap.size w w4) := HB3.out.trans (hb4.mono HB3.out.size)
    have hAl := alive12 w4
    clear hb4 hS3
    go_wp2_with fail
    refine hAl.mono ?_
    rintro e w5 ⟨rfl, hb5⟩
    have HB5 : Hid (Below w.heap.size w w5) := HB4.out.trans (hb5.mono HB4.out.size)
    clear hb5 hAl
    go_wp2
    go_ret
    exact ⟨rfl, HB5.out⟩
  | some L =>
    have hok := (HOK.out L rfl).1
    obtain ⟨v1, rfl, hown⟩ := hE
    have HA1 := hide (hown.arg hok)
    clear hown
    go_wp2_with fail
    refine hRR.mono ?_
    rintro e w2 ⟨⟨v2, rfl, hown2⟩, hb2⟩
    have HA2 := hide (hown2.arg hok)
    have HB2 : Hid (Below w.heap.size w w2) := HB1.out.trans (hb2.mono HB1.out.size)
    obtain ⟨hS1, hS2⟩ := HFIN.out _ _ L w2 (HA1.out.below hb2) HA2.out
    clear hRR hb2 hown2 hok HOK
    go_wp2_with fail
    refine hS1.out.mono ?_
    rintro e w3 ⟨rfl, hb3⟩
    have HB3 : Hid (Below w.heap.size w w3) := HB2.out.trans (hb3.mono HB2.out.size)
    have hS3 := hS2.out w3 hb3
    clear hb3 hS2
    go_wp2_with fail
    refine hS3.mono ?_
    rintro e w4 ⟨rfl, hb4⟩
    have HB4 : Hid (Below w.heap.size w w4) := HB3.out.trans (hb4.mono HB3.out.size)
    have hAl := alive12 w4
    clear hb4 hS3
    go_wp2_with fail
    refine hAl.mono ?_
    rintro e w5 ⟨rfl, hb5⟩
    have HB5 : Hid (Below w.heap.size w w5) := HB4.out.trans (hb5.mono HB4.out.size)
    clear hb5 hAl
    go_wp2
    go_ret
    exact ⟨rfl, HB5.out⟩
theorem walk (w : World) (s0 : Option Addr) (len0 cap0 : Nat) (z0 : List Int) (h : IsRow .u8 w s0 len0 cap0 z0) (rela : Bool) :
    Calls Try.prog 3 #[.slice s0 len0 cap0, .bool rela] w fun e w' => e = .returned (.bool true) ∧ Below w.heap.size w w' := by
  by_cases hl : len0 ≤ 20000
  · obtain ⟨e, ha⟩ := h.arg (by omega)
    exact core w _ _ ha (by omega) rela
  · have hl2 : (20000 : Int) < (len0 : Int) := by omega
    have HBR : Hid (Below w.heap.size w w) := Below.refl _ _
    have hlm : len0 ≤ 9223372036854775807 := by
      rcases h with ⟨_, rfl, _⟩ | ⟨_, _, h1, h2, _⟩
      · omega
      · unfold maxLen at h2; omega
    clear h
    go_enter Try.func3, Try.ntmps3
    go_wp2
    go_ret
    exact ⟨rfl, HBR.out⟩
theorem own : ownKnob Try.prog.godebug = none := by kernel_rfl
theorem laidOut : laidOutB Try.prog = true := by kernel_rfl
set_option maxRecDepth 100000 in
theorem lifted (os : Os) (started : os.Started) (H : Type) (enc : TypeId × Value → H) :
    ReturnsInHanded {} Try.checked os 3 .any (Rows.relsReadsSpec.pre6 enc Try.prog Try.f3 Rows.relsReadsRow.domain false) (Rows.relsReadsSpec.post enc Try.prog Try.f3 false true false false) := by
  refine returnsInHanded_of_change (C := Try.checked) own started (by kernel_rfl) Try.func3
    (ChangeSpec.witness6 (enc := enc) (C := Try.checked) false ⟨#[], #[.slice none 0 0, .bool false], []⟩ 8 (by kernel_rfl) (by kernel_rfl) (by kernel_rfl) (by kernel_rfl)) ?_
  intro W base args ds gs before hval0 hW hcnd _
  have hval : ∀ (j : Nat) t v, Try.f3.params[j]? = some t → args[j]? = some v → Value.okWide Try.prog W .any base t v := hval0
  have hW' := hW
  obtain ⟨p, q, hA0, hV, rfl, hfz, hnd⟩ := hW
  have hA : DataW.TrodAll enc Try.prog W 0 (fun _ => true) true Try.f3.params.toList args.toList ds p := hA0
  rw [Try.params3] at hA hval
  obtain ⟨v0, vs0, d0, ds0, p0, q0, hargs, rfl, rfl, h0, r0⟩ := trodAll_cons hA
  obtain ⟨v1, vs1, d1, ds1, p1, q1, rfl, rfl, rfl, h1, r1⟩ := trodAll_cons r0
  obtain ⟨rfl, rfl, rfl⟩ := trodAll_nil r1
  obtain rfl : args = #[v0, v1] := by cases args; simp_all
  obtain ⟨rfl, rfl⟩ := trodVars_none hV
  have k0 := h0
  have lt0 : ∀ x ∈ p0, x.block < W.heap.size := by obtain ⟨m, hm⟩ := k0; exact DataW.trod_lt m _ _ _ hm
  have k1 := h1
  have lt1 : ∀ x ∈ p1, x.block < W.heap.size := by obtain ⟨m, hm⟩ := k1; exact DataW.trod_lt m _ _ _ hm
  obtain ⟨s0, len0, cap0, rfl⟩ := okWide_slice Try.underlying22 (hval 0 22 v0 rfl rfl)
  obtain ⟨z0, w0⟩ : ∃ zs, IsRow .u8 W s0 len0 cap0 zs := by
    obtain ⟨fuel, hf⟩ := h0
    rcases open_ints Try.underlying22 Try.underlying5 (by kernel_rfl) hf with ⟨hcs, _⟩ | ⟨x, l, c, zs, hcs, _, hl, hm, hz, _, hcell, hwz⟩
    · simp [Value.cells] at hcs
      obtain ⟨rfl, rfl, rfl⟩ := hcs
      exact ⟨[], .inl ⟨rfl, rfl, rfl, rfl⟩⟩
    · simp [Value.cells] at hcs
      obtain ⟨rfl, rfl, rfl⟩ := hcs
      exact ⟨zs, .inr ⟨_, rfl, hl, hm, by simpa using hz, hcell, hwz⟩⟩
  obtain ⟨a1, rfl, rfl, rfl⟩ := open_bool Try.underlying4 (hval 1 4 v1 rfl rfl) h1
  clear hA0 hval0
  refine (walk W s0 len0 cap0 z0 w0 a1).mono fun e W' ⟨he, bel⟩ => ?_
  subst he
  exact ⟨_, rfl, _, _, _, [], _, [], hW', trodAll_mk1 (shut_bool Try.underlying4 _), (trodAll_cons_mk (Below.trod laidOut (by kernel_rfl) (of_decide_eq_true (by kernel_rfl)) k0 bel lt0) (trodAll_cons_mk (Below.trod laidOut (by kernel_rfl) (of_decide_eq_true (by kernel_rfl)) k1 bel lt1) trodAll_mk0)), rfl, bel.frame _, fun h => by cases h⟩

theorem over : Rows.relsReadsRow.holds Try.pinned (OpenSpec.ofChange Rows.relsReadsSpec) :=
  OpenClaim.holds_of_wide 3 Try.f3 rfl rfl rfl rfl rfl rfl rfl ⟨rfl, rfl, rfl, rfl, rfl⟩ rfl rfl rfl rfl rfl (by kernel_rfl) Try.func3 (by kernel_rfl)
    (of_decide_eq_true (by kernel_rfl)) (by unfold Func.isWrapper; first | (rw [if_pos (by decide +kernel)]; kernel_rfl) | (rw [if_neg (by decide +kernel)]; exact ⟨rfl, rfl⟩))
    (fun os started H enc _ => lifted os started H enc)
end LRelsReads
theorem RelsReads_proved : Rows.RelsReadsSaid := LRelsReads.over
end Go.Proofs.Ytkelipoiopkokaa
