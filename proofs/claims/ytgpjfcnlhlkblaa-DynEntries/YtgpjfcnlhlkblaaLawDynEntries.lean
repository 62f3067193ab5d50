
/-
  DynEntries returns true for every row of bytes, and the row reads afterwards as it read before: no condition.
-/
import Derived.Test.YtgpjfcnlhlkblaaRows
import Derived.Test.YtgpjfcnlhlkblaaDyC
import Derived.WalkKit
import Derived.ProofKit
import Derived.OpenShut
import Derived.ShutString
import Derived.ChangeOld
import Derived.Below
set_option linter.unusedVariables false
namespace Go.Proofs.Ytgpjfcnlhlkblaa
namespace LDynEntries
open Go.ChangeShapes Go.WideShapes Go.ChangeAt Go.RowKit Go.PlainAid Go.Sort
set_option maxHeartbeats 4000000 in
set_option maxRecDepth 20000 in
theorem core (w : World) (v : Value) (l : List UInt8) (h : Arg w v l) (hl : l.length ≤ 8192) :
    Calls Try.prog 8 #[v] w fun e w' => e = .returned (.bool true) ∧ Below w.heap.size w w' := by
  have HA := hide h
  have hT := dyn_Entries w v l h (by omega)
  have HR := hide (fun W hW => ref9_Entries W v l hW (by omega))
  have HTO := hide (fun all => entsZ_ok (l := l) (L := all))
  obtain ⟨a, cap, rfl, _⟩ := h.isSlice
  generalize entsZ l = O at *
  obtain ⟨n, hn⟩ : ∃ n, l.length = n := ⟨_, rfl⟩
  rw [hn] at hl hT HR HA ⊢
  have hnI : ¬ (8192 : Int) < (n : Int) := by omega
  clear h hn
  go_enter Try.func8, Try.ntmps8
  go_wp2_with fail
  refine hT.mono ?_
  rintro e w1 ⟨hE, hb1⟩
  have HB1 := hide hb1
  have hRR := HR.out w1 (HA.out.below' hb1)
  clear hT hb1 HR
  cases O with
  | none =>
    have hE' : e = _ := hE
    subst hE'
    clear hE
    go_wp2_with fail
    refine hRR.mono ?_
    rintro e w2 ⟨hE, hb2⟩
    have hE' : e = _ := hE
    subst hE'
    have HB2 : Hid (Below w.heap.size w w2) := HB1.out.trans (hb2.mono HB1.out.size)
    have hAl := alive09 w2
    clear hE hRR hb2
    go_wp2
    go_loopw [7] (fun v7 wr => wr = w2 ∧ v7 = .int .i64 0) (fun _ _ => 0)
    case atStart => exact ⟨rfl, rfl⟩
    case round =>
      obtain ⟨rfl, rfl⟩ := hrel
      go_wp2_with (go_at_call 28; refine hAl.mono ?_; rintro e w3 ⟨rfl, hb3⟩)
      go_ret
      exact ⟨rfl, HB2.out.trans (hb3.mono HB2.out.size)⟩
  | some all =>
    have hlen := (HTO.out all rfl).2
    obtain ⟨v1, rfl, hown⟩ := hE
    have HA1 := hide (hown.arg (by omega))
    obtain ⟨a1, c1, rfl⟩ := HA1.out.form
    clear hown HTO
    go_wp2_with fail
    refine hRR.mono ?_
    rintro e w2 ⟨⟨v2, rfl, hown2⟩, hb2⟩
    have HA2 := hide (hown2.arg (by omega))
    have HA1' := hide (HA1.out.below hb2)
    have HB2 : Hid (Below w.heap.size w w2) := HB1.out.trans (hb2.mono HB1.out.size)
    obtain ⟨a2, c2, rfl⟩ := HA2.out.form
    clear hRR hb2 hown2 HA1 HA
    have hne : ((all.length : Int) != (all.length : Int)) = false := by simp
    go_wp2
    go_loopw [7] (fun v7 wr => (∃ k : Nat, wr = w2.drewN k) ∧ ∃ i : Nat, i ≤ all.length ∧ v7 = .int .i64 i) (fun v7 _ => all.length - (intOf v7).toNat)
    case atStart => exact ⟨⟨0, rfl⟩, 0, by omega, rfl⟩
    case round =>
      obtain ⟨⟨k, rfl⟩, i, hi, rfl⟩ := hrel
      by_cases hlt : i < all.length
      · have hltI : (i : Int) < (all.length : Int) := by omega
        obtain ⟨g1, rfl, p1, p2, _, y0, y1⟩ := HA1'.out.at i hlt
        obtain ⟨g2, rfl, p3, p4, _, z0, z1⟩ := HA2.out.at i hlt
        generalize all[i] = p at *
        obtain ⟨ty, fl⟩ := p
        simp only at y0 y1 z0 z1
        go_wp2_with fail
        go_quiet (fail)
        go_wp2
        go_roundw
        case rel => exact ⟨⟨_, rfl⟩, i + 1, by omega, by go_num⟩
        case measure => simp [intOf]; omega
      · have hltI : ¬ (i : Int) < (all.length : Int) := by omega
        have hAl2 := alive09 (w2.drewN k)
        go_wp2_with (go_at_call 28; refine hAl2.mono ?_; rintro e w3 ⟨rfl, hb3⟩)
        go_ret
        exact ⟨rfl, (⟨HB2.out.os, HB2.out.tape, HB2.out.output, HB2.out.size, HB2.out.block⟩ : Below w.heap.size w (w2.drewN k)).trans (hb3.mono HB2.out.size)⟩
theorem walk (w : World) (s0 : Option Addr) (len0 cap0 : Nat) (z0 : List Int) (h : IsRow .u8 w s0 len0 cap0 z0) :
    Calls Try.prog 8 #[.slice s0 len0 cap0] w fun e w' => e = .returned (.bool true) ∧ Below w.heap.size w w' := by
  by_cases hl : len0 ≤ 8192
  · obtain ⟨e, ha⟩ := h.arg (by omega)
    have k := core w _ _ ha (by omega)
    exact k
  · have hl2 : (8192 : Int) < (len0 : Int) := by omega
    have HBR : Hid (Below w.heap.size w w) := Below.refl _ _
    have hlm : len0 ≤ 9223372036854775807 := by
      rcases h with ⟨_, rfl, _⟩ | ⟨_, _, h1, h2, _⟩
      · omega
      · unfold maxLen at h2; omega
    clear h
    go_enter Try.func8, Try.ntmps8
    go_wp2
    go_ret
    exact ⟨rfl, HBR.out⟩
theorem own : ownKnob Try.prog.godebug = none := by kernel_rfl
theorem laidOut : laidOutB Try.prog = true := by kernel_rfl
set_option maxRecDepth 100000 in
theorem lifted (os : Os) (started : os.Started) (H : Type) (enc : TypeId × Value → H) :
    ReturnsInHanded {} Try.checked os 8 .any (Rows.dynEntriesSpec.pre6 enc Try.prog Try.f8 Rows.dynEntriesRow.domain false) (Rows.dynEntriesSpec.post enc Try.prog Try.f8 false true false false) := by
  refine returnsInHanded_of_change (C := Try.checked) own started (by kernel_rfl) Try.func8
    (ChangeSpec.witness6 (enc := enc) (C := Try.checked) false ⟨#[], #[.slice none 0 0], []⟩ 8 (by kernel_rfl) (by kernel_rfl) (by kernel_rfl) (by kernel_rfl)) ?_
  intro W base args ds gs before hval0 hW hcnd _
  have hval : ∀ (j : Nat) t v, Try.f8.params[j]? = some t → args[j]? = some v → Value.okWide Try.prog W .any base t v := hval0
  have hW' := hW
  obtain ⟨p, q, hA0, hV, rfl, hfz, hnd⟩ := hW
  have hA : DataW.TrodAll enc Try.prog W 0 (fun _ => true) true Try.f8.params.toList args.toList ds p := hA0
  rw [Try.params8] at hA hval
  obtain ⟨v0, vs0, d0, ds0, p0, q0, hargs, rfl, rfl, h0, r0⟩ := trodAll_cons hA
  obtain ⟨rfl, rfl, rfl⟩ := trodAll_nil r0
  obtain rfl : args = #[v0] := by cases args; simp_all
  obtain ⟨rfl, rfl⟩ := trodVars_none hV
  have k0 := h0
  have lt0 : ∀ x ∈ p0, x.block < W.heap.size := by obtain ⟨m, hm⟩ := k0; exact DataW.trod_lt m _ _ _ hm
  obtain ⟨s0, len0, cap0, rfl⟩ := okWide_slice Try.underlying22 (hval 0 22 v0 rfl rfl)
  obtain ⟨z0, w0⟩ : ∃ zs, IsRow .u8 W s0 len0 cap0 zs := by
    obtain ⟨fuel, hf⟩ := h0
    rcases open_ints Try.underlying22 Try.underlying5 (by kernel_rfl) hf with ⟨hcs, _⟩ | ⟨x, l, c, zs, hcs, _, hl, hm, hz, _, hcell, hwz⟩
    · simp [Value.cells] at hcs
      obtain ⟨rfl, rfl, rfl⟩ := hcs
      exact ⟨[], .inl ⟨rfl, rfl, rfl, rfl⟩⟩
    · simp [Value.cells] at hcs
      obtain ⟨rfl, rfl, rfl⟩ := hcs
      exact ⟨zs, .inr ⟨_, rfl, hl, hm, by simpa using hz, hcell, hwz⟩⟩
  clear hA0 hval0
  refine (walk W s0 len0 cap0 z0 w0).mono fun e W' ⟨he, bel⟩ => ?_
  subst he
  exact ⟨_, rfl, _, _, _, [], _, [], hW', trodAll_mk1 (shut_bool Try.underlying4 _), (trodAll_cons_mk (Below.trod laidOut (by kernel_rfl) (of_decide_eq_true (by kernel_rfl)) k0 bel lt0) trodAll_mk0), rfl, bel.frame _, fun h => by cases h⟩

theorem over : Rows.dynEntriesRow.holds Try.pinned (OpenSpec.ofChange Rows.dynEntriesSpec) :=
  OpenClaim.holds_of_wide 8 Try.f8 rfl rfl rfl rfl rfl rfl rfl ⟨rfl, rfl, rfl, rfl, rfl⟩ rfl rfl rfl rfl rfl (by kernel_rfl) Try.func8 (by kernel_rfl)
    (of_decide_eq_true (by kernel_rfl)) (by unfold Func.isWrapper; first | (rw [if_pos (by decide +kernel)]; kernel_rfl) | (rw [if_neg (by decide +kernel)]; exact ⟨rfl, rfl⟩))
    (fun os started H enc _ => lifted os started H enc)
end LDynEntries
theorem DynEntries_proved : Rows.DynEntriesSaid := LDynEntries.over
end Go.Proofs.Ytgpjfcnlhlkblaa
