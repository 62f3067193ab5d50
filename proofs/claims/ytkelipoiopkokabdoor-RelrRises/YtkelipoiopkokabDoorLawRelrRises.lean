
/-
  RelrRises returns true for every row of bytes, and the row reads afterwards as it read before: no condition but that the listed variable starts as the program's text lays it.
-/
import Derived.Test.YtkelipoiopkokabDoorRrL
import Derived.WalkKit
import Derived.ProofKit
import Derived.OpenShut
import Derived.ShutString
import Derived.ChangeOld
import Derived.Below
import Derived.SevenTiedAt
set_option linter.unusedVariables false
namespace Go.Proofs.YtkelipoiopkokabDoor
namespace LRelrRises
open Go.ChangeShapes Go.WideShapes Go.ChangeAt Go.RowKit Go.PlainAid Go.Sort
theorem tab {W : World} (h : laidMetH Tryd.prog Rows.relrRisesRow.laid W) : TabZ W := tab_of_vars _ rfl (by kernel_rfl) (by kernel_rfl) (by kernel_rfl) h
theorem evB_le (b : List UInt8) : ∀ n, evB b n ≤ n
  | 0 => Nat.le_refl _
  | n + 1 => by have := evB_le b n; rw [evB]; split <;> omega
theorem cntF_le (L : List Nat) : ∀ n, cntF L n ≤ n
  | 0 => Nat.le_refl _
  | n + 1 => by have := cntF_le L n; rw [cntF]; split <;> omega
set_option maxHeartbeats 4000000 in
set_option maxRecDepth 20000 in
theorem core (w : World) (v : Value) (b : List UInt8) (h : Arg w v b) (hl : b.length ≤ 8192) (hTab : TabZ w) :
    Calls Tryd.prog 4 #[v] w fun e w' => e = .returned (.bool true) ∧ Below w.heap.size w w' := by
  have HA := hide h
  have hT := relr_Decode w v b h (by omega) hTab
  have HTab := hide hTab
  obtain ⟨a, cap, rfl, c1, c2, _⟩ := h.isSlice
  obtain ⟨n, hn⟩ : ∃ n, b.length = n := ⟨_, rfl⟩
  have HN := hide hn
  rw [hn] at hl hT HA c1 ⊢
  have hnI : ¬ (8192 : Int) < (n : Int) := by omega
  have hcap : (n : Int) ≤ (cap : Int) := by omega
  unfold maxLen at c2
  clear h hn hTab
  go_enter Tryd.func4, Tryd.ntmps4
  go_wp2_with fail
  refine hT.mono ?_
  rintro e w1 ⟨hE, hb1⟩
  have HB1 := hide hb1
  clear hT hb1
  cases hO : relrZ b with
  | none =>
    rw [hO] at hE
    have hE' : e = _ := hE
    subst hE'
    have hAl := alive13 w1 (HTab.out.below HB1.out)
    clear hE hO
    go_wp2_with fail
    refine hAl.mono ?_
    rintro e w4 ⟨rfl, hb4⟩
    have HB4 : Hid (Below w.heap.size w w4) := HB1.out.trans (hb4.mono HB1.out.size)
    clear hAl hb4
    go_wp2
    go_ret
    exact ⟨rfl, HB4.out⟩
  | some L =>
    rw [hO] at hE
    obtain ⟨v1, rfl, o1⟩ := hE
    obtain ⟨m, hm, hm5, hL5, hev, hfall⟩ := relr_rises hO
    have HA1 := hide (o1.arg (relrZ_ok hO).2)
    obtain ⟨xa, xc, rfl, x1, x2⟩ := HA1.out.form
    have HAb := hide (HA.out.below' HB1.out)
    rw [HN.out] at hm
    subst hm
    clear o1 hO
    have HEv := hide hev
    have HFall := hide hfall
    clear hev hfall
    go_wp2
    go_loopw [5, 6] (fun v5 vi wr => wr = w1 ∧ ∃ i : Nat, i ≤ m ∧ vi = .int .i64 ((8 * i : Nat) : Int) ∧ v5 = .int .i64 ((evB b i : Nat) : Int)) (fun _ vi _ => 8 * m - (intOf vi).toNat)
    case atStart => exact ⟨rfl, 0, by omega, rfl, rfl⟩
    case round =>
      obtain ⟨rfl, i, hi, rfl, rfl⟩ := hrel
      have e0 : ((8 * i : Nat) : Int) = 8 * (i : Int) := by omega
      rw [e0]
      have hle := evB_le b i
      by_cases hlt : i < m
      · have hltI : 8 * (i : Int) < 8 * (m : Int) := by omega
        obtain ⟨g, o, cap', e, q1, q2, hc⟩ := HAb.out.cells (by rw [HN.out]; omega)
        injection e with e1 e2 e3
        subst e1 e3
        have y0 := hc (8 * i) (by rw [HN.out]; omega)
        have hstep : evB b (i + 1) = evB b i + (if (b.getD (8 * i) 0).toNat % 2 = 0 then 1 else 0) := rfl
        generalize b.getD (8 * i) 0 = c at *
        have hcl := c.toNat_lt
        clear hc q1 q2
        by_cases h2 : c.toNat % 2 = 0
        · rw [if_pos h2] at hstep
          have HST := hide hstep
          have d0 : ((c.toNat : Int) % 2 == 0) = true := by simp; omega
          clear hstep
          generalize c.toNat = cn at *
          generalize evB b i = ev at *
          go_wp2
          go_roundw
          case rel => exact ⟨by trivial, i + 1, by omega, by go_num, by rw [HST.out]; go_num⟩
          case measure => simp [intOf]; omega
        · rw [if_neg h2, Nat.add_zero] at hstep
          have HST := hide hstep
          have d0 : ((c.toNat : Int) % 2 == 0) = false := by simp; omega
          clear hstep
          generalize c.toNat = cn at *
          generalize evB b i = ev at *
          go_wp2
          go_roundw
          case rel => exact ⟨by trivial, i + 1, by omega, by go_num, by rw [HST.out]; rfl⟩
          case measure => simp [intOf]; omega
      · have him : i = m := by omega
        subst him
        obtain ⟨ev, hev⟩ : ∃ ev, evB b i = ev := ⟨_, rfl⟩
        rw [hev] at HEv HFall hle ⊢
        clear hev
        go_wp2
        go_loopw [7, 8] (fun v7 vi wx => (∃ k : Nat, wx = wr.drewN k) ∧ ∃ j : Nat, 1 ≤ j ∧ (j ≤ L.length ∨ j = 1) ∧ vi = .int .i64 (j : Nat) ∧ v7 = .int .i64 ((cntF L j : Nat) : Int)) (fun _ vi _ => 1000 - (intOf vi).toNat)
        case atStart => exact ⟨⟨0, rfl⟩, 1, by omega, .inr rfl, rfl, rfl⟩
        case round =>
          obtain ⟨⟨k, rfl⟩, j, hj1, hj2, rfl, rfl⟩ := hrel
          have hcl := cntF_le L j
          by_cases hjl : j < L.length
          · have hjI : (j : Int) < (L.length : Int) := by omega
            obtain ⟨g1, o1, rfl, y0, _⟩ := HA1.out.at j hjl
            obtain ⟨g2, o2, e, z0, _⟩ := HA1.out.at (j - 1) (by omega)
            injection e with e
            injection e with e1 e2
            subst e1 e2
            have hstep : cntF L (j + 1) = cntF L j + (if 1 ≤ j ∧ L.getD j 0 ≤ L.getD (j - 1) 0 then 1 else 0) := rfl
            have ga : L.getD j 0 = L[j] := by simp [List.getD, List.getElem?_eq_getElem hjl]
            have gb : L.getD (j - 1) 0 = L[j - 1]'(by omega) := by simp [List.getD, List.getElem?_eq_getElem (show j - 1 < L.length by omega)]
            rw [ga, gb] at hstep
            generalize L[j] = p at *
            generalize L[j - 1] = q at *
            have eo : (j : Int) - 1 = ((j - 1 : Nat) : Int) := by omega
            obtain ⟨jm, hjm⟩ : ∃ jm, j - 1 = jm := ⟨_, rfl⟩
            rw [hjm] at z0 eo
            have hjmI : (jm : Int) < (L.length : Int) := by omega
            have hx2 : (L.length : Int) ≤ (xc : Int) := by omega
            clear ga gb
            by_cases hpq : p ≤ q
            · rw [if_pos ⟨hj1, hpq⟩] at hstep
              have HST := hide hstep
              have hpI : (p : Int) ≤ (q : Int) := by omega
              clear hstep
              generalize cntF L j = cf at *
              go_wp2_with fail
              go_quiet (fail)
              go_wp2
              go_roundw
              case rel => exact ⟨⟨_, rfl⟩, j + 1, by omega, .inl (by omega), by go_num, by rw [HST.out]; go_num⟩
              case measure => simp [intOf]; omega
            · rw [if_neg (fun k => hpq k.2), Nat.add_zero] at hstep
              have HST := hide hstep
              have hpI : ¬ (p : Int) ≤ (q : Int) := by omega
              clear hstep
              generalize cntF L j = cf at *
              go_wp2_with fail
              go_quiet (fail)
              go_wp2
              go_roundw
              case rel => exact ⟨⟨_, rfl⟩, j + 1, by omega, .inl (by omega), by go_num, by rw [HST.out]; rfl⟩
              case measure => simp [intOf]; omega
          · have hce : cntF L j = cntF L L.length := by
              rcases hj2 with h | h
              · rw [show j = L.length by omega]
              · subst h
                rcases Nat.lt_or_ge 0 L.length with h0 | h0
                · rw [show L.length = 1 by omega]
                · rw [show L.length = 0 by omega]; rfl
            have hfl : cntF L j ≤ ev := by rw [hce]; exact HFall.out
            have hjI : ¬ (j : Int) < (L.length : Int) := by omega
            generalize cntF L j = cf at *
            have f1 : (L.length : Int) ≤ 512 := by omega
            have f2 : (ev : Int) ≤ (L.length : Int) := by have := HEv.out; omega
            have f3 : (cf : Int) ≤ (ev : Int) := by omega
            have HBk : Hid (Below w.heap.size w (wr.drewN k)) := bel_drewN HB1.out k
            have hAl := alive13 (wr.drewN k) (HTab.out.below HBk.out)
            clear hce hfl HFall HEv
            go_wp2_with fail
            refine hAl.mono ?_
            rintro e w4 ⟨rfl, hb4⟩
            have HB4 : Hid (Below w.heap.size w w4) := HBk.out.trans (hb4.mono HBk.out.size)
            clear hAl hb4
            go_wp2
            go_ret
            exact ⟨rfl, HB4.out⟩
theorem walk (w : World) (s0 : Option Addr) (len0 cap0 : Nat) (z0 : List Int) (h : IsRow .u8 w s0 len0 cap0 z0) (hsh : w.ShapedOpen Tryd.prog) (hL : laidMetH Tryd.prog Rows.relrRisesRow.laid w) :
    Calls Tryd.prog 4 #[.slice s0 len0 cap0] w fun e w' => e = .returned (.bool true) ∧ Below w.heap.size w w' := by
  by_cases hl : len0 ≤ 8192
  · obtain ⟨e, ha⟩ := h.arg (by omega)
    exact core w _ _ ha (by omega) (tab hL)
  · have hl2 : (8192 : Int) < (len0 : Int) := by omega
    have HBR : Hid (Below w.heap.size w w) := Below.refl _ _
    have hlm : len0 ≤ 9223372036854775807 := by
      rcases h with ⟨_, rfl, _⟩ | ⟨_, _, h1, h2, _⟩
      · omega
      · unfold maxLen at h2; omega
    clear h hsh hL
    go_enter Tryd.func4, Tryd.ntmps4
    go_wp2
    go_ret
    exact ⟨rfl, HBR.out⟩
theorem own : ownKnob Tryd.prog.godebug = none := by kernel_rfl
theorem laidOut : laidOutB Tryd.prog = true := by kernel_rfl
set_option maxRecDepth 100000 in
theorem lifted (os : Os) (started : os.Started) (H : Type) (enc : TypeId × Value → H) :
    ReturnsInHanded {} Tryd.checked os 4 .any (fun w args => (Rows.relrRisesSpec.pre enc Tryd.prog Tryd.f4 Rows.relrRisesRow.domain false w args ∧ laidMetH Tryd.prog Rows.relrRisesRow.laid w) ∧ sizedMet enc Tryd.prog Tryd.f4 (OpenSpec.ofChange Rows.relrRisesSpec) false w args)
      (Rows.relrRisesSpec.post enc Tryd.prog Tryd.f4 false true false false) := by
  refine wrap_and_shaped (C := Tryd.checked) (X := fun w _ => laidMetH Tryd.prog Rows.relrRisesRow.laid w) (fun _ _ _ hh h => h.of_heap hh) own started (by kernel_rfl) Tryd.func4
    (ChangeSpec.witness_shaped (enc := enc) (C := Tryd.checked) (os := os) (X := fun w _ => laidMetH Tryd.prog Rows.relrRisesRow.laid w) false (World.laidAll Tryd.prog os Rows.relrRisesRow.laid) #[.slice none 0 0] 8 (World.laidAll_os _ _ _)
      (World.shaped_of_ZipB (by kernel_rfl) (by kernel_rfl)) (by kernel_rfl) (by kernel_rfl) (by kernel_rfl)
      (by rw [MakeChecks.laidMetH_plain _ _ _ (by kernel_rfl)]; exact laidMet_laidAll _ (by kernel_rfl) (by kernel_rfl))) ?_
  intro W base args ds gs before hval0 hW hcnd hz hL hsh
  have hval : ∀ (j : Nat) t v, Tryd.f4.params[j]? = some t → args[j]? = some v → Value.okWide Tryd.prog W .any base t v := hval0
  have hW' := hW
  obtain ⟨p, q, hA0, hV, rfl, hfz, hnd⟩ := hW
  have hA : DataW.TrodAll enc Tryd.prog W 0 (fun _ => true) true Tryd.f4.params.toList args.toList ds p := hA0
  rw [Tryd.params4] at hA hval
  obtain ⟨v0, vs0, d0, ds0, p0, q0, hargs, rfl, rfl, h0, r0⟩ := trodAll_cons hA
  obtain ⟨rfl, rfl, rfl⟩ := trodAll_nil r0
  obtain rfl : args = #[v0] := by cases args; simp_all
  obtain ⟨rfl, rfl⟩ := trodVars_none hV
  have k0 := h0
  have lt0 : ∀ x ∈ p0, x.block < W.heap.size := by obtain ⟨m, hm⟩ := k0; exact DataW.trod_lt m _ _ _ hm
  obtain ⟨s0, len0, cap0, rfl⟩ := okWide_slice Tryd.underlying23 (hval 0 23 v0 rfl rfl)
  obtain ⟨z0, w0⟩ : ∃ zs, IsRow .u8 W s0 len0 cap0 zs := by
    obtain ⟨fuel, hf⟩ := h0
    rcases open_ints Tryd.underlying23 Tryd.underlying5 (by kernel_rfl) hf with ⟨hcs, _⟩ | ⟨x, l, c, zs, hcs, _, hl, hm, hz, _, hcell, hwz⟩
    · simp [Value.cells] at hcs
      obtain ⟨rfl, rfl, rfl⟩ := hcs
      exact ⟨[], .inl ⟨rfl, rfl, rfl, rfl⟩⟩
    · simp [Value.cells] at hcs
      obtain ⟨rfl, rfl, rfl⟩ := hcs
      exact ⟨zs, .inr ⟨_, rfl, hl, hm, by simpa using hz, hcell, hwz⟩⟩
  clear hA0 hval0
  refine (walk W s0 len0 cap0 z0 w0 hsh hL).mono fun e W' ⟨he, bel⟩ => ?_
  subst he
  exact ⟨_, rfl, _, _, _, [], _, [], hW', trodAll_mk1 (shut_bool Tryd.underlying4 _), (trodAll_cons_mk (Below.trod laidOut (by kernel_rfl) (of_decide_eq_true (by kernel_rfl)) k0 bel lt0) trodAll_mk0), rfl, bel.frame _, fun h => by cases h⟩

theorem over : Rows.relrRisesRow.holds Tryd.pinned (OpenSpec.ofChange Rows.relrRisesSpec) :=
  OpenClaim.holds_of_wide 4 Tryd.f4 rfl rfl rfl rfl rfl rfl rfl ⟨rfl, rfl, rfl, rfl, rfl⟩ rfl rfl rfl rfl rfl (by kernel_rfl) Tryd.func4 (by kernel_rfl)
    (of_decide_eq_true (by kernel_rfl)) (by unfold Func.isWrapper; first | (rw [if_pos (by decide +kernel)]; kernel_rfl) | (rw [if_neg (by decide +kernel)]; exact ⟨rfl, rfl⟩))
    (fun os started H enc _ => lifted os started H enc)

theorem card : Claim7.holds Tryd.pinned (.plain (OpenSpec.ofChange Rows.relrRisesSpec)) Rows.relrRisesCard :=
  Claim7.holds_tied_plain_at .later [] [.data] true (true, "73dd9be6a7915c435eec3f836ed95af60a08f854c12b8c88d264605d84a10de0") false over (fun _ h => by cases h) (by kernel_rfl) (fun _ h => by cases h) relrRises_row_tie rfl ⟨rfl, rfl⟩ (by kernel_rfl) rfl
    (fun f fn hf hfn => by
      obtain rfl : f = 4 := Option.some.inj ((show Tryd.prog.funcNamed Rows.relrRisesRow.func = some 4 by kernel_rfl).symm.trans hf) |>.symm
      obtain rfl : fn = Tryd.f4 := (Option.some.inj (Tryd.func4.symm.trans hfn)).symm
      exact ⟨by kernel_rfl, fun j t ht => by
        rw [Tryd.params4] at ht
        have hm : t ∈ [23] := by simpa using Array.mem_of_getElem? ht
        have hall : ([23].all fun u => !Tryd.prog.wantsStandIn u) = true := by kernel_rfl
        exact (show Tryd.prog.wantsStandIn t = false by simpa using List.all_eq_true.1 hall t hm)⟩)
    (by kernel_rfl)
end LRelrRises
theorem RelrRises_proved : Rows.RelrRisesCardSaid := LRelrRises.card
end Go.Proofs.YtkelipoiopkokabDoor
