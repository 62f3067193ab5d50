
/-
  RelrMoves returns true for every row of numbers and every number, and the row reads afterwards as it read before: no condition but that the listed variable starts as the program's text lays it.
-/
import Derived.Test.YtkelipoiopkokabDoorRrL
import Derived.WalkKit
import Derived.ProofKit
import Derived.OpenShut
import Derived.ShutString
import Derived.ChangeOld
import Derived.Below
import Derived.SevenTiedAt
set_option linter.unusedVariables false
namespace Go.Proofs.YtkelipoiopkokabDoor
namespace LRelrMoves
open Go.ChangeShapes Go.WideShapes Go.ChangeAt Go.RowKit Go.PlainAid Go.Sort
theorem tab {W : World} (h : laidMetH Tryd.prog Rows.relrMovesRow.laid W) : TabZ W := tab_of_vars _ rfl (by kernel_rfl) (by kernel_rfl) (by kernel_rfl) h
theorem all_take {l : List Nat} {i : Nat} (hi : i < l.length) (h : ∀ p ∈ l.take i, p < 4611686018427387904) (h2 : l[i] < 4611686018427387904) : ∀ p ∈ l.take (i + 1), p < 4611686018427387904 := by
  intro p hp
  rw [List.take_succ_eq_append_getElem hi] at hp
  rcases List.mem_append.1 hp with k | k
  · exact h p k
  · simp at k; omega
theorem map_take {l : List Nat} {i d : Nat} (hi : i < l.length) : (l.take i).map (· + d) ++ [l[i] + d] = (l.take (i + 1)).map (· + d) := by
  rw [List.take_succ_eq_append_getElem hi, List.map_append]; rfl
theorem mv_small {d w : Nat} (hd : d < 4611686018427387904) (hw : w < 18446744073709551616) (h : w % 2 = 0 → w < 4611686018427387904) : mv d w < 18446744073709551616 := by
  unfold mv; split <;> omega
theorem encF_even : ∀ (n f : Nat) (s : List Nat), fitP 0 s = true → (∀ p ∈ s, p < 4611686018427387904) → ∀ w ∈ encF n f s, w % 2 = 0 → w < 4611686018427387904
  | 0, f, s, _, _, w, hw, _ => by simp [encF] at hw
  | n + 1, f, [], _, _, w, hw, _ => by simp [encF] at hw
  | n + 1, f, p :: t, h, hs, w, hw, he => by
    obtain ⟨R, M, hR⟩ : ∃ R M, rowN f (p :: t) 1 0 = (R, M) := ⟨_, _, rfl⟩
    rw [encF, hR] at hw
    split at hw
    · rename_i hM
      have hroom := row_room h hR hM
      have hodd := (row_back h hR (by omega)).2
      rcases List.mem_cons.1 hw with rfl | hw
      · exact absurd he (by omega)
      · exact encF_even n _ _ (fitP_drop _ _ h M) (fun x hx => hs x (List.mem_of_mem_drop hx)) w hw he
    · rcases List.mem_cons.1 hw with rfl | hw
      · exact hs _ (by simp)
      · exact encF_even n _ _ (by have := fitP_drop _ _ h 1; simpa using this) (fun x hx => hs x (by simp [hx])) w hw he
theorem encW_even {l : List Nat} (h : fitP 0 l = true) (hs : ∀ p ∈ l, p < 4611686018427387904) : ∀ w ∈ encW l, w % 2 = 0 → w < 4611686018427387904 := by
  intro w hw he
  cases l with
  | nil => simp [encW, encT] at hw
  | cons p t =>
    have hw' : w ∈ p :: encF (p :: t).length (p + 8) t := hw
    rcases List.mem_cons.1 hw' with rfl | hw'
    · exact hs _ (by simp)
    · exact encF_even _ _ _ (by have := fitP_drop _ _ h 1; simpa using this) (fun x hx => hs x (by simp [hx])) w hw' he
set_option maxHeartbeats 4000000 in
set_option maxRecDepth 20000 in
theorem core (w : World) (v : Value) (l : List Nat) (h : ArgN w v l) (hl : l.length ≤ 500) (d : Nat) (hd : d % 2 = 0) (hd2 : d < 4611686018427387904) (hTab : TabZ w) :
    Calls Tryd.prog 6 #[v, .int .u64 (d : Nat)] w fun e w' => e = .returned (.bool true) ∧ Below w.heap.size w w' := by
  have HA := hide h
  have HTab := hide hTab
  obtain ⟨a, cap, rfl, c1, c2⟩ := h.form
  have hnI : ¬ (500 : Int) < (l.length : Int) := by omega
  have hdI : ((d : Int) % 2 == 1) = false := by simp; omega
  have hd2I : ¬ (4611686018427387904 : Int) ≤ (d : Int) := by omega
  have hcap : (l.length : Int) ≤ (cap : Int) := by omega
  clear h hTab
  go_enter Tryd.func6, Tryd.ntmps6
  go_wp2
  go_loopw [5, 6] (fun v5 vi wr => ∃ i : Nat, i ≤ l.length ∧ vi = .int .i64 (i : Nat) ∧ Hid (∀ p ∈ l.take i, p < 4611686018427387904) ∧ Hid (OwnN wr w.heap.size v5 ((l.take i).map (· + d))) ∧ Hid (Below w.heap.size w wr)) (fun _ vi _ => l.length - (intOf vi).toNat)
  case atStart => exact ⟨0, by omega, rfl, by simp [Hid], OwnN.nil _ _, Below.refl _ _⟩
  case round =>
    obtain ⟨i, hi, rfl, HSm, HOw, HBr⟩ := hrel
    by_cases hlt : i < l.length
    · have hltI : (i : Int) < (l.length : Int) := by omega
      obtain ⟨g, o, rfl, y0, hp⟩ := (HA.out.below HBr.out).at i hlt
      have HS2 : Hid (l[i] < 4611686018427387904 → ∀ p ∈ l.take (i + 1), p < 4611686018427387904) := fun k => all_take hlt HSm.out k
      have HM2 : Hid ((l.take i).map (· + d) ++ [l[i] + d] = (l.take (i + 1)).map (· + d)) := map_take hlt
      have HLn : Hid (((l.take i).map (· + d)).length ≤ 1000000) := by rw [Hid, List.length_map, List.length_take]; omega
      generalize l[i] = p at *
      by_cases hbig : 4611686018427387904 ≤ p
      · have hbI : (4611686018427387904 : Int) ≤ (p : Int) := by omega
        go_wp2
        go_ret
        exact ⟨rfl, HBr.out⟩
      · have hbI : ¬ (4611686018427387904 : Int) ≤ (p : Int) := by omega
        have HS3 := hide (HS2.out (by omega))
        obtain ⟨q, hq⟩ : ∃ q, p + d = q := ⟨_, rfl⟩
        rw [hq] at HM2
        have hqI : (p : Int) + (d : Int) = (q : Int) := by omega
        clear hq HS2
        go_wp2_with (at_builtin; refine append_n rfl _ _ rfl w.heap.size wr _ _ HOw.out q rfl _ (by simp) rfl HLn.out HBr.out.size ?_)
        intro v2 w2 k1 k2 k3
        have HB2 : Hid (Below w.heap.size w w2) := grow_below HBr.out HOw.out HBr.out.size k2
        have HO2 : Hid (OwnN w2 w.heap.size v2 ((l.take (i + 1)).map (· + d))) := by rw [Hid, ← HM2.out]; first | exact k1 | (rw [List.map_take]; exact k1)
        clear k1 k2 k3
        go_wp2
        go_roundw
        case rel => exact ⟨i + 1, by omega, by go_num, HS3, HO2, HB2⟩
        case measure => simp [intOf]; omega
    · have him : i = l.length := by omega
      subst him
      have hsm : ∀ p ∈ l, p < 4611686018427387904 := by have := HSm.out; rw [List.take_length] at this; exact this
      have hom := HOw.out
      rw [List.take_length] at hom
      have HAm := hide (hom.arg (fun p hp => by obtain ⟨x, hx, rfl⟩ := List.mem_map.1 hp; have := hsm x hx; omega))
      have hE1 := relr_Encode wr _ l (HA.out.below HBr.out) (by omega)
      obtain ⟨ma, mc, rfl, _⟩ := HAm.out.form
      have hE2 := fun W (hW : ArgN W (.slice ma (l.map (· + d)).length mc) (l.map (· + d))) => relr_Encode W _ _ hW (by simp; omega)
      rw [relr_move hd hd2 hsm] at hE2
      have HE2 := hide hE2
      obtain ⟨ml, hml⟩ : ∃ ml, (l.map (· + d)).length = ml := ⟨_, rfl⟩
      rw [hml] at HE2 HAm ⊢
      clear hE2 hml hom HOw HSm
      go_wp2_with fail
      refine hE1.mono ?_
      rintro e w2 ⟨hX, hb2⟩
      have HB2 : Hid (Below w.heap.size w w2) := HBr.out.trans (hb2.mono HBr.out.size)
      have hE3 := HE2.out w2 (HAm.out.below hb2)
      clear hE1 HE2 hb2
      by_cases hc : l.length ≤ 512 ∧ fitP 0 l = true
      · rw [if_pos hc] at hE3
        have hX2 : EnrIs w2 wr.heap.size (some (flatW (encW l))) e := by rw [← relrE_yes hc.1 hc.2]; exact hX
        obtain ⟨v2, rfl, o2⟩ := hX2
        have hwl := encW_len l
        have hf1 := flatW_len (encW l)
        have hf2 := flatW_len ((encW l).map (mv d))
        rw [List.length_map] at hf2
        have hA2 := o2.arg (by omega)
        have HWs : Hid (∀ x ∈ encW l, x < 18446744073709551616) := encW_small l (fun p hp => by have := hsm p hp; omega)
        have HEv : Hid (∀ x ∈ encW l, x % 2 = 0 → x < 4611686018427387904) := encW_even hc.2 hsm
        have HA2 := hide hA2
        obtain ⟨nw, hnw⟩ : ∃ nw, (encW l).length = nw := ⟨_, rfl⟩
        have HNW := hide hnw
        rw [hnw] at hwl hf1 hf2
        obtain ⟨xa, xc, hv2, _⟩ := hA2.isSlice
        rw [hf1] at hv2
        subst hv2
        have HF2 := hide hf2
        have hfb1 : (flatW (encW l)).length ≤ 4000 := by omega
        clear hX o2 hA2 hsm hnw hf1 hf2
        go_wp2_with fail
        refine hE3.mono ?_
        rintro e w3 ⟨⟨v3, rfl, o3⟩, hb3⟩
        have HB3 : Hid (Below w.heap.size w w3) := HB2.out.trans (hb3.mono HB2.out.size)
        have hA3 := o3.arg (by rw [HF2.out]; omega)
        have HA3 := hide hA3
        have HA23 := hide (HA2.out.below' hb3)
        obtain ⟨ya, yc, hv3, _⟩ := hA3.isSlice
        rw [HF2.out] at hv3
        subst hv3
        clear hE3 o3 hb3 hA3 HA2 hfb1
        go_wp2
        go_loopw [11, 12, 13] (fun vi _ _ wx => wx = w3 ∧ ∃ i : Nat, i ≤ nw ∧ vi = .int .i64 ((8 * i : Nat) : Int)) (fun vi _ _ _ => 8 * nw - (intOf vi).toNat)
        case atStart => exact ⟨rfl, 0, by omega, rfl⟩
        case round =>
          obtain ⟨rfl, i, hi, rfl⟩ := hrel
          have e0 : ((8 * i : Nat) : Int) = 8 * (i : Int) := by omega
          rw [e0]
          by_cases hlt : i < nw
          · have hltI : 8 * (i : Int) < 8 * (nw : Int) := by omega
            have k1 := ref8_N wr _ (flatW (encW l)) HA23.out (8 * i) 8 (by omega) (by omega) (by omega)
            have k2 := ref8_N wr _ (flatW ((encW l).map (mv d))) HA3.out (8 * i) 8 (by omega) (by omega) (by omega)
            have hin : i < (encW l).length := by rw [HNW.out]; exact hlt
            rw [rd_flat _ HWs.out i hin] at k1
            rw [rd_flat _ (fun x hx => by obtain ⟨y, hy, rfl⟩ := List.mem_map.1 hx; exact mv_small hd2 (HWs.out y hy) (HEv.out y hy)) i (by simpa using hin)] at k2
            simp only [List.getElem_map] at k2
            have hx1 := HWs.out _ (List.getElem_mem hin)
            have hx2 := HEv.out _ (List.getElem_mem hin)
            generalize (encW l)[i] = x at *
            rw [e0] at k1 k2
            by_cases hx : x % 2 = 1
            · have hmv : mv d x = x := by unfold mv; rw [if_pos hx]
              rw [hmv] at k2
              have m0 : ((x : Int) % 2 == 0) = false := by simp; omega
              have m1 : ((x : Int) % 2 == 1) = true := by simp; omega
              clear hmv hx2
              go_wp2_with fail
              refine k1.mono ?_
              rintro e W ⟨rfl, rfl⟩
              go_wp2_with fail
              refine k2.mono ?_
              rintro e W ⟨rfl, rfl⟩
              clear k1 k2
              go_wp2
              go_roundw
              case rel => exact ⟨by trivial, i + 1, by omega, by go_num⟩
              case measure => simp [intOf]; omega
            · have hmv : mv d x = x + d := by unfold mv; rw [if_neg hx]
              have hx3 := hx2 (by omega)
              obtain ⟨y, hy⟩ : ∃ y, x + d = y := ⟨_, rfl⟩
              rw [hmv, hy] at k2
              have hyI : (x : Int) + (d : Int) = (y : Int) := by omega
              have m0 : ((x : Int) % 2 == 0) = true := by simp; omega
              have m1 : ((x : Int) % 2 == 1) = false := by simp; omega
              clear hmv hx2 hy
              go_wp2_with fail
              refine k1.mono ?_
              rintro e W ⟨rfl, rfl⟩
              go_wp2_with fail
              refine k2.mono ?_
              rintro e W ⟨rfl, rfl⟩
              clear k1 k2
              go_wp2
              go_roundw
              case rel => exact ⟨by trivial, i + 1, by omega, by go_num⟩
              case measure => simp [intOf]; omega
          · have hltI : ¬ 8 * (i : Int) < 8 * (nw : Int) := by omega
            have him : i = nw := by omega
            subst him
            have hAl := alive13 wr (HTab.out.below HB3.out)
            go_wp2_with fail
            refine hAl.mono ?_
            rintro e w4 ⟨rfl, hb4⟩
            have HB4 : Hid (Below w.heap.size w w4) := HB3.out.trans (hb4.mono HB3.out.size)
            clear hAl hb4
            go_wp2
            go_ret
            exact ⟨rfl, HB4.out⟩
      · rw [if_neg hc] at hE3
        have hX2 : EnrIs w2 wr.heap.size none e := by rw [← relrE_no hc]; exact hX
        have hX' : e = _ := hX2
        subst hX'
        clear hX hX2 hsm
        go_wp2_with fail
        refine hE3.mono ?_
        rintro e w3 ⟨hY, hb3⟩
        have hY' : e = _ := hY
        subst hY'
        have HB3 : Hid (Below w.heap.size w w3) := HB2.out.trans (hb3.mono HB2.out.size)
        have hAl := alive13 w3 (HTab.out.below HB3.out)
        clear hE3 hY hb3
        go_wp2_with fail
        refine hAl.mono ?_
        rintro e w4 ⟨rfl, hb4⟩
        have HB4 : Hid (Below w.heap.size w w4) := HB3.out.trans (hb4.mono HB3.out.size)
        clear hAl hb4
        go_wp2
        go_ret
        exact ⟨rfl, HB4.out⟩
set_option maxHeartbeats 2000000 in
theorem walk (w : World) (s0 : Option Addr) (len0 cap0 : Nat) (z0 : List Int) (h : IsRow .u64 w s0 len0 cap0 z0) (a1 : Int) (hw1 : (Lit.int .u64 a1).wf = true) (hsh : w.ShapedOpen Tryd.prog) (hL : laidMetH Tryd.prog Rows.relrMovesRow.laid w) :
    Calls Tryd.prog 6 #[.slice s0 len0 cap0, .int .u64 a1] w fun e w' => e = .returned (.bool true) ∧ Below w.heap.size w w' := by
  have hb := wf_u64 hw1
  obtain ⟨d, rfl⟩ := Int.eq_ofNat_of_zero_le hb.1
  have HBR : Hid (Below w.heap.size w w) := Below.refl _ _
  have hlm : len0 ≤ 9223372036854775807 := by
    rcases h with ⟨_, rfl, _⟩ | ⟨_, _, h1, h2, _⟩
    · omega
    · unfold maxLen at h2; omega
  by_cases hl : len0 ≤ 500
  · have hlI : ¬ (500 : Int) < (len0 : Int) := by omega
    by_cases h2 : d % 2 = 0
    · have h2I : ((d : Int) % 2 == 1) = false := by simp; omega
      by_cases h3 : d < 4611686018427387904
      · obtain ⟨l, e, ha⟩ := h.argN
        exact core w _ _ ha (by omega) d h2 h3 (tab hL)
      · have h3I : (4611686018427387904 : Int) ≤ (d : Int) := by omega
        clear h hsh hL hw1
        go_enter Tryd.func6, Tryd.ntmps6
        go_wp2
        go_ret
        exact ⟨rfl, HBR.out⟩
    · have h2I : ((d : Int) % 2 == 1) = true := by simp; omega
      clear h hsh hL hw1
      go_enter Tryd.func6, Tryd.ntmps6
      go_wp2
      go_ret
      exact ⟨rfl, HBR.out⟩
  · have hlI : (500 : Int) < (len0 : Int) := by omega
    clear h hsh hL hw1
    go_enter Tryd.func6, Tryd.ntmps6
    go_wp2
    go_ret
    exact ⟨rfl, HBR.out⟩
theorem own : ownKnob Tryd.prog.godebug = none := by kernel_rfl
theorem laidOut : laidOutB Tryd.prog = true := by kernel_rfl
set_option maxRecDepth 100000 in
theorem lifted (os : Os) (started : os.Started) (H : Type) (enc : TypeId × Value → H) :
    ReturnsInHanded {} Tryd.checked os 6 .any (fun w args => (Rows.relrMovesSpec.pre enc Tryd.prog Tryd.f6 Rows.relrMovesRow.domain false w args ∧ laidMetH Tryd.prog Rows.relrMovesRow.laid w) ∧ sizedMet enc Tryd.prog Tryd.f6 (OpenSpec.ofChange Rows.relrMovesSpec) false w args)
      (Rows.relrMovesSpec.post enc Tryd.prog Tryd.f6 false true false false) := by
  refine wrap_and_shaped (C := Tryd.checked) (X := fun w _ => laidMetH Tryd.prog Rows.relrMovesRow.laid w) (fun _ _ _ hh h => h.of_heap hh) own started (by kernel_rfl) Tryd.func6
    (ChangeSpec.witness_shaped (enc := enc) (C := Tryd.checked) (os := os) (X := fun w _ => laidMetH Tryd.prog Rows.relrMovesRow.laid w) false (World.laidAll Tryd.prog os Rows.relrMovesRow.laid) #[.slice none 0 0, .int .u64 0] 8 (World.laidAll_os _ _ _)
      (World.shaped_of_ZipB (by kernel_rfl) (by kernel_rfl)) (by kernel_rfl) (by kernel_rfl) (by kernel_rfl)
      (by rw [MakeChecks.laidMetH_plain _ _ _ (by kernel_rfl)]; exact laidMet_laidAll _ (by kernel_rfl) (by kernel_rfl))) ?_
  intro W base args ds gs before hval0 hW hcnd hz hL hsh
  have hval : ∀ (j : Nat) t v, Tryd.f6.params[j]? = some t → args[j]? = some v → Value.okWide Tryd.prog W .any base t v := hval0
  have hW' := hW
  obtain ⟨p, q, hA0, hV, rfl, hfz, hnd⟩ := hW
  have hA : DataW.TrodAll enc Tryd.prog W 0 (fun _ => true) true Tryd.f6.params.toList args.toList ds p := hA0
  rw [Tryd.params6] at hA hval
  obtain ⟨v0, vs0, d0, ds0, p0, q0, hargs, rfl, rfl, h0, r0⟩ := trodAll_cons hA
  obtain ⟨v1, vs1, d1, ds1, p1, q1, rfl, rfl, rfl, h1, r1⟩ := trodAll_cons r0
  obtain ⟨rfl, rfl, rfl⟩ := trodAll_nil r1
  obtain rfl : args = #[v0, v1] := by cases args; simp_all
  obtain ⟨rfl, rfl⟩ := trodVars_none hV
  have k0 := h0
  have lt0 : ∀ x ∈ p0, x.block < W.heap.size := by obtain ⟨m, hm⟩ := k0; exact DataW.trod_lt m _ _ _ hm
  have k1 := h1
  have lt1 : ∀ x ∈ p1, x.block < W.heap.size := by obtain ⟨m, hm⟩ := k1; exact DataW.trod_lt m _ _ _ hm
  obtain ⟨s0, len0, cap0, rfl⟩ := okWide_slice Tryd.underlying22 (hval 0 22 v0 rfl rfl)
  obtain ⟨z0, w0⟩ : ∃ zs, IsRow .u64 W s0 len0 cap0 zs := by
    obtain ⟨fuel, hf⟩ := h0
    rcases open_ints Tryd.underlying22 Tryd.underlying32 (by kernel_rfl) hf with ⟨hcs, _⟩ | ⟨x, l, c, zs, hcs, _, hl, hm, hz, _, hcell, hwz⟩
    · simp [Value.cells] at hcs
      obtain ⟨rfl, rfl, rfl⟩ := hcs
      exact ⟨[], .inl ⟨rfl, rfl, rfl, rfl⟩⟩
    · simp [Value.cells] at hcs
      obtain ⟨rfl, rfl, rfl⟩ := hcs
      exact ⟨zs, .inr ⟨_, rfl, hl, hm, by simpa using hz, hcell, hwz⟩⟩
  obtain ⟨a1, rfl, rfl, rfl, w1⟩ := open_int Tryd.underlying32 (hval 1 32 v1 rfl rfl) h1
  clear hA0 hval0
  refine (walk W s0 len0 cap0 z0 w0 a1 w1 hsh hL).mono fun e W' ⟨he, bel⟩ => ?_
  subst he
  exact ⟨_, rfl, _, _, _, [], _, [], hW', trodAll_mk1 (shut_bool Tryd.underlying4 _), (trodAll_cons_mk (Below.trod laidOut (by kernel_rfl) (of_decide_eq_true (by kernel_rfl)) k0 bel lt0) (trodAll_cons_mk (Below.trod laidOut (by kernel_rfl) (of_decide_eq_true (by kernel_rfl)) k1 bel lt1) trodAll_mk0)), rfl, bel.frame _, fun h => by cases h⟩

theorem over : Rows.relrMovesRow.holds Tryd.pinned (OpenSpec.ofChange Rows.relrMovesSpec) :=
  OpenClaim.holds_of_wide 6 Tryd.f6 rfl rfl rfl rfl rfl rfl rfl ⟨rfl, rfl, rfl, rfl, rfl⟩ rfl rfl rfl rfl rfl (by kernel_rfl) Tryd.func6 (by kernel_rfl)
    (of_decide_eq_true (by kernel_rfl)) (by unfold Func.isWrapper; first | (rw [if_pos (by decide +kernel)]; kernel_rfl) | (rw [if_neg (by decide +kernel)]; exact ⟨rfl, rfl⟩))
    (fun os started H enc _ => lifted os started H enc)

theorem card : Claim7.holds Tryd.pinned (.plain (OpenSpec.ofChange Rows.relrMovesSpec)) Rows.relrMovesCard :=
  Claim7.holds_tied_plain_at .later [] [.data] true (true, "73dd9be6a7915c435eec3f836ed95af60a08f854c12b8c88d264605d84a10de0") false over (fun _ h => by cases h) (by kernel_rfl) (fun _ h => by cases h) relrMoves_row_tie rfl ⟨rfl, rfl⟩ (by kernel_rfl) rfl
    (fun f fn hf hfn => by
      obtain rfl : f = 6 := Option.some.inj ((show Tryd.prog.funcNamed Rows.relrMovesRow.func = some 6 by kernel_rfl).symm.trans hf) |>.symm
      obtain rfl : fn = Tryd.f6 := (Option.some.inj (Tryd.func6.symm.trans hfn)).symm
      exact ⟨by kernel_rfl, fun j t ht => by
        rw [Tryd.params6] at ht
        have hm : t ∈ [22, 32] := by simpa using Array.mem_of_getElem? ht
        have hall : ([22, 32].all fun u => !Tryd.prog.wantsStandIn u) = true := by kernel_rfl
        exact (show Tryd.prog.wantsStandIn t = false by simpa using List.all_eq_true.1 hall t hm)⟩)
    (by kernel_rfl)
end LRelrMoves
theorem RelrMoves_proved : Rows.RelrMovesCardSaid := LRelrMoves.card
end Go.Proofs.YtkelipoiopkokabDoor
