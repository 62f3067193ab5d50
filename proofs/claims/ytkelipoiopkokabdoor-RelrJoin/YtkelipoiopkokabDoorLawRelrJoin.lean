
/-
  RelrJoin returns true for any two rows of bytes, and the rows read afterwards as they read before: no condition but that the listed variable starts as the program's text lays it.
-/
import Derived.Test.YtkelipoiopkokabDoorRrL
import Derived.WalkKit
import Derived.ProofKit
import Derived.OpenShut
import Derived.ShutString
import Derived.ChangeOld
import Derived.Below
import Derived.SevenTiedAt
set_option linter.unusedVariables false
namespace Go.Proofs.YtkelipoiopkokabDoor
namespace LRelrJoin
open Go.ChangeShapes Go.WideShapes Go.ChangeAt Go.RowKit Go.PlainAid Go.Sort
theorem tab {W : World} (h : laidMetH Tryd.prog Rows.relrJoinRow.laid W) : TabZ W := tab_of_vars _ rfl (by kernel_rfl) (by kernel_rfl) (by kernel_rfl) h
set_option maxHeartbeats 4000000 in
set_option maxRecDepth 20000 in
theorem core (w : World) (v u : Value) (a b : List UInt8) (h : Arg w v a) (hb : Arg w u b) (hl : a.length ≤ 4000) (hbl : b.length ≤ 4000) (hTab : TabZ w) :
    Calls Tryd.prog 5 #[v, u] w fun e w' => e = .returned (.bool true) ∧ Below w.heap.size w w' := by
  obtain ⟨q1, X, hX⟩ := decN a
  obtain ⟨q2, Y, hY⟩ := decN b
  obtain ⟨q3, Z, hZ⟩ := decN (a ++ b)
  have hJ := decN_join hX hY hZ
  have HA := hide h
  have HU := hide hb
  have hT1 := dec_anyN w v a h (by omega) hTab q1 X hX
  have HT2 := hide (fun W hW hTW => dec_anyN W u b hW (by omega) hTW q2 Y hY)
  have HT3 := hide (fun W z hW hTW => dec_anyN W z (a ++ b) hW (by rw [List.length_append]; omega) hTW q3 Z hZ)
  have HTab := hide hTab
  have HL0 : Hid (([] : List UInt8).length + a.length ≤ 1000000000000) := by rw [Hid]; simp; omega
  have HL1 : Hid ((([] : List UInt8) ++ a).length + b.length ≤ 1000000000000) := by rw [Hid, List.nil_append]; omega
  have HL2 : Hid ((a ++ b).length ≤ 1000000000000) := by rw [Hid, List.length_append]; omega
  obtain ⟨va, vc, rfl, _⟩ := h.isSlice
  obtain ⟨ua, uc, rfl, _⟩ := hb.isSlice
  obtain ⟨n, hn⟩ : ∃ n, a.length = n := ⟨_, rfl⟩
  obtain ⟨k, hk⟩ : ∃ k, b.length = k := ⟨_, rfl⟩
  rw [hn] at hl hT1 HA hJ ⊢
  rw [hk] at hbl HU HT2 hJ ⊢
  have hnI : ¬ (4000 : Int) < (n : Int) := by omega
  have hkI : ¬ (4000 : Int) < (k : Int) := by omega
  clear h hb hn hk hX hY hZ hTab
  have HAL := hide alive13
  have HJ := hide hJ
  clear hJ
  go_enter Tryd.func5, Tryd.ntmps5
  go_wp2_with fail
  refine hT1.mono ?_
  rintro e w1 ⟨⟨v1, rfl, hA1⟩, hb1⟩
  have HB1 := hide hb1
  have HX1 := hide hA1
  have hT2 := HT2.out w1 (HU.out.below' hb1) (HTab.out.below hb1)
  clear hT1 hA1 hb1 HT2
  go_wp2_with fail
  refine hT2.mono ?_
  rintro e w2 ⟨⟨v2, rfl, hA2⟩, hb2⟩
  have HB2 : Hid (Below w.heap.size w w2) := HB1.out.trans (hb2.mono HB1.out.size)
  have HX2 := hide (HX1.out.below hb2)
  have HY2 := hide hA2
  have HA2 := hide (HA.out.below' HB2.out)
  have HU2 := hide (HU.out.below' HB2.out)
  clear hT2 hA2 hb2 HX1
  go_wp2_with (at_builtin; refine append_arg rfl _ _ rfl w2.heap.size (w2.alloc (.cells #[] 5)) _ [] (own_empty w2) _ a (HA2.out.alloc _) rfl rfl HL0.out (by simp) ?_)
  intro v3 w3 o3 g3 _
  have hb3 := empty_grown g3
  have HB3 : Hid (Below w.heap.size w w3) := HB2.out.trans (hb3.mono HB2.out.size)
  have HU3 := hide (HU2.out.below' hb3)
  have HXW : Hid (∀ W, Below w2.heap.size w2 W → ArgN W v1 X) := fun W hb => HX2.out.below hb
  have HYW : Hid (∀ W, Below w2.heap.size w2 W → ArgN W v2 Y) := fun W hb => HY2.out.below hb
  have HX3 := hide (HX2.out.below hb3)
  have HY3 := hide (HY2.out.below hb3)
  have HO3 := hide o3
  have hs3 : w2.heap.size ≤ w3.heap.size := hb3.size
  have HBB3 := hide hb3
  clear o3 g3 HX2 HY2 HA2 HU2 hb3
  go_wp2_with (at_builtin; refine append_arg rfl _ _ rfl w2.heap.size w3 _ _ HO3.out _ b HU3.out rfl rfl HL1.out hs3 ?_)
  intro v4 w4 o4 g4 _
  try rw [List.nil_append] at o4
  have hb4 : Below w2.heap.size w2 w4 := HBB3.out.grown g4 hs3 (fun k hk => (HO3.out.base k hk).1)
  have HB4 : Hid (Below w.heap.size w w4) := HB2.out.trans (hb4.mono HB2.out.size)
  have hT3 := HT3.out w4 v4 (o4.arg HL2.out) (HTab.out.below HB4.out)
  have hX4 := HX3.out
  obtain ⟨xa, xc, rfl, x1, x2⟩ := HX3.out.form
  obtain ⟨ya, yc, rfl, y1, y2⟩ := HY3.out.form
  clear HT3 o4 hX4
  go_wp2_with fail
  refine hT3.mono ?_
  rintro e w5 ⟨⟨v5, rfl, hA5⟩, hb5⟩
  have hb25 : Below w2.heap.size w2 w5 := hb4.trans (hb5.mono hb4.size)
  have HB5 : Hid (Below w.heap.size w w5) := HB4.out.trans (hb5.mono HB4.out.size)
  have HX5 := hide (HXW.out w5 hb25)
  have HY5 := hide (HYW.out w5 hb25)
  have HZ5 := hide hA5
  obtain ⟨za, zc, rfl, z1, z2⟩ := HZ5.out.form
  clear hT3 hA5 hb5 hb25 hb4 HX3 HY3 HO3 HU3 HXW HYW HBB3
  have hAl := HAL.out w5 (HTab.out.below HB5.out)
  rcases HJ.out with rfl | ⟨rfl, rfl⟩ | ⟨rfl, rfl, h5, hx5, hy5, rfl, rfl⟩ | ⟨rfl, rfl, h5, h6, rfl, rfl⟩
  · go_wp2_with fail
    refine hAl.mono ?_
    rintro e w6 ⟨rfl, hb6⟩
    have HB6 : Hid (Below w.heap.size w w6) := HB5.out.trans (hb6.mono HB5.out.size)
    clear hAl hb6
    go_wp2
    go_ret
    exact ⟨rfl, HB6.out⟩
  · go_wp2_with fail
    refine hAl.mono ?_
    rintro e w6 ⟨rfl, hb6⟩
    have HB6 : Hid (Below w.heap.size w w6) := HB5.out.trans (hb6.mono HB5.out.size)
    clear hAl hb6
    go_wp2
    go_ret
    exact ⟨rfl, HB6.out⟩
  · by_cases h7 : 512 < X.length + Y.length
    · have h5I : (512 : Int) < (X.length : Int) + (Y.length : Int) := by omega
      clear h5
      simp only [List.length_nil] at *
      go_wp2_with fail
      refine hAl.mono ?_
      rintro e w6 ⟨rfl, hb6⟩
      have HB6 : Hid (Below w.heap.size w w6) := HB5.out.trans (hb6.mono HB5.out.size)
      clear hAl hb6
      go_wp2
      go_ret
      exact ⟨rfl, HB6.out⟩
    · have h5I : ¬ (512 : Int) < (X.length : Int) + (Y.length : Int) := by omega
      have h6I : (4096 : Int) < (n : Int) + (k : Int) := by omega
      clear h5
      simp only [List.length_nil] at *
      go_wp2_with fail
      refine hAl.mono ?_
      rintro e w6 ⟨rfl, hb6⟩
      have HB6 : Hid (Below w.heap.size w w6) := HB5.out.trans (hb6.mono HB5.out.size)
      clear hAl hb6
      go_wp2
      go_ret
      exact ⟨rfl, HB6.out⟩
  · have h5I : ¬ (512 : Int) < (X.length : Int) + (Y.length : Int) := by omega
    have h6I : ¬ (4096 : Int) < (n : Int) + (k : Int) := by omega
    obtain ⟨zl, hzl⟩ : ∃ zl, (X ++ Y).length = zl := ⟨_, rfl⟩
    rw [hzl] at HZ5 z1 ⊢
    clear hAl hzl
    have HLX : Hid (([] : List Nat).length + X.length ≤ 1000000) := by rw [Hid]; simp; omega
    have HLY : Hid ((([] : List Nat) ++ X).length + Y.length ≤ 1000000) := by rw [Hid, List.nil_append]; omega
    have HXa : Hid (ArgN (w5.alloc (.cells #[] 32)) (.slice xa X.length xc) X) := HX5.out.below (Below.alloc (Below.refl _ _) (Nat.le_refl _) _)
    go_wp2_with (at_builtin; refine unguardN rfl ?_; refine append_ns rfl _ _ rfl w5.heap.size (w5.alloc (.cells #[] 32)) _ [] (own_emptyN w5) _ X HXa.out rfl rfl HLX.out (by simp) ?_)
    intro v6 w6 o6 g6
    have hb6 : Below w5.heap.size w5 w6 := Below.grown (Below.alloc (Below.refl _ _) (Nat.le_refl _) _) g6 (by simp) (fun k hk => by simp [Value.ownBlock] at hk; omega)
    have HO6 := hide o6
    have HBB6 := hide hb6
    have HY6 := hide (HY5.out.below hb6)
    clear o6 g6 HXa
    go_wp2_with (at_builtin; refine unguardN rfl ?_; refine append_ns rfl _ _ rfl w5.heap.size w6 _ _ HO6.out _ Y HY6.out rfl rfl HLY.out HBB6.out.size ?_)
    intro v7 w7 o7 g7
    try rw [List.nil_append] at o7
    have hb7 : Below w5.heap.size w5 w7 := HBB6.out.grown g7 HBB6.out.size (fun k hk => (HO6.out.base k hk).1)
    have HB7 : Hid (Below w.heap.size w w7) := HB5.out.trans (hb7.mono HB5.out.size)
    have hS := ref13_Same w7 _ _ (X ++ Y) (X ++ Y) (HZ5.out.below hb7) (o7.arg HZ5.out.1)
    rw [show decide (X ++ Y = X ++ Y) = true by simp] at hS
    clear o7 g7 hb7 HO6 HBB6 HY6 hb6
    go_wp2_with fail
    refine hS.mono ?_
    rintro e w8 ⟨rfl, hb8⟩
    have HB8 : Hid (Below w.heap.size w w8) := HB7.out.trans (hb8.mono HB7.out.size)
    have hAl := HAL.out w8 (HTab.out.below HB8.out)
    clear hS hb8
    go_wp2_with fail
    refine hAl.mono ?_
    rintro e w9 ⟨rfl, hb9⟩
    have HB9 : Hid (Below w.heap.size w w9) := HB8.out.trans (hb9.mono HB8.out.size)
    clear hAl hb9
    go_wp2
    go_ret
    exact ⟨rfl, HB9.out⟩
theorem walk (w : World) (s0 : Option Addr) (len0 cap0 : Nat) (z0 : List Int) (h : IsRow .u8 w s0 len0 cap0 z0) (s1 : Option Addr) (len1 cap1 : Nat) (z1 : List Int) (h1 : IsRow .u8 w s1 len1 cap1 z1) (hsh : w.ShapedOpen Tryd.prog) (hL : laidMetH Tryd.prog Rows.relrJoinRow.laid w) :
    Calls Tryd.prog 5 #[.slice s0 len0 cap0, .slice s1 len1 cap1] w fun e w' => e = .returned (.bool true) ∧ Below w.heap.size w w' := by
  have hlm : ∀ (s : Option Addr) (len cap : Nat) z, IsRow .u8 w s len cap z → len ≤ 9223372036854775807 := by
    intro s len cap z h
    rcases h with ⟨_, rfl, _⟩ | ⟨_, _, h1, h2, _⟩
    · omega
    · unfold maxLen at h2; omega
  have p0 := hlm _ _ _ _ h
  have p1 := hlm _ _ _ _ h1
  by_cases hl : len0 ≤ 4000 ∧ len1 ≤ 4000
  · obtain ⟨e, ha⟩ := h.arg (by omega)
    obtain ⟨e1, hb⟩ := h1.arg (by omega)
    exact core w _ _ _ _ ha hb (by omega) (by omega) (tab hL)
  · have HBR : Hid (Below w.heap.size w w) := Below.refl _ _
    clear h h1 hlm hsh hL
    by_cases hn : len0 ≤ 4000
    · have hnI : ¬ (4000 : Int) < (len0 : Int) := by omega
      have hkI : (4000 : Int) < (len1 : Int) := by omega
      clear hl
      go_enter Tryd.func5, Tryd.ntmps5
      go_wp2
      go_ret
      exact ⟨rfl, HBR.out⟩
    · have hnI : (4000 : Int) < (len0 : Int) := by omega
      clear hl
      go_enter Tryd.func5, Tryd.ntmps5
      go_wp2
      go_ret
      exact ⟨rfl, HBR.out⟩
theorem own : ownKnob Tryd.prog.godebug = none := by kernel_rfl
theorem laidOut : laidOutB Tryd.prog = true := by kernel_rfl
set_option maxRecDepth 100000 in
theorem lifted (os : Os) (started : os.Started) (H : Type) (enc : TypeId × Value → H) :
    ReturnsInHanded {} Tryd.checked os 5 .any (fun w args => (Rows.relrJoinSpec.pre enc Tryd.prog Tryd.f5 Rows.relrJoinRow.domain false w args ∧ laidMetH Tryd.prog Rows.relrJoinRow.laid w) ∧ sizedMet enc Tryd.prog Tryd.f5 (OpenSpec.ofChange Rows.relrJoinSpec) false w args)
      (Rows.relrJoinSpec.post enc Tryd.prog Tryd.f5 false true false false) := by
  refine wrap_and_shaped (C := Tryd.checked) (X := fun w _ => laidMetH Tryd.prog Rows.relrJoinRow.laid w) (fun _ _ _ hh h => h.of_heap hh) own started (by kernel_rfl) Tryd.func5
    (ChangeSpec.witness_shaped (enc := enc) (C := Tryd.checked) (os := os) (X := fun w _ => laidMetH Tryd.prog Rows.relrJoinRow.laid w) false (World.laidAll Tryd.prog os Rows.relrJoinRow.laid) #[.slice none 0 0, .slice none 0 0] 8 (World.laidAll_os _ _ _)
      (World.shaped_of_ZipB (by kernel_rfl) (by kernel_rfl)) (by kernel_rfl) (by kernel_rfl) (by kernel_rfl)
      (by rw [MakeChecks.laidMetH_plain _ _ _ (by kernel_rfl)]; exact laidMet_laidAll _ (by kernel_rfl) (by kernel_rfl))) ?_
  intro W base args ds gs before hval0 hW hcnd hz hL hsh
  have hval : ∀ (j : Nat) t v, Tryd.f5.params[j]? = some t → args[j]? = some v → Value.okWide Tryd.prog W .any base t v := hval0
  have hW' := hW
  obtain ⟨p, q, hA0, hV, rfl, hfz, hnd⟩ := hW
  have hA : DataW.TrodAll enc Tryd.prog W 0 (fun _ => true) true Tryd.f5.params.toList args.toList ds p := hA0
  rw [Tryd.params5] at hA hval
  obtain ⟨v0, vs0, d0, ds0, p0, q0, hargs, rfl, rfl, h0, r0⟩ := trodAll_cons hA
  obtain ⟨v1, vs1, d1, ds1, p1, q1, rfl, rfl, rfl, h1, r1⟩ := trodAll_cons r0
  obtain ⟨rfl, rfl, rfl⟩ := trodAll_nil r1
  obtain rfl : args = #[v0, v1] := by cases args; simp_all
  obtain ⟨rfl, rfl⟩ := trodVars_none hV
  have k0 := h0
  have lt0 : ∀ x ∈ p0, x.block < W.heap.size := by obtain ⟨m, hm⟩ := k0; exact DataW.trod_lt m _ _ _ hm
  have k1 := h1
  have lt1 : ∀ x ∈ p1, x.block < W.heap.size := by obtain ⟨m, hm⟩ := k1; exact DataW.trod_lt m _ _ _ hm
  obtain ⟨s0, len0, cap0, rfl⟩ := okWide_slice Tryd.underlying23 (hval 0 23 v0 rfl rfl)
  obtain ⟨z0, w0⟩ : ∃ zs, IsRow .u8 W s0 len0 cap0 zs := by
    obtain ⟨fuel, hf⟩ := h0
    rcases open_ints Tryd.underlying23 Tryd.underlying5 (by kernel_rfl) hf with ⟨hcs, _⟩ | ⟨x, l, c, zs, hcs, _, hl, hm, hz, _, hcell, hwz⟩
    · simp [Value.cells] at hcs
      obtain ⟨rfl, rfl, rfl⟩ := hcs
      exact ⟨[], .inl ⟨rfl, rfl, rfl, rfl⟩⟩
    · simp [Value.cells] at hcs
      obtain ⟨rfl, rfl, rfl⟩ := hcs
      exact ⟨zs, .inr ⟨_, rfl, hl, hm, by simpa using hz, hcell, hwz⟩⟩
  obtain ⟨s1, len1, cap1, rfl⟩ := okWide_slice Tryd.underlying23 (hval 1 23 v1 rfl rfl)
  obtain ⟨z1, w1⟩ : ∃ zs, IsRow .u8 W s1 len1 cap1 zs := by
    obtain ⟨fuel, hf⟩ := h1
    rcases open_ints Tryd.underlying23 Tryd.underlying5 (by kernel_rfl) hf with ⟨hcs, _⟩ | ⟨x, l, c, zs, hcs, _, hl, hm, hz, _, hcell, hwz⟩
    · simp [Value.cells] at hcs
      obtain ⟨rfl, rfl, rfl⟩ := hcs
      exact ⟨[], .inl ⟨rfl, rfl, rfl, rfl⟩⟩
    · simp [Value.cells] at hcs
      obtain ⟨rfl, rfl, rfl⟩ := hcs
      exact ⟨zs, .inr ⟨_, rfl, hl, hm, by simpa using hz, hcell, hwz⟩⟩
  clear hA0 hval0
  refine (walk W s0 len0 cap0 z0 w0 s1 len1 cap1 z1 w1 hsh hL).mono fun e W' ⟨he, bel⟩ => ?_
  subst he
  exact ⟨_, rfl, _, _, _, [], _, [], hW', trodAll_mk1 (shut_bool Tryd.underlying4 _), (trodAll_cons_mk (Below.trod laidOut (by kernel_rfl) (of_decide_eq_true (by kernel_rfl)) k0 bel lt0) (trodAll_cons_mk (Below.trod laidOut (by kernel_rfl) (of_decide_eq_true (by kernel_rfl)) k1 bel lt1) trodAll_mk0)), rfl, bel.frame _, fun h => by cases h⟩

theorem over : Rows.relrJoinRow.holds Tryd.pinned (OpenSpec.ofChange Rows.relrJoinSpec) :=
  OpenClaim.holds_of_wide 5 Tryd.f5 rfl rfl rfl rfl rfl rfl rfl ⟨rfl, rfl, rfl, rfl, rfl⟩ rfl rfl rfl rfl rfl (by kernel_rfl) Tryd.func5 (by kernel_rfl)
    (of_decide_eq_true (by kernel_rfl)) (by unfold Func.isWrapper; first | (rw [if_pos (by decide +kernel)]; kernel_rfl) | (rw [if_neg (by decide +kernel)]; exact ⟨rfl, rfl⟩))
    (fun os started H enc _ => lifted os started H enc)

theorem card : Claim7.holds Tryd.pinned (.plain (OpenSpec.ofChange Rows.relrJoinSpec)) Rows.relrJoinCard :=
  Claim7.holds_tied_plain_at .later [] [.data] true (true, "73dd9be6a7915c435eec3f836ed95af60a08f854c12b8c88d264605d84a10de0") false over (fun _ h => by cases h) (by kernel_rfl) (fun _ h => by cases h) relrJoin_row_tie rfl ⟨rfl, rfl⟩ (by kernel_rfl) rfl
    (fun f fn hf hfn => by
      obtain rfl : f = 5 := Option.some.inj ((show Tryd.prog.funcNamed Rows.relrJoinRow.func = some 5 by kernel_rfl).symm.trans hf) |>.symm
      obtain rfl : fn = Tryd.f5 := (Option.some.inj (Tryd.func5.symm.trans hfn)).symm
      exact ⟨by kernel_rfl, fun j t ht => by
        rw [Tryd.params5] at ht
        have hm : t ∈ [23] := by simpa using Array.mem_of_getElem? ht
        have hall : ([23].all fun u => !Tryd.prog.wantsStandIn u) = true := by kernel_rfl
        exact (show Tryd.prog.wantsStandIn t = false by simpa using List.all_eq_true.1 hall t hm)⟩)
    (by kernel_rfl)
end LRelrJoin
theorem RelrJoin_proved : Rows.RelrJoinCardSaid := LRelrJoin.card
end Go.Proofs.YtkelipoiopkokabDoor
