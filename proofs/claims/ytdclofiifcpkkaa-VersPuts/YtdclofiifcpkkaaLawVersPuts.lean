
/-
  VersPuts returns true for every row of bytes, and the row reads afterwards as it read before: no condition.
-/
import Derived.Test.YtdclofiifcpkkaaRows
import Derived.Test.YtdclofiifcpkkaaVeZs
import Derived.Test.YtdclofiifcpkkaaSzd
import Derived.WalkKit
import Derived.ProofKit
import Derived.OpenShut
import Derived.ShutString
import Derived.ChangeOld
import Derived.Below
import Derived.SizedLaws
set_option linter.unusedVariables false
namespace Go.Proofs.Ytdclofiifcpkkaa
namespace LVersPuts
open Go.ChangeShapes Go.WideShapes Go.ChangeAt Go.RowKit Go.PlainAid Go.Sort
def pcode (O : Option (List Sy)) : Int := if O.isSome = true then 0 else 110
theorem put_get {w' : World} {B : Nat} {O : Option (List Sy)} {n : Nat} (hn : n ≤ 256) (hl : ∀ D, O = some D → D.length = n) {w : World} {e : Ending} (h : PutIs w w' B O e) :
    ∃ a m c, e = .returned (.tuple #[.slice a m c, .int .i64 (pcode O)]) ∧ ArgSy w' (.slice a m c) (O.getD []) := by
  cases O with
  | none => exact ⟨none, 0, 0, h, ArgSy.nil _⟩
  | some D =>
    obtain ⟨v, rfl, ho⟩ := h
    have hA := ho.arg (by rw [hl D rfl]; omega)
    obtain ⟨a, c, rfl⟩ := hA.form
    exact ⟨a, _, c, rfl, hA⟩
theorem putR_get {w' : World} {O : Option (List Sy)} {e : Ending} (h : PutIsR w' O e) :
    ∃ a m c, e = .returned (.tuple #[.slice a m c, .int .i64 (pcode O)]) ∧ ArgSy w' (.slice a m c) (O.getD []) := by
  cases O with
  | none => exact ⟨none, 0, 0, h, ArgSy.nil _⟩
  | some D =>
    obtain ⟨v, rfl, hA⟩ := h
    obtain ⟨a, c, rfl⟩ := hA.form
    exact ⟨a, _, c, rfl, hA⟩
set_option maxHeartbeats 8000000 in
set_option maxRecDepth 20000 in
theorem core (w : World) (v : Value) (l : List UInt8) (h : Arg w v l) (hl : l.length ≤ 140737488351232) :
    Calls Try.prog 3 #[v] w fun e w' => e = .returned (.bool true) ∧ Below w.heap.size w w' := by
  have kR := law_read w v l h hl
  have HA := hide h
  obtain ⟨a, cap, rfl, _, _, _⟩ := h.isSlice
  obtain ⟨n, hn⟩ : ∃ n, l.length = n := ⟨_, rfl⟩
  have HN := hide hn
  rw [hn] at kR HA hl ⊢
  clear h hn
  go_enter Try.func3, Try.ntmps3
  go_wp2_with fail
  refine kR.mono ?_
  rintro e w1 ⟨hR, hb1⟩
  have HB1 := hide hb1
  have HA1 := hide (HA.out.below' hb1)
  have HZ1 := hide (Yy.begin w1)
  clear kR hb1 HA
  rcases hR with ⟨hc, dc, l16, l40, o1, o2, rfl⟩ | ⟨hd, D, a1, n1, c1, na, nn, nc, vs, S, hl2, hp, hdz, hAh, hAs, hne, hS6, hbare, rfl⟩
  · have HSH : Hid (∀ w, (Go.sizeOf 30).run Try.prog w = .ok hc.length w) := by rw [Hid, l16]; exact hd_size
    have HSD : Hid (∀ w, (Go.sizeOf 35).run Try.prog w = .ok dc.length w) := by rw [Hid, l40]; exact dy_size
    have HF1 : Hid (0 + hc.length ≤ zeroHd.toArray.size) := by rw [Hid, l16]; exact Nat.le_refl 16
    have HF2 : Hid (0 + dc.length ≤ zeroDy.toArray.size) := by rw [Hid, l40]; exact Nat.le_refl 40
    have HO1 := hide o1
    have HO2 := hide o2
    have HN1 := hide (store_new (zs := zeroHd) (cs := hc) (by rw [l16]; rfl))
    have HN2 := hide (store_new (zs := zeroDy) (cs := dc) (by rw [l40]; rfl))
    clear l16 l40 o1 o2
    go_wp2_with (first
      | ((with_reducible refine at_allocT (T := 30) ?_); refine alloc_opR rfl rfl _ _ (alloc_hd _) ?_)
      | ((with_reducible refine at_allocT (T := 35) ?_); refine alloc_opR rfl rfl _ _ (alloc_dy _) ?_)
      | ((with_reducible refine at_storeT (T := 30) ?_); refine store_part rfl _ _ _ rfl w1.heap.size 0 30 _ hc hc.toArray HZ1.out.z2 rfl rfl HSH.out HO1.out HF1.out HN1.out ?_))
    intro w2 hg2 hb2
    have HZ2 := hide (HZ1.out.set2 hg2 hb2)
    clear hg2 hb2 HZ1
    go_wp2_with ((with_reducible refine at_storeT (T := 35) ?_); refine store_part rfl _ _ _ rfl (w1.heap.size + 1) 0 35 _ dc dc.toArray HZ2.out.z3 rfl rfl HSD.out HO2.out HF2.out HN2.out ?_)
    intro w3 hg3 hb3
    have HZ3 := hide (HZ2.out.set3 hg3 hb3)
    have HB3 : Hid (Below w.heap.size w w3) := HB1.out.trans (HZ3.out.b.mono HB1.out.size)
    have hAl := alive11 w3
    clear hg3 hb3 HZ2 HZ3
    go_wp2_with fail
    refine hAl.mono ?_
    rintro e w4 ⟨rfl, hb4⟩
    have HB4 : Hid (Below w.heap.size w w4) := HB3.out.trans (hb4.mono HB3.out.size)
    clear hAl hb4
    go_wp2
    go_ret
    exact ⟨rfl, HB4.out⟩
  · have HSM : Hid (∀ p ∈ hd.loads, p.off + p.filesz ≤ 1000000) := fun p hq => (parse_small hp hl2 p hq).1
    have HLO := hide (parse_lo hp)
    have HPH := hide (parse_ok hp).2.1
    have HLM : Hid (l.length ≤ 1000000) := Nat.le_trans hl2 (by decide)
    have HV := hide (fun t => val_le (dyn_ents hdz) t)
    have HNE := hide hne
    have HS6 := hide hS6
    have HBARE := hide hbare
    obtain ⟨DC, hDC⟩ : ∃ DC, dyCells D.so D.ru (.slice na nn nc) D.ents = DC := ⟨_, rfl⟩
    have HD40 : Hid (DC.length = 40) := by rw [Hid, ← hDC]; exact dy_len _ _ _ _
    have HD1 : Hid (∀ u ∈ DC, u.oneCell' = true) := by rw [Hid, ← hDC]; exact dy_one _ _ _ _ _ _
    have h7 : DC.toArray[7]? = some (.int .u64 (valT D.ents 5 : Nat)) := by rw [← hDC]; rfl
    have h8 : DC.toArray[8]? = some (.int .u64 (valT D.ents 10 : Nat)) := by rw [← hDC]; rfl
    have h12 : DC.toArray[12]? = some (.int .u64 (valT D.ents 1879048176 : Nat)) := by rw [← hDC]; rfl
    have h13 : DC.toArray[13]? = some (.int .u64 (valT D.ents 1879048188 : Nat)) := by rw [← hDC]; rfl
    have h14 : DC.toArray[14]? = some (.int .u64 (valT D.ents 1879048190 : Nat)) := by rw [← hDC]; rfl
    have h15 : DC.toArray[15]? = some (.int .u64 (valT D.ents 1879048189 : Nat)) := by rw [← hDC]; rfl
    have h16 : DC.toArray[16]? = some (.int .u64 (valT D.ents 1879048191 : Nat)) := by rw [← hDC]; rfl
    have HSZ : Hid (∀ w, (Go.sizeOf 35).run Try.prog w = .ok DC.length w) := by rw [Hid, HD40.out]; exact dy_size
    have HNW := hide (store_new (zs := zeroDy) (cs := DC) (by rw [HD40.out]; rfl))
    have HS40 : Hid (DC.toArray.size = 40) := by rw [Hid, List.size_toArray]; exact HD40.out
    have HKP := hide (fun X vX (hX : Below w1.heap.size w1 X) (hSX : ArgSy X vX S) => ve_Put X (.slice a n cap) l (HA1.out.below' hX) hd.machine (.slice a1 n1 c1) hd.dynamic hd.relro hd.loads (hAh.below hX) HPH.out HSM.out HLO.out DC.toArray HS40.out (valT D.ents 5) (valT D.ents 10) h7 h8 (by have := HV.out 5; omega) (by have := HV.out 10; omega)
      ⟨valT D.ents 1879048188, valT D.ents 1879048189, valT D.ents 1879048190, valT D.ents 1879048191⟩ h13 h14 h15 h16 (by have := HV.out 1879048188; simp only; omega) (by have := HV.out 1879048190; simp only; omega) (by have := HV.out 1879048189; simp only; omega) (by have := HV.out 1879048191; simp only; omega)
      (valT D.ents 1879048176) h12 (by have := HV.out 1879048176; omega) vX S hSX HNE.out (Nat.le_trans HS6.out (by decide)) HLM.out)
    have HKQ := hide (fun X vX (hX : Below w1.heap.size w1 X) (hSX : ArgSy X vX S) => rf_Put X (.slice a n cap) l (HA1.out.below' hX) hd.machine (.slice a1 n1 c1) hd.dynamic hd.relro hd.loads (hAh.below hX) HPH.out HSM.out HLO.out DC.toArray HS40.out (valT D.ents 5) (valT D.ents 10) h7 h8 (by have := HV.out 5; omega) (by have := HV.out 10; omega)
      ⟨valT D.ents 1879048188, valT D.ents 1879048189, valT D.ents 1879048190, valT D.ents 1879048191⟩ h13 h14 h15 h16 (by have := HV.out 1879048188; simp only; omega) (by have := HV.out 1879048190; simp only; omega) (by have := HV.out 1879048189; simp only; omega) (by have := HV.out 1879048191; simp only; omega)
      (valT D.ents 1879048176) h12 (by have := HV.out 1879048176; omega) vX S hSX HBARE.out (Nat.le_trans HS6.out (by decide)) HLM.out)
    have HGE := hide (fun DD (e : vputZ l hd.loads (partZ l hd.loads (valT D.ents 5) (valT D.ents 10)).1 (partZ l hd.loads (valT D.ents 5) (valT D.ents 10)).2 ⟨valT D.ents 1879048188, valT D.ents 1879048189, valT D.ents 1879048190, valT D.ents 1879048191⟩ (valT D.ents 1879048176) S = some DD) => (vput_get e).1)
    obtain ⟨PO, hPO⟩ : ∃ o, vputZ l hd.loads (partZ l hd.loads (valT D.ents 5) (valT D.ents 10)).1 (partZ l hd.loads (valT D.ents 5) (valT D.ents 10)).2 ⟨valT D.ents 1879048188, valT D.ents 1879048189, valT D.ents 1879048190, valT D.ents 1879048191⟩ (valT D.ents 1879048176) S = o := ⟨_, rfl⟩
    rw [hPO] at HKP HKQ HGE
    rw [hDC]
    have HAS := hide hAs
    obtain ⟨sa, scp, rfl⟩ := hAs.form
    obtain ⟨sn, hsn⟩ : ∃ sn, S.length = sn := ⟨_, rfl⟩
    have HSN := hide hsn
    rw [hsn] at HAS ⊢
    clear h7 h8 h12 h13 h14 h15 h16 hDC hPO HPH HSM HLO HV hl2 hp hdz hAh hAs hne hS6 hbare hsn
    go_wp2_with (first
      | ((with_reducible refine at_allocT (T := 30) ?_); refine alloc_opR rfl rfl _ _ (alloc_hd _) ?_)
      | ((with_reducible refine at_allocT (T := 35) ?_); refine alloc_opR rfl rfl _ _ (alloc_dy _) ?_)
      | ((with_reducible refine at_storeT (T := 30) ?_); refine store_part rfl _ _ _ rfl w1.heap.size 0 30 _ (hdCells hd.machine (.slice a1 n1 c1) hd.dynamic hd.relro) (hdCells hd.machine (.slice a1 n1 c1) hd.dynamic hd.relro).toArray HZ1.out.z2 rfl rfl hd_size (hd_one _ _ _ _ _ _) (Nat.le_refl 16) (by rfl) ?_))
    intro w2 hg2 hb2
    have HZ2 := hide (HZ1.out.set2 hg2 hb2)
    clear hg2 hb2 HZ1
    go_wp2_with ((with_reducible refine at_storeT (T := 35) ?_); refine store_part rfl _ _ _ rfl (w1.heap.size + 1) 0 35 _ DC DC.toArray HZ2.out.z3 rfl rfl HSZ.out HD1.out (by rw [HD40.out]; exact Nat.le_refl 40) HNW.out ?_)
    intro w3 hg3 hb3
    have HZ3 := hide (HZ2.out.set3 hg3 hb3)
    have HAS3 := hide (HAS.out.below HZ3.out.b)
    have HE3 := hide (ownsy_empty w3)
    have HAS4 := hide (HAS3.out.below (below1 w3 (.cells #[] 48)))
    have HL4 : Hid (w3.heap.size ≤ (w3.alloc (.cells #[] 48)).heap.size) := by unfold Hid; simp
    have HSL : Hid (([] : List Sy).length ≤ 1000000) := by unfold Hid; simp
    clear hg3 hb3 HZ2
    go_wp2_with (at_builtin; refine append_sys rfl _ _ rfl w3.heap.size _ _ HE3.out _ S HAS4.out rfl rfl HNE.out HSL.out HL4.out ?_)
    intro v5 w5 ho5 hb5
    have HB35 : Hid (Below w3.heap.size w3 w5) := (below1 w3 (.cells #[] 48)).trans hb5
    have HZ5 := hide (HZ3.out.stay HB35.out)
    have HAS5 := hide (HAS3.out.below HB35.out)
    have HO5 := hide (ho5.arg (by have := HS6.out; omega))
    obtain ⟨oa, oc, rfl⟩ : ∃ a c, v5 = .slice a sn c := by
      obtain ⟨a, c, e⟩ := ho5.form
      rw [HSN.out] at e; exact ⟨_, _, e⟩
    have kP := HKP.out w5 _ HZ5.out.b HO5.out
    clear ho5 hb5 HB35 HZ3 HAS3 HAS4 HE3 HL4 HKP
    go_wp2_with (first
      | ((with_reducible refine at_load ?_); refine load_row rfl _ _ rfl w1.heap.size _ (load_hd HZ5.out.z2 rfl) rfl ?_)
      | ((with_reducible refine at_loadD ?_); refine load_row rfl _ _ rfl (w1.heap.size + 1) _ (load_dy HZ5.out.z3 HS40.out) rfl ?_))
    refine kP.mono ?_
    rintro e w6 ⟨hE, hb6⟩
    obtain ⟨xa, xm, xc, rfl, hX⟩ := put_get HS6.out HGE.out hE
    have HZ6 := hide (HZ5.out.stay hb6)
    have HAS6 := hide (HAS5.out.below hb6)
    have HO6 := hide (HO5.out.below hb6)
    have HX6 := hide hX
    have kQ := HKQ.out w6 _ HZ6.out.b HAS6.out
    clear kP hE hX hb6 HZ5 HAS5 HO5 HKQ
    go_wp2_with (first
      | ((with_reducible refine at_load ?_); refine load_row rfl _ _ rfl w1.heap.size _ (load_hd HZ6.out.z2 rfl) rfl ?_)
      | ((with_reducible refine at_loadD ?_); refine load_row rfl _ _ rfl (w1.heap.size + 1) _ (load_dy HZ6.out.z3 HS40.out) rfl ?_))
    refine kQ.mono ?_
    rintro e w7 ⟨hE, hb7⟩
    obtain ⟨ya, ym, yc, rfl, hY⟩ := putR_get hE
    have HZ7 := hide (HZ6.out.stay hb7)
    have HAS7 := hide (HAS6.out.below hb7)
    have HO7 := hide (HO6.out.below hb7)
    have kS := ref10_Same w7 _ _ _ (HX6.out.below hb7) hY
    generalize pcode PO = kk at *
    have hkk : (kk == kk) = true := by simp
    clear kQ hE hb7 HZ6 HAS6 HO6 HX6 hY
    go_wp2_with fail
    refine kS.mono ?_
    rintro e w8 ⟨rfl, hb8⟩
    have HB8 : Hid (Below w.heap.size w w8) := HB1.out.trans ((HZ7.out.b.trans (hb8.mono HZ7.out.b.size)).mono HB1.out.size)
    have kS2 := ref10_Same w8 _ _ _ (HO7.out.below hb8) (HAS7.out.below hb8)
    clear kS hb8 HZ7 HO7 HAS7
    go_wp2_with fail
    refine kS2.mono ?_
    rintro e w9 ⟨rfl, hb9⟩
    have HB9 : Hid (Below w.heap.size w w9) := HB8.out.trans (hb9.mono HB8.out.size)
    have hAl := alive11 w9
    clear kS2 hb9 HB8
    go_wp2_with fail
    refine hAl.mono ?_
    rintro e w10 ⟨rfl, hb10⟩
    have HB10 : Hid (Below w.heap.size w w10) := HB9.out.trans (hb10.mono HB9.out.size)
    clear hAl hb10
    go_wp2
    go_ret
    exact ⟨rfl, HB10.out⟩
theorem walk (w : World) (s0 : Option Addr) (len0 cap0 : Nat) (z0 : List Int) (h : IsRow .u8 w s0 len0 cap0 z0) (hb : len0 ≤ 140737488351232) :
    Calls Try.prog 3 #[.slice s0 len0 cap0] w fun e w' => e = .returned (.bool true) ∧ Below w.heap.size w w' := by
  obtain ⟨e, ha⟩ := h.arg hb
  have k := core w _ _ ha (by omega)
  exact k
theorem own : ownKnob Try.prog.godebug = none := by kernel_rfl
theorem laidOut : laidOutB Try.prog = true := by kernel_rfl
set_option maxRecDepth 100000 in
theorem lifted (os : Os) (started : os.Started) (H : Type) (enc : TypeId × Value → H) :
    ReturnsInHanded {} Try.checked os 3 .any (Rows.versPutsSpec.pre6 enc Try.prog Try.f3 Rows.versPutsRow.domain false) (Rows.versPutsSpec.post enc Try.prog Try.f3 false true false false) := by
  refine returnsInHanded_of_change_sized (C := Try.checked) own started (by kernel_rfl) Try.func3
    (ChangeSpec.witness6 (enc := enc) (C := Try.checked) false ⟨#[], #[.slice none 0 0], []⟩ 8 (by kernel_rfl) (by kernel_rfl) (by kernel_rfl) (by kernel_rfl)) ?_
  intro W base args ds gs before hval0 hW hcnd hz _
  have hval : ∀ (j : Nat) t v, Try.f3.params[j]? = some t → args[j]? = some v → Value.okWide Try.prog W .any base t v := hval0
  have hW' := hW
  obtain ⟨p, q, hA0, hV, rfl, hfz, hnd⟩ := hW
  have hA : DataW.TrodAll enc Try.prog W 0 (fun _ => true) true Try.f3.params.toList args.toList ds p := hA0
  rw [Try.params3] at hA hval
  obtain ⟨v0, vs0, d0, ds0, p0, q0, hargs, rfl, rfl, h0, r0⟩ := trodAll_cons hA
  obtain ⟨rfl, rfl, rfl⟩ := trodAll_nil r0
  obtain rfl : args = #[v0] := by cases args; simp_all
  obtain ⟨rfl, rfl⟩ := trodVars_none hV
  have k0 := h0
  have lt0 : ∀ x ∈ p0, x.block < W.heap.size := by obtain ⟨m, hm⟩ := k0; exact DataW.trod_lt m _ _ _ hm
  obtain ⟨s0, len0, cap0, rfl⟩ := okWide_slice Try.underlying22 (hval 0 22 v0 rfl rfl)
  obtain ⟨z0, w0⟩ : ∃ zs, IsRow .u8 W s0 len0 cap0 zs := by
    obtain ⟨fuel, hf⟩ := h0
    rcases open_ints Try.underlying22 Try.underlying5 (by kernel_rfl) hf with ⟨hcs, _⟩ | ⟨x, l, c, zs, hcs, _, hl, hm, hz, _, hcell, hwz⟩
    · simp [Value.cells] at hcs
      obtain ⟨rfl, rfl, rfl⟩ := hcs
      exact ⟨[], .inl ⟨rfl, rfl, rfl, rfl⟩⟩
    · simp [Value.cells] at hcs
      obtain ⟨rfl, rfl, rfl⟩ := hcs
      exact ⟨zs, .inr ⟨_, rfl, hl, hm, by simpa using hz, hcell, hwz⟩⟩
  have b0 := bytes_reach h0 (fun k hk => by have := List.all_eq_true.1 hz k (DataW.weights_mem_each (j := 0) (t := 22) (d := d0) (by rw [Try.params3]; rfl) rfl k hk); simpa using this)
  clear hA0 hval0
  refine (walk W s0 len0 cap0 z0 w0 b0).mono fun e W' ⟨he, bel⟩ => ?_
  subst he
  exact ⟨_, rfl, _, _, _, [], _, [], hW', trodAll_mk1 (shut_bool Try.underlying4 _), (trodAll_cons_mk (Below.trod laidOut (by kernel_rfl) (of_decide_eq_true (by kernel_rfl)) k0 bel lt0) trodAll_mk0), rfl, bel.frame _, fun h => by cases h⟩

theorem over : Rows.versPutsRow.holds Try.pinned (OpenSpec.ofChange Rows.versPutsSpec) :=
  OpenClaim.holds_of_wide 3 Try.f3 rfl rfl rfl rfl rfl rfl rfl ⟨rfl, rfl, rfl, rfl, rfl⟩ rfl rfl rfl rfl rfl (by kernel_rfl) Try.func3 (by kernel_rfl)
    (of_decide_eq_true (by kernel_rfl)) (by unfold Func.isWrapper; first | (rw [if_pos (by decide +kernel)]; kernel_rfl) | (rw [if_neg (by decide +kernel)]; exact ⟨rfl, rfl⟩))
    (fun os started H enc _ => lifted os started H enc)
end LVersPuts
theorem VersPuts_proved : Rows.VersPutsSaid := LVersPuts.over
end Go.Proofs.Ytdclofiifcpkkaa
