
/-
  ZipBack returns true for every row of files, and the row reads afterwards as it read before: no condition.
-/
import Derived.Test.YtegcdddfccmljaaRows
import Derived.Test.YtegcdddfccmljaaZpQ
import Derived.Test.YtegcdddfccmljaaZpS
import Derived.WalkKit
import Derived.ProofKit
import Derived.OpenShut
import Derived.ShutString
import Derived.ChangeOld
import Derived.Below
set_option linter.unusedVariables false
namespace Go.Proofs.Ytegcdddfccmljaa
namespace LZipBack
open Go.ChangeShapes Go.WideShapes Go.ChangeAt Go.RowKit
set_option maxHeartbeats 8000000 in
set_option maxRecDepth 20000 in
theorem walk (w : World) (s0 : Option Addr) (len0 cap0 : Nat) (h0 : IsFls w s0 len0 cap0) :
    Calls Try.prog 6 #[.slice s0 len0 cap0] w fun e w' => e = .returned (.bool true) ∧ Below w.heap.size w w' := by
  obtain ⟨fs, hl, hF⟩ := h0.list
  obtain ⟨hlc, hcm, _⟩ := h0
  subst hl
  have hcap2 : cap0 ≤ 9223372036854775807 := by unfold maxLen at hcm; omega
  have hGr := law_great w s0 cap0 fs hlc hcm hF
  have HF := hide hF
  have HCM := hide hcm
  have HLC := hide hlc
  have HBR : Hid (Below w.heap.size w w) := Below.refl _ _
  clear hF hcm
  go_enter Try.func6, Try.ntmps6
  go_wp2_with fail
  refine hGr.mono ?_
  rintro e w1 ⟨⟨b, rfl, hB⟩, rfl⟩
  clear hGr
  rcases hB with rfl | ⟨rfl, h300, hsm⟩
  · go_wp2
    go_ret
    exact ⟨rfl, HBR.out⟩
  have HFA := hide (HF.out.files hsm)
  have hMk := zip_Make w s0 cap0 fs HLC.out HCM.out HFA.out
  clear hsm
  go_wp2_with fail
  refine hMk.mono ?_
  rintro e w1 ⟨hE, hb1⟩
  have HB1 := hide hb1
  clear hMk hb1
  cases hO : makeN fs with
  | error c =>
    rw [hO] at hE
    have hE' : e = _ := hE
    subst hE'
    have hc : (c != 0) = true := by simpa using makeN_err hO
    have hAl := alive07 w1
    clear hE hO
    go_wp2_with (go_at_call 9; refine hAl.mono ?_; rintro e w2 ⟨rfl, hb2⟩)
    go_ret
    exact ⟨rfl, HB1.out.trans (hb2.mono HB1.out.size)⟩
  | ok bb =>
    rw [hO] at hE
    obtain ⟨v1, rfl, hown⟩ := hE
    obtain ⟨S, _, hbl, h22, hchk, hRZ⟩ := read_made fs bb hO
    have HO := hide hO
    have HCK := hide hchk
    obtain ⟨N, hN⟩ : ∃ N, bb.length = N := ⟨_, rfl⟩
    have HN := hide hN
    rw [hN] at hbl h22
    obtain ⟨g1, cb, hv1, _, hg1, hcb1, hcb2, _⟩ := hown.form (by intro e; rw [e] at hN; simp at hN; omega)
    rw [hN] at hv1 hcb1
    subst hv1
    have HOW1 := hide hown
    have hLs := zip_List w1 _ bb (hown.arg (by omega))
    rw [hRZ] at hLs
    clear hown hO hRZ hchk hN
    go_wp2_with fail
    refine hLs.mono ?_
    rintro e w2 ⟨hE, hb2⟩
    obtain ⟨v2, rfl, hown2⟩ := hE
    have HB2 : Hid (Below w.heap.size w w2) := HB1.out.trans (hb2.mono HB1.out.size)
    have HW1 := hide (HOW1.out.stay hb2)
    have HO2 := hide hown2
    obtain ⟨a2, c2, hv2⟩ := hown2.none
    rw [ents_len] at hv2
    subst hv2
    have hne : ((fs.length : Int) != (fs.length : Int)) = false := by simp
    have hcb3 : cb ≤ 9223372036854775807 := by unfold maxLen at hcb2; omega
    clear hLs hb2 hown2 HOW1
    go_wp2
    go_loopw [7, 8, 9, 10, 11, 12] (fun v7 _ _ _ _ _ wr => ∃ i : Nat, i ≤ fs.length ∧ v7 = .int .i64 i ∧ Hid (Below w2.heap.size w2 wr)) (fun v7 _ _ _ _ _ _ => fs.length - (intOf v7).toNat)
    case atStart => exact ⟨0, by omega, rfl, Below.refl _ _⟩
    case round =>
      obtain ⟨i, hi, rfl, HB⟩ := hrel
      by_cases hlt : i < fs.length
      · have hltI : (i : Int) < (fs.length : Int) := by omega
        obtain ⟨y, oo, rfl, hfl⟩ : ∃ y o, s0 = some ⟨y, o, none⟩ ∧ ∀ i (h : i < fs.length), IsFl w y (o + i * 2) fs[i] := by
          rcases HFA.out with e | e
          · rw [e] at hlt; simp at hlt
          · exact e
        have HBw : Hid (Below w.heap.size w wr) := HB2.out.trans (HB.out.mono HB2.out.size)
        have HFL : Hid (∀ i (h : i < fs.length), IsFl wr y (oo + i * 2) fs[i]) := fun i h => (hfl i h).below HBw.out
        clear hfl
        go_wp2
        go_loopw [8, 9] (fun v8 v9 wr' => (∃ q, wr' = wr.drewN q) ∧ ∃ (k F : Nat), k ≤ i + 1 ∧ v9 = .int .i64 ((k : Int) - 1) ∧ v8 = .int .i64 F ∧ F ≤ i ∧ Hid (∃ h : F < fs.length, fs[F].name = fs[i].name ∧ ∀ j (hj : j < fs.length), k ≤ j → j ≤ i → fs[j].name = fs[i].name → F ≤ j)) (fun _ v9 _ => (intOf v9 + 1).toNat)
        case atStart => exact ⟨⟨0, rfl⟩, i + 1, i, by omega, by go_num, rfl, by omega, hlt, rfl, fun j hj h1 h2 _ => by omega⟩
        case round =>
          obtain ⟨⟨q, rfl⟩, k, F, hk, rfl, rfl, hFi, HFF⟩ := hrel
          by_cases hk0 : k = 0
          · subst hk0
            rw [show ((0 : Nat) : Int) - 1 = -1 by decide]
            obtain ⟨hFl, hFn, hmin⟩ := HFF.out
            obtain ⟨p, hfz, hp256, hpl, hwin⟩ := find_made fs (fs.take F) (fs.drop (F + 1)) fs[F] bb HO.out (by rw [← List.drop_eq_getElem_cons hFl, List.take_append_drop]) (fun g hg hgn => by
              obtain ⟨t, ht, e⟩ := List.getElem_of_mem hg
              have ht2 : t < F := by rw [List.length_take] at ht; omega
              rw [List.getElem_take] at e
              have := hmin t (by omega) (by omega) (by omega) (by rw [e, hgn, hFn])
              omega)
            have hck := chkF_zero (HCK.out fs[F] (List.getElem_mem hFl))
            have HBq : Hid (Below w2.heap.size w2 (wr.drewN q)) := ⟨HB.out.os, HB.out.tape, HB.out.output, HB.out.size, HB.out.block⟩
            have hOq := HW1.out.stay HBq.out
            have hFd := zip_Find (wr.drewN q) _ bb fs[i].name (hOq.arg (by rw [HN.out]; omega))
            have hfz2 : findZ bb fs[i].name = (p, fs[F].data.length, 0) := by rw [← hFn]; exact hfz
            rw [hfz2] at hFd
            simp only [findV] at hFd
            have ki := HFL.out i hlt
            have kF := HFL.out F hFl
            have y0 := ki.c0
            have HKI := hide ki
            have HKF := hide kF
            have HOq := hide hOq
            have HEN := hide (ents_name fs 0 i hlt)
            have HWI := hide hwin
            rw [HN.out] at hpl
            clear hfz hfz2 hmin hFn ki kF hOq hwin HFF
            obtain ⟨D, hD⟩ : ∃ D, fs[F].data.length = D := ⟨_, rfl⟩
            rw [hD] at hFd hpl hck HWI
            have HD := hide hD
            clear hD
            go_wp2_with fail
            refine hFd.mono ?_
            rintro e W3 ⟨rfl, hb3⟩
            have HB3 : Hid (Below w2.heap.size w2 W3) := HBq.out.trans (hb3.mono HBq.out.size)
            have zI := (HKI.out.below (⟨rfl, rfl, rfl, Nat.le_refl _, fun _ _ => rfl⟩ : Below wr.heap.size wr (wr.drewN q))).below hb3
            have zF := (HKF.out.below (⟨rfl, rfl, rfl, Nat.le_refl _, fun _ _ => rfl⟩ : Below wr.heap.size wr (wr.drewN q))).below hb3
            have oq := HOq.out.stay hb3
            have aq := oq.arg (by rw [HN.out]; omega)
            obtain ⟨g2, c2', e2, hc21, hc22, hg2, hcc⟩ := HO2.out.cells (by rw [ents_len]; omega)
            rw [ents_len] at e2 hc21
            injection e2 with e21 e22 e23
            subst e21 e23
            have hc2l : c2 ≤ 9223372036854775807 := by unfold maxLen at hc22; omega
            have x0 := (hcc i (by rw [ents_len]; exact hlt)).1
            rw [HEN.out] at x0
            have x0' : W3.cell? ⟨g2, i * 5, none⟩ = some (.string ⟨fs[i].name.toArray⟩) := by rw [HB3.out.cell (p := ⟨g2, i * 5, none⟩) hg2]; exact x0
            have z0 := zI.c0
            have z1 := zF.c1
            obtain ⟨va, vc, hvd, hv1, hv2, _⟩ := zF.arg.isSlice
            rw [hvd] at z1
            rw [HD.out] at z1 hv1
            have hvc : vc ≤ 9223372036854775807 := by unfold maxLen at hv2; omega
            have HDT : Hid (win bb p D = fs[F].data) := HWI.out
            have tF : ∀ k, (convert 22 9 (.slice va D vc)).run Try.prog (W3.drewN k) = .ok (.string ⟨fs[F].data.toArray⟩) (W3.drewN k) := fun k => by
              have k1 := zF.arg
              rw [hvd, HD.out] at k1
              have k2 : Arg (W3.drewN k) (.slice va D vc) fs[F].data := Arg.heap k1 rfl
              exact k2.text
            have hcp : ¬ cb = p := by omega
            have ad : (Addr.add ⟨g1, 0, none⟩ p) = ⟨g1, p, none⟩ := by rw [add_at, Nat.zero_add]
            have tB : ∀ k, (convert 22 9 (.slice (some ⟨g1, p, none⟩) D (cb - p))).run Try.prog (W3.drewN k) = .ok (.string ⟨fs[F].data.toArray⟩) (W3.drewN k) := fun k => by
              have a1 : Arg (W3.drewN k) (.slice (some ⟨g1, 0, none⟩) bb.length cb) bb := by rw [HN.out]; exact Arg.heap aq rfl
              have q1 := a1.cut p D (by rw [HN.out]; omega) hcp
              simp only [Option.map_some, ad] at q1
              rw [HDT.out] at q1
              exact q1.text
            clear zI zF oq aq hcc x0 hvd hb3 hFd y0 HKI HKF HOq HWI HDT HEN
            have f1 : 0 ≤ (p : Int) + (D : Int) := by omega
            have f2 : (p : Int) + (D : Int) ≤ (cb : Int) := by omega
            have f4 : (p : Int) ≤ (p : Int) + (D : Int) := by omega
            have t2 : ((p : Int) + (D : Int)).toNat = p + D := by omega
            have u0 : IntKind.u64.wrap ((p : Int) + (D : Int)) = (p : Int) + (D : Int) := by rw [IntKind.wrap_u64]; omega
            have u1 : IntKind.u64.wrap ((N : Int) - (p : Int)) = (N : Int) - (p : Int) := by rw [IntKind.wrap_u64]; omega
            have u2 : IntKind.u64.wrap (N : Int) = (N : Int) := by rw [IntKind.wrap_u64]; omega
            have u3 : IntKind.u64.wrap (D : Int) = (D : Int) := by rw [IntKind.wrap_u64]; omega
            have c256 : (((p : Int) % 256) != 0) = false := by simp; omega
            have c256t : (((p : Int).tmod 256) != 0) = false := by rw [Int.tmod_eq_emod_of_nonneg (by omega)]; exact c256
            have c256e : ((p : Int).tmod 256 == 0) = true := by rw [Int.tmod_eq_emod_of_nonneg (by omega)]; simp; omega
            have c256n : p % 256 = 0 := hp256
            have cD : ((D : Int) != (D : Int)) = false := by simp
            have cN : decide ((N : Int) < (p : Int)) = false := decide_eq_false (by omega)
            have cS : decide ((N : Int) - (p : Int) < (D : Int)) = false := decide_eq_false (by omega)
            have cNn : decide (N < p) = false := decide_eq_false (by omega)
            have cNa : (p : Int) ≤ (N : Int) := by omega
            have cNb : ¬ (N : Int) < (p : Int) := by omega
            have cSa : (D : Int) ≤ (N : Int) - (p : Int) := by omega
            have cSb : ¬ (N : Int) - (p : Int) < (D : Int) := by omega
            have hFI : (F : Int) < (fs.length : Int) := by omega
            have cnm : (fs[i].name == fs[i].name) = true := by simp
            have cdt : (fs[F].data == fs[F].data) = true := by simp
            generalize fs[F].data = dF at *
            generalize fs[i].name = nm at *
            go_wp2_with fail
            go_quiet (fail)
            go_wp2
            go_roundw
            case rel => exact ⟨i + 1, by omega, by go_num, ⟨HB3.out.os, HB3.out.tape, HB3.out.output, HB3.out.size, HB3.out.block⟩⟩
            case measure => simp [intOf]; omega
          · obtain ⟨j, rfl⟩ : ∃ j, k = j + 1 := ⟨k - 1, by omega⟩
            have hj : j < fs.length := by omega
            have kj := HFL.out j hj
            have ki := HFL.out i hlt
            have x0 := kj.c0
            have y0 := ki.c0
            have e1 : ((j + 1 : Nat) : Int) - 1 = (j : Int) := by omega
            rw [e1]
            have hjI : (j : Int) < (fs.length : Int) := by omega
            by_cases hnm : fs[j].name = fs[i].name
            · have hb : (fs[j].name == fs[i].name) = true := by simpa using hnm
              have HF2 : Hid (∃ h : j < fs.length, fs[j].name = fs[i].name ∧ ∀ t (ht : t < fs.length), j ≤ t → t ≤ i → fs[t].name = fs[i].name → j ≤ t) := ⟨hj, hnm, fun t _ h _ _ => h⟩
              clear kj ki e1
              rw [hnm] at x0
              clear hnm hb
              generalize fs[i].name = nm at *
              go_wp2_with fail
              go_quiet (fail)
              go_wp2
              go_roundw
              case rel => exact ⟨⟨_, rfl⟩, j, j, by omega, rfl, rfl, by omega, HF2⟩
              case measure => simp [intOf]
            · have hb : (fs[j].name == fs[i].name) = false := by simpa using hnm
              have HF2 : Hid (∃ h : F < fs.length, fs[F].name = fs[i].name ∧ ∀ t (ht : t < fs.length), j ≤ t → t ≤ i → fs[t].name = fs[i].name → F ≤ t) := by
                obtain ⟨h1, h2, h3⟩ := HFF.out
                refine ⟨h1, h2, fun t ht ha hb' hc => ?_⟩
                by_cases htj : t = j
                · subst htj; exact absurd hc hnm
                · exact h3 t ht (by omega) hb' hc
              clear kj ki e1 hnm HFF
              generalize fs[j].name = nj at *
              generalize fs[i].name = nm at *
              go_wp2_with fail
              go_quiet (fail)
              go_wp2
              go_roundw
              case rel => exact ⟨⟨_, rfl⟩, j, F, by omega, rfl, rfl, by omega, HF2⟩
              case measure => simp [intOf]
      · have hltI : ¬ (i : Int) < (fs.length : Int) := by omega
        have hAl := alive07 wr
        have HBw : Hid (Below w.heap.size w wr) := HB2.out.trans (HB.out.mono HB2.out.size)
        go_wp2_with (go_at_call 9; refine hAl.mono ?_; rintro e w3 ⟨rfl, hb3⟩)
        go_ret
        exact ⟨rfl, HBw.out.trans (hb3.mono HBw.out.size)⟩
theorem own : ownKnob Try.prog.godebug = none := by kernel_rfl
theorem laidOut : laidOutB Try.prog = true := by kernel_rfl
set_option maxRecDepth 100000 in
theorem lifted (os : Os) (started : os.Started) (H : Type) (enc : TypeId × Value → H) :
    ReturnsInHanded {} Try.checked os 6 .any (Rows.zipBackSpec.pre6 enc Try.prog Try.f6 Rows.zipBackRow.domain false) (Rows.zipBackSpec.post enc Try.prog Try.f6 false true false false) := by
  refine returnsInHanded_of_change (C := Try.checked) own started (by kernel_rfl) Try.func6
    (ChangeSpec.witness6 (enc := enc) (C := Try.checked) false ⟨#[], #[.slice none 0 0], []⟩ 8 (by kernel_rfl) (by kernel_rfl) (by kernel_rfl) (by kernel_rfl)) ?_
  intro W base args ds gs before hval0 hW hcnd _
  have hval : ∀ (j : Nat) t v, Try.f6.params[j]? = some t → args[j]? = some v → Value.okWide Try.prog W .any base t v := hval0
  have hW' := hW
  obtain ⟨p, q, hA0, hV, rfl, hfz, hnd⟩ := hW
  have hA : DataW.TrodAll enc Try.prog W 0 (fun _ => true) true Try.f6.params.toList args.toList ds p := hA0
  rw [Try.params6] at hA hval
  obtain ⟨v0, vs0, d0, ds0, p0, q0, hargs, rfl, rfl, h0, r0⟩ := trodAll_cons hA
  obtain ⟨rfl, rfl, rfl⟩ := trodAll_nil r0
  obtain rfl : args = #[v0] := by cases args; simp_all
  obtain ⟨rfl, rfl⟩ := trodVars_none hV
  have k0 := h0
  have lt0 : ∀ x ∈ p0, x.block < W.heap.size := by obtain ⟨m, hm⟩ := k0; exact DataW.trod_lt m _ _ _ hm
  obtain ⟨s0, len0, cap0, rfl⟩ := okWide_slice Try.underlying41 (hval 0 41 v0 rfl rfl)
  have w0 := isOps_of h0
  clear hA0 hval0
  refine (walk W s0 len0 cap0 w0).mono fun e W' ⟨he, bel⟩ => ?_
  subst he
  exact ⟨_, rfl, _, _, _, [], _, [], hW', trodAll_mk1 (shut_bool Try.underlying4 _), (trodAll_cons_mk (Below.trod laidOut (by kernel_rfl) (of_decide_eq_true (by kernel_rfl)) k0 bel lt0) trodAll_mk0), rfl, bel.frame _, fun h => by cases h⟩

theorem over : Rows.zipBackRow.holds Try.pinned (OpenSpec.ofChange Rows.zipBackSpec) :=
  OpenClaim.holds_of_wide 6 Try.f6 rfl rfl rfl rfl rfl rfl rfl ⟨rfl, rfl, rfl, rfl, rfl⟩ rfl rfl rfl rfl rfl (by kernel_rfl) Try.func6 (by kernel_rfl)
    (of_decide_eq_true (by kernel_rfl)) (by unfold Func.isWrapper; first | (rw [if_pos (by decide +kernel)]; kernel_rfl) | (rw [if_neg (by decide +kernel)]; exact ⟨rfl, rfl⟩))
    (fun os started H enc _ => lifted os started H enc)
end LZipBack
theorem ZipBack_proved : Rows.ZipBackSaid := LZipBack.over
end Go.Proofs.Ytegcdddfccmljaa
