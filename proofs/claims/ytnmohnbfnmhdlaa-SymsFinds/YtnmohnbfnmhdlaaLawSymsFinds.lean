
/-
  SymsFinds returns true for every row of symbols and whatever is asked, and both read afterwards as they read before: no condition.
-/
import Derived.Test.YtnmohnbfnmhdlaaRows
import Derived.Test.YtnmohnbfnmhdlaaSyE
import Derived.Test.YtnmohnbfnmhdlaaSyFb
import Derived.Test.YtnmohnbfnmhdlaaSyK
import Derived.WalkKit
import Derived.ProofKit
import Derived.OpenShut
import Derived.ShutString
import Derived.ChangeOld
import Derived.Below
set_option linter.unusedVariables false
namespace Go.Proofs.Ytnmohnbfnmhdlaa
namespace LSymsFinds
open Go.ChangeShapes Go.WideShapes Go.ChangeAt Go.RowKit Go.PlainAid Go.Sort
open Go.ChangeMaps (open_string shut_string)
set_option maxHeartbeats 4000000 in
set_option maxRecDepth 20000 in
theorem core (w : World) (a : Option Addr) (cap : Nat) (l : List Sy) (h : SymsAt w a l) (hl : l.length ≤ cap) (hc : cap ≤ maxLen) (hl2 : l.length ≤ 1000) (x : Ak) (hx : OkAk x) :
    Calls Try.prog 5 #[.slice a l.length cap, .agg #[.bool x.vs, .string ⟨x.nm.toArray⟩, .string ⟨x.ver.toArray⟩, .int .u64 x.at_]] w fun e w' => e = .returned (.bool true) ∧ Below w.heap.size w w' := by
  obtain ⟨n, hN⟩ : ∃ n, l.length = n := ⟨_, rfl⟩
  have HN := hide hN
  have hcap : cap ≤ 9223372036854775807 := by unfold maxLen at hc; omega
  have hla := h.below (bel1 w (.cells #[.bool x.vs, .string ⟨x.nm.toArray⟩, .string ⟨x.ver.toArray⟩, .int .u64 x.at_] 52))
  have k := syms_Find _ a cap l hla hl hc x.vs x.nm x.ver hx.n hx.v
  have HKI := hide (fun W (hs : SymsAt W a l) => syms_NewIndex W a cap l hs hl hc (by omega) x.vs)
  have HKR := hide (fun W (hs : SymsAt W a l) => ref10_Find W a cap l hs hl hc x.vs x.nm x.ver)
  have HKN := hide (fun W (hs : SymsAt W a l) => syms_NearV W a cap l hs hl hc x.at_ hx.a)
  have HKM := hide (fun W (hs : SymsAt W a l) => ref10_NearV W a cap l hs hl hc x.at_ hx.a)
  have HKX := hide (fun W X M B N1 f (hi : IdxAt W X M B x.vs N1 f (hds l 0)) => index_Find W X M B N1 x.vs f (hds l 0) hi x.nm x.ver hx.n)
  have e2 : fstH x.vs x.ver (hds l 0 x.nm) = findS x.vs x.nm x.ver l := fstH_find _ _ _ _
  rw [e2] at HKX
  have HS := hide hla
  have HA := hide (new_ask w x)
  have HB := hide (bel1 w (.cells #[.bool x.vs, .string ⟨x.nm.toArray⟩, .string ⟨x.ver.toArray⟩, .int .u64 x.at_] 52))
  have HW1 := hide HB.out.size
  generalize findS x.vs x.nm x.ver l = F at *
  generalize nearV l x.at_ = G at *
  rw [hN] at hl hl2 k HKI HKR HKN HKM ⊢
  have hnI : ¬ (1000 : Int) < (n : Int) := by omega
  clear h hla hc hN hx e2
  go_enter Try.func5, Try.ntmps5
  go_wp2_with fail
  refine k.mono ?_
  generalize w.alloc _ = w1 at *
  generalize hbb : w.heap.size = b at *
  have HWB := hide hbb
  clear hbb
  rintro e w2 ⟨rfl, hb2⟩
  have HB2 : Hid (Below b w w2) := HB.out.trans (hb2.mono HW1.out)
  have HS2 := hide (HS.out.below hb2)
  have HA2 := hide (HA.out.below hb2)
  have HL2 := hide (Nat.le_trans HW1.out hb2.size)
  have a0 := HA2.out.c0
  clear k hb2 HB HS HA HW1
  go_wp2_with fail
  refine (HKI.out w2 HS2.out).mono ?_
  rintro e w3 ⟨⟨X, M, B, N1, f, rfl, hidx⟩, hb3⟩
  have HB3 : Hid (Below b w w3) := HB2.out.trans (hb3.mono HL2.out)
  have HS3 := hide (HS2.out.below hb3)
  have HA3 := hide (HA2.out.below hb3)
  have HL3 := hide (Nat.le_trans HL2.out hb3.size)
  have HI3 := hide hidx
  clear hb3 hidx HB2 HS2 HA2 HL2 HKI a0
  go_wp2_with fail
  try simp only [List.append_eq, List.cons_append, List.nil_append]
  refine wp_region_quiet_below (by kernel_rfl) (by kernel_rfl) ?_
  have e0 := cell_regrown HA3.out.c0
  have e1 := cell_regrown HA3.out.c1
  have e2 := cell_regrown HA3.out.c2
  have e3 := cell_regrown HA3.out.c3
  have hFF : (F != F) = false := by simp
  have hGG : (G != G) = false := by simp
  repeat (go_big_quiet_step (first | exact Calls.regrown_of (HKR.out _ (HS3.out.below (below_regrown _ _ _))) | exact Calls.regrown_of (HKX.out _ X M B N1 f (HI3.out.stay (below_regrown _ _ _))) | exact Calls.regrown_of (HKN.out _ (HS3.out.below (below_regrown _ _ _))) | exact Calls.regrown_of (HKM.out _ (HS3.out.below (below_regrown _ _ _)))))
  refine wpQuiet_nil ?_
  intro _ hwq
  obtain ⟨⟨dq, osq⟩, hwq2⟩ := hwq
  subst hwq2
  have HB4 : Hid (Below b w (grow (redrawn w3 dq) osq)) := HB3.out.trans ((below_regrown _ dq osq).mono HL3.out)
  have HS4 := hide (HS3.out.below (below_regrown _ dq osq))
  have HL4 := hide (Nat.le_trans HL3.out (below_regrown w3 dq osq).size)
  clear e0 e1 e2 e3 HB3 HS3 HA3 HL3 HI3 HKR HKX HKN HKM
  generalize grow _ _ = w4 at *
  go_wp2
  go_loopw [7] (fun vi wr => ∃ i : Nat, vi = .int .i64 i ∧ i ≤ n ∧ Hid (Below b w wr) ∧ Hid (SymsAt wr a l) ∧ Hid (b ≤ wr.heap.size))
    (fun vi _ => n - (intOf vi).toNat)
  case atStart => exact ⟨0, rfl, by omega, HB4, HS4, HL4⟩
  case round =>
    obtain ⟨i, rfl, hi, HB, HS, HBS⟩ := hrel
    clear HB4 HS4 HL4
    by_cases hlt : i < n
    · have hltI : (i : Int) < (n : Int) := by omega
      have hi0 : (0 : Int) ≤ (i : Int) := by omega
      have hil : i < l.length := by rw [HN.out]; exact hlt
      obtain ⟨y, o, rfl, hs, _⟩ := HS.out.at i hil
      have HE := hide (fun W => syms_Exported l[i] W)
      have HH := hide (fun W => ref10_Had l[i] W)
      have HSY := hide hs
      generalize l[i] = s at *
      generalize had s = hb at *
      have hbb : (hb != hb) = false := by simp
      clear hs
      go_wp2_with fail
      try simp only [List.append_eq, List.cons_append, List.nil_append]
      refine wp_region_quiet_below (by kernel_rfl) (by kernel_rfl) ?_
      have e0 := cell_regrown HSY.out.c0
      have e1 := cell_regrown HSY.out.c1
      have e2 := cell_regrown HSY.out.c2
      have e3 := cell_regrown HSY.out.c3
      have e4 := cell_regrown HSY.out.c4
      have e5 := cell_regrown HSY.out.c5
      have e6 := cell_regrown HSY.out.c6
      repeat (go_big_quiet_step (first | exact Calls.regrown_of (HE.out _) | exact Calls.regrown_of (HH.out _)))
      refine wpQuiet_nil ?_
      intro _ hwq
      obtain ⟨⟨dq, osq⟩, hwq2⟩ := hwq
      subst hwq2
      have HB2 : Hid (Below b w (grow (redrawn wr dq) osq)) := HB.out.trans ((below_regrown _ dq osq).mono HBS.out)
      have HS2 := hide (HS.out.below (below_regrown _ dq osq))
      have HL2 := hide (Nat.le_trans HBS.out (below_regrown wr dq osq).size)
      clear e0 e1 e2 e3 e4 e5 e6 HSY HB HS HBS HE HH
      generalize grow _ _ = w5 at *
      go_wp2
      go_roundw
      case rel => exact ⟨i + 1, by go_num, by omega, HB2, HS2, HL2⟩
      case measure => simp [intOf]; omega
    · have hltI : ¬ (i : Int) < (n : Int) := by omega
      have hAl := alive10 wr
      go_wp2_with fail
      refine hAl.mono ?_
      rintro e w2 ⟨rfl, hb2⟩
      have HB2 := hide (HB.out.trans (hb2.mono HBS.out))
      go_wp2
      go_ret
      exact ⟨rfl, by rw [HWB.out]; exact HB2.out⟩
theorem walk (w : World) (s0 : Option Addr) (len0 cap0 : Nat) (h0 : IsSyms w s0 len0 cap0) (x : Ak) (u : Unit) (hx : OkAk x) (_ : True) :
    Calls Try.prog 5 #[.slice s0 len0 cap0, .agg #[.bool x.vs, .string ⟨x.nm.toArray⟩, .string ⟨x.ver.toArray⟩, .int .u64 x.at_]] w fun e w' => e = .returned (.bool true) ∧ Below w.heap.size w w' := by
  obtain ⟨h1, h2, h3, l, rfl, h4⟩ := h0
  by_cases hl : l.length ≤ 1000
  · exact core w s0 cap0 l h4 h1 h2 hl x hx
  · have hl2 : (1000 : Int) < (l.length : Int) := by omega
    have hcap : l.length ≤ 9223372036854775807 := by unfold maxLen at h2; omega
    have HB := hide (bel1 w (.cells #[.bool x.vs, .string ⟨x.nm.toArray⟩, .string ⟨x.ver.toArray⟩, .int .u64 x.at_] 52))
    generalize l.length = n at *
    clear h1 h2 h3 h4 hx
    go_enter Try.func5, Try.ntmps5
    go_wp2
    go_ret
    exact ⟨rfl, HB.out⟩
theorem own : ownKnob Try.prog.godebug = none := by kernel_rfl
theorem laidOut : laidOutB Try.prog = true := by kernel_rfl
set_option maxRecDepth 100000 in
theorem lifted (os : Os) (started : os.Started) (H : Type) (enc : TypeId × Value → H) :
    ReturnsInHanded {} Try.checked os 5 .any (Rows.symsFindsSpec.pre6 enc Try.prog Try.f5 Rows.symsFindsRow.domain false) (Rows.symsFindsSpec.post enc Try.prog Try.f5 false true false false) := by
  refine returnsInHanded_of_change (C := Try.checked) own started (by kernel_rfl) Try.func5
    (ChangeSpec.witness6 (enc := enc) (C := Try.checked) false ⟨#[], #[.slice none 0 0, .agg #[.bool false, .string ByteArray.empty, .string ByteArray.empty, .int .u64 0]], []⟩ 8 (by kernel_rfl) (by kernel_rfl) (by kernel_rfl) (by kernel_rfl)) ?_
  intro W base args ds gs before hval0 hW hcnd _
  have hval : ∀ (j : Nat) t v, Try.f5.params[j]? = some t → args[j]? = some v → Value.okWide Try.prog W .any base t v := hval0
  have hW' := hW
  obtain ⟨p, q, hA0, hV, rfl, hfz, hnd⟩ := hW
  have hA : DataW.TrodAll enc Try.prog W 0 (fun _ => true) true Try.f5.params.toList args.toList ds p := hA0
  rw [Try.params5] at hA hval
  obtain ⟨v0, vs0, d0, ds0, p0, q0, hargs, rfl, rfl, h0, r0⟩ := trodAll_cons hA
  obtain ⟨v1, vs1, d1, ds1, p1, q1, rfl, rfl, rfl, h1, r1⟩ := trodAll_cons r0
  obtain ⟨rfl, rfl, rfl⟩ := trodAll_nil r1
  obtain rfl : args = #[v0, v1] := by cases args; simp_all
  obtain ⟨rfl, rfl⟩ := trodVars_none hV
  have k0 := h0
  have lt0 : ∀ x ∈ p0, x.block < W.heap.size := by obtain ⟨m, hm⟩ := k0; exact DataW.trod_lt m _ _ _ hm
  have k1 := h1
  have lt1 : ∀ x ∈ p1, x.block < W.heap.size := by obtain ⟨m, hm⟩ := k1; exact DataW.trod_lt m _ _ _ hm
  obtain ⟨s0, len0, cap0, rfl⟩ := okWide_slice Try.underlying43 (hval 0 43 v0 rfl rfl)
  have w0 := isOps_of h0
  obtain ⟨cs1, rfl, _⟩ := okWide_struct Try.underlying52 (hval 1 52 v1 rfl rfl)
  obtain ⟨x1, vd1, rfl, o1, s1⟩ := opAgg_of h1
  clear hA0 hval0
  refine (walk W s0 len0 cap0 w0 x1 vd1 o1 s1).mono fun e W' ⟨he, bel⟩ => ?_
  subst he
  exact ⟨_, rfl, _, _, _, [], _, [], hW', trodAll_mk1 (shut_bool Try.underlying4 _), (trodAll_cons_mk (Below.trod laidOut (by kernel_rfl) (of_decide_eq_true (by kernel_rfl)) k0 bel lt0) (trodAll_cons_mk (Below.trod laidOut (by kernel_rfl) (of_decide_eq_true (by kernel_rfl)) k1 bel lt1) trodAll_mk0)), rfl, bel.frame _, fun h => by cases h⟩

theorem over : Rows.symsFindsRow.holds Try.pinned (OpenSpec.ofChange Rows.symsFindsSpec) :=
  OpenClaim.holds_of_wide 5 Try.f5 rfl rfl rfl rfl rfl rfl rfl ⟨rfl, rfl, rfl, rfl, rfl⟩ rfl rfl rfl rfl rfl (by kernel_rfl) Try.func5 (by kernel_rfl)
    (of_decide_eq_true (by kernel_rfl)) (by unfold Func.isWrapper; first | (rw [if_pos (by decide +kernel)]; kernel_rfl) | (rw [if_neg (by decide +kernel)]; exact ⟨rfl, rfl⟩))
    (fun os started H enc _ => lifted os started H enc)
end LSymsFinds
theorem SymsFinds_proved : Rows.SymsFindsSaid := LSymsFinds.over
end Go.Proofs.Ytnmohnbfnmhdlaa
