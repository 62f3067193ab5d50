
/-
  SymsFirst returns true for every row of symbols and whatever is asked, and both read afterwards as they read before: no condition.
-/
import Derived.Test.YtnmohnbfnmhdlaaRows
import Derived.Test.YtnmohnbfnmhdlaaSyH
import Derived.WalkKit
import Derived.ProofKit
import Derived.OpenShut
import Derived.ShutString
import Derived.ChangeOld
import Derived.Below
set_option linter.unusedVariables false
namespace Go.Proofs.Ytnmohnbfnmhdlaa
namespace LSymsFirst
open Go.ChangeShapes Go.WideShapes Go.ChangeAt Go.RowKit Go.PlainAid Go.Sort
open Go.ChangeMaps (open_string shut_string)
set_option maxHeartbeats 4000000 in
set_option maxRecDepth 20000 in
theorem core (w : World) (a : Option Addr) (cap : Nat) (l : List Sy) (h : SymsAt w a l) (hl : l.length ≤ cap) (hc : cap ≤ maxLen) (hl2 : l.length ≤ 1000) (x : Ak) (hx : OkAk x) :
    Calls Try.prog 6 #[.slice a l.length cap, .agg #[.bool x.vs, .string ⟨x.nm.toArray⟩, .string ⟨x.ver.toArray⟩, .int .u64 x.at_]] w fun e w' => e = .returned (.bool true) ∧ Below w.heap.size w w' := by
  obtain ⟨n, hN⟩ : ∃ n, l.length = n := ⟨_, rfl⟩
  have HN := hide hN
  have HC := hide hc
  have hcap : cap ≤ 9223372036854775807 := by unfold maxLen at hc; omega
  have HF := hide (findS_says x.vs x.nm x.ver l)
  have HX := hide hx
  have hla := h.below (bel1 w (.cells #[.bool x.vs, .string ⟨x.nm.toArray⟩, .string ⟨x.ver.toArray⟩, .int .u64 x.at_] 52))
  have k := syms_Find _ a cap l hla hl hc x.vs x.nm x.ver hx.n hx.v
  have HS := hide hla
  have HA := hide (new_ask w x)
  have HB := hide (bel1 w (.cells #[.bool x.vs, .string ⟨x.nm.toArray⟩, .string ⟨x.ver.toArray⟩, .int .u64 x.at_] 52))
  have HW1 := hide HB.out.size
  obtain ⟨F, hF⟩ : ∃ F, findS x.vs x.nm x.ver l = F := ⟨_, rfl⟩
  rw [hF] at k HF
  rw [hN] at hl hl2 k ⊢
  have hnI : ¬ (1000 : Int) < (n : Int) := by omega
  clear h hla hc hF hN hx
  go_enter Try.func6, Try.ntmps6
  go_wp2_with fail
  refine k.mono ?_
  generalize w.alloc _ = w1 at *
  generalize hbb : w.heap.size = b at *
  have HWB := hide hbb
  clear hbb
  rintro e w2 ⟨rfl, hb2⟩
  have HB2 : Hid (Below b w w2) := HB.out.trans (hb2.mono HW1.out)
  have HS2 := hide (HS.out.below hb2)
  have HA2 := hide (HA.out.below hb2)
  have HL2 := hide (Nat.le_trans HW1.out hb2.size)
  have hF1 : -1 ≤ F ∧ F < (n : Int) := by
    rcases HF.out with ⟨h, _⟩ | ⟨i, hi, h, _⟩
    · omega
    · have := HN.out; omega
  have hF2 : ¬ F < -1 := by omega
  have hF3 : ¬ (n : Int) ≤ F := by omega
  clear k hb2 HB HS HA hF1 HW1
  go_wp2
  go_loopw [6] (fun vi wr => ∃ i : Nat, vi = .int .i64 i ∧ i ≤ n ∧ Hid (Below b w wr) ∧ Hid (SymsAt wr a l) ∧ Hid (AskAt wr b x) ∧ Hid (b ≤ wr.heap.size))
    (fun vi _ => n - (intOf vi).toNat)
  case atStart => exact ⟨0, rfl, by omega, HB2, HS2, HA2, HL2⟩
  case round =>
    obtain ⟨i, rfl, hi, HB, HS, HA, HBS⟩ := hrel
    clear HB2 HS2 HA2 HL2
    by_cases hlt : i < n
    · have hltI : (i : Int) < (n : Int) := by omega
      have hil : i < l.length := by rw [HN.out]; exact hlt
      obtain ⟨y, o, rfl, _⟩ := HS.out.at i hil
      have HSUB := hide (HS.out.sub i hil)
      have HK := hide (fun W (hb : Below wr.heap.size wr W) => syms_Find W (some ⟨y, o + i * 7, none⟩) 1 [l[i]] (HSUB.out.below hb) (by simp) (by decide) x.vs x.nm x.ver HX.out.n HX.out.v)
      obtain ⟨one, hone⟩ : ∃ one, okS x.vs x.nm x.ver l[i] = one := ⟨_, rfl⟩
      have hv1 : findS x.vs x.nm x.ver [l[i]] = if one = true then 0 else -1 := by rw [find_one, hone]
      obtain ⟨v1, hv2⟩ : ∃ v1, findS x.vs x.nm x.ver [l[i]] = v1 := ⟨_, rfl⟩
      have hv3 : (v1 == 0) = one := by rw [← hv2, hv1]; cases one <;> rfl
      rw [hv2] at HK
      have hway : (one = false ∧ ((i : Int) == F) = false) ∨ (one = true ∧ ¬ F < 0 ∧ ¬ (i : Int) < F) := by
        rcases HF.out with ⟨h, h2⟩ | ⟨m, hm, h, h2, h3⟩
        · refine .inl ⟨by rw [← hone]; exact h2 i hil, ?_⟩
          rw [beq_eq_false_iff_ne]; omega
        · by_cases c : i < m
          · refine .inl ⟨by rw [← hone]; exact h3 i hil c, ?_⟩
            rw [beq_eq_false_iff_ne]; omega
          · by_cases c2 : i = m
            · subst c2
              exact .inr ⟨by rw [← hone]; exact h2, by omega, by omega⟩
            · cases ho : one
              · refine .inl ⟨rfl, ?_⟩
                rw [beq_eq_false_iff_ne]; omega
              · exact .inr ⟨rfl, by omega, by omega⟩
      clear hv1 hv2 hone
      have b1 : IntKind.i64.wrap ((i : Int) + 1) = (i : Int) + 1 := IntWalk.i64_in _ (by omega)
      have b2 : (i : Int) ≤ (i : Int) + 1 := by omega
      have b3 : (i : Int) + 1 ≤ (cap : Int) := by omega
      have b4 : (0 : Int) ≤ (i : Int) := by omega
      have b5 : ((i : Int) + 1).toNat = i + 1 := by omega
      rcases hway with ⟨rfl, hne⟩ | ⟨rfl, hn0, hn1⟩
      · go_wp2_with fail
        try simp only [List.append_eq, List.cons_append, List.nil_append]
        refine wp_region_quiet_below (by kernel_rfl) (by kernel_rfl) ?_
        have e0 := cell_regrown HA.out.c0
        have e1 := cell_regrown HA.out.c1
        have e2 := cell_regrown HA.out.c2
        repeat (go_big_quiet_step (exact Calls.regrown_of (HK.out _ (below_regrown _ _ _))))
        refine wpQuiet_nil ?_
        intro _ hwq
        obtain ⟨⟨dq, osq⟩, hwq2⟩ := hwq
        subst hwq2
        have HB2 : Hid (Below b w (grow (redrawn wr dq) osq)) := HB.out.trans ((below_regrown _ dq osq).mono HBS.out)
        have HS2 := hide (HS.out.below (below_regrown _ dq osq))
        have HA2 := hide (HA.out.below (below_regrown _ dq osq))
        have HL2 := hide (Nat.le_trans HBS.out (below_regrown wr dq osq).size)
        clear e0 e1 e2 HB HS HA HSUB HK HBS
        generalize grow _ _ = w3 at *
        go_wp2
        go_roundw
        case rel => exact ⟨i + 1, by go_num, by omega, HB2, HS2, HA2, HL2⟩
        case measure => simp [intOf]; omega
      · go_wp2_with fail
        try simp only [List.append_eq, List.cons_append, List.nil_append]
        refine wp_region_quiet_below (by kernel_rfl) (by kernel_rfl) ?_
        have e0 := cell_regrown HA.out.c0
        have e1 := cell_regrown HA.out.c1
        have e2 := cell_regrown HA.out.c2
        repeat (go_big_quiet_step (exact Calls.regrown_of (HK.out _ (below_regrown _ _ _))))
        refine wpQuiet_nil ?_
        intro _ hwq
        obtain ⟨⟨dq, osq⟩, hwq2⟩ := hwq
        subst hwq2
        have HB2 : Hid (Below b w (grow (redrawn wr dq) osq)) := HB.out.trans ((below_regrown _ dq osq).mono HBS.out)
        have HS2 := hide (HS.out.below (below_regrown _ dq osq))
        have HA2 := hide (HA.out.below (below_regrown _ dq osq))
        have HL2 := hide (Nat.le_trans HBS.out (below_regrown wr dq osq).size)
        clear e0 e1 e2 HB HS HA HSUB HK HBS
        generalize grow _ _ = w3 at *
        go_wp2
        all_goals
          go_roundw
          case rel => exact ⟨i + 1, by go_num, by omega, HB2, HS2, HA2, HL2⟩
          case measure => simp [intOf]; omega
    · have hltI : ¬ (i : Int) < (n : Int) := by omega
      have HAL := hide (fun W => alive10 W)
      rcases HF.out with ⟨rfl, _⟩ | ⟨m, hm, rfl, hmo, _⟩
      · go_wp2_with fail
        try simp only [List.append_eq, List.cons_append, List.nil_append]
        refine wp_region_quiet_below (by kernel_rfl) (by kernel_rfl) ?_
        repeat (go_big_quiet_step (exact Calls.regrown_of (HAL.out _)))
        refine wpQuiet_nil ?_
        intro _ hwq
        obtain ⟨⟨dq, osq⟩, hwq2⟩ := hwq
        subst hwq2
        have HB2 : Hid (Below b w (grow (redrawn wr dq) osq)) := HB.out.trans ((below_regrown _ dq osq).mono HBS.out)
        generalize grow _ _ = w3 at *
        go_wp2
        go_ret
        exact ⟨rfl, by rw [HWB.out]; exact HB2.out⟩
      · obtain ⟨y, o, rfl, hs, _⟩ := HS.out.at m hm
        obtain ⟨p1, p2, p3⟩ := okS_parts hmo
        have x0 := hs.c0
        have x3 := hs.c3
        have x4 := hs.c4
        rw [p1] at x0
        rw [p2] at x4
        have hmn : (m : Int) < (n : Int) := by have := HN.out; omega
        have hm0 : decide ((m : Int) < 0) = false := by simp
        have hm2 : ((m : Int) < 0) = False := by simp
        have hm1 : (0 : Int) ≤ (m : Int) := by omega
        have HX0 := hide x0
        have HX3 := hide x3
        have HX4 := hide x4
        generalize l[m].bind = bd at *
        clear x0 x3 x4 p1 p2 hs hmo
        go_wp2_with fail
        try simp only [List.append_eq, List.cons_append, List.nil_append]
        refine wp_region_quiet_below (by kernel_rfl) (by kernel_rfl) ?_
        have e1 := cell_regrown HA.out.c1
        have f0 := cell_regrown HX0.out
        have f3 := cell_regrown HX3.out
        have f4 := cell_regrown HX4.out
        repeat (go_big_quiet_step (exact Calls.regrown_of (HAL.out _)))
        refine wpQuiet_nil ?_
        intro _ hwq
        obtain ⟨⟨dq, osq⟩, hwq2⟩ := hwq
        subst hwq2
        have HB2 : Hid (Below b w (grow (redrawn wr dq) osq)) := HB.out.trans ((below_regrown _ dq osq).mono HBS.out)
        clear e1 f0 f3 f4 HX0 HX3 HX4
        generalize grow _ _ = w3 at *
        go_wp2
        go_ret
        exact ⟨rfl, by rw [HWB.out]; exact HB2.out⟩
theorem walk (w : World) (s0 : Option Addr) (len0 cap0 : Nat) (h0 : IsSyms w s0 len0 cap0) (x : Ak) (u : Unit) (hx : OkAk x) (_ : True) :
    Calls Try.prog 6 #[.slice s0 len0 cap0, .agg #[.bool x.vs, .string ⟨x.nm.toArray⟩, .string ⟨x.ver.toArray⟩, .int .u64 x.at_]] w fun e w' => e = .returned (.bool true) ∧ Below w.heap.size w w' := by
  obtain ⟨h1, h2, h3, l, rfl, h4⟩ := h0
  by_cases hl : l.length ≤ 1000
  · exact core w s0 cap0 l h4 h1 h2 hl x hx
  · have hl2 : (1000 : Int) < (l.length : Int) := by omega
    have hcap : l.length ≤ 9223372036854775807 := by unfold maxLen at h2; omega
    have HB := hide (bel1 w (.cells #[.bool x.vs, .string ⟨x.nm.toArray⟩, .string ⟨x.ver.toArray⟩, .int .u64 x.at_] 52))
    generalize l.length = n at *
    clear h1 h2 h3 h4 hx
    go_enter Try.func6, Try.ntmps6
    go_wp2
    go_ret
    exact ⟨rfl, HB.out⟩
theorem own : ownKnob Try.prog.godebug = none := by kernel_rfl
theorem laidOut : laidOutB Try.prog = true := by kernel_rfl
set_option maxRecDepth 100000 in
theorem lifted (os : Os) (started : os.Started) (H : Type) (enc : TypeId × Value → H) :
    ReturnsInHanded {} Try.checked os 6 .any (Rows.symsFirstSpec.pre6 enc Try.prog Try.f6 Rows.symsFirstRow.domain false) (Rows.symsFirstSpec.post enc Try.prog Try.f6 false true false false) := by
  refine returnsInHanded_of_change (C := Try.checked) own started (by kernel_rfl) Try.func6
    (ChangeSpec.witness6 (enc := enc) (C := Try.checked) false ⟨#[], #[.slice none 0 0, .agg #[.bool false, .string ByteArray.empty, .string ByteArray.empty, .int .u64 0]], []⟩ 8 (by kernel_rfl) (by kernel_rfl) (by kernel_rfl) (by kernel_rfl)) ?_
  intro W base args ds gs before hval0 hW hcnd _
  have hval : ∀ (j : Nat) t v, Try.f6.params[j]? = some t → args[j]? = some v → Value.okWide Try.prog W .any base t v := hval0
  have hW' := hW
  obtain ⟨p, q, hA0, hV, rfl, hfz, hnd⟩ := hW
  have hA : DataW.TrodAll enc Try.prog W 0 (fun _ => true) true Try.f6.params.toList args.toList ds p := hA0
  rw [Try.params6] at hA hval
  obtain ⟨v0, vs0, d0, ds0, p0, q0, hargs, rfl, rfl, h0, r0⟩ := trodAll_cons hA
  obtain ⟨v1, vs1, d1, ds1, p1, q1, rfl, rfl, rfl, h1, r1⟩ := trodAll_cons r0
  obtain ⟨rfl, rfl, rfl⟩ := trodAll_nil r1
  obtain rfl : args = #[v0, v1] := by cases args; simp_all
  obtain ⟨rfl, rfl⟩ := trodVars_none hV
  have k0 := h0
  have lt0 : ∀ x ∈ p0, x.block < W.heap.size := by obtain ⟨m, hm⟩ := k0; exact DataW.trod_lt m _ _ _ hm
  have k1 := h1
  have lt1 : ∀ x ∈ p1, x.block < W.heap.size := by obtain ⟨m, hm⟩ := k1; exact DataW.trod_lt m _ _ _ hm
  obtain ⟨s0, len0, cap0, rfl⟩ := okWide_slice Try.underlying43 (hval 0 43 v0 rfl rfl)
  have w0 := isOps_of h0
  obtain ⟨cs1, rfl, _⟩ := okWide_struct Try.underlying52 (hval 1 52 v1 rfl rfl)
  obtain ⟨x1, vd1, rfl, o1, s1⟩ := opAgg_of h1
  clear hA0 hval0
  refine (walk W s0 len0 cap0 w0 x1 vd1 o1 s1).mono fun e W' ⟨he, bel⟩ => ?_
  subst he
  exact ⟨_, rfl, _, _, _, [], _, [], hW', trodAll_mk1 (shut_bool Try.underlying4 _), (trodAll_cons_mk (Below.trod laidOut (by kernel_rfl) (of_decide_eq_true (by kernel_rfl)) k0 bel lt0) (trodAll_cons_mk (Below.trod laidOut (by kernel_rfl) (of_decide_eq_true (by kernel_rfl)) k1 bel lt1) trodAll_mk0)), rfl, bel.frame _, fun h => by cases h⟩

theorem over : Rows.symsFirstRow.holds Try.pinned (OpenSpec.ofChange Rows.symsFirstSpec) :=
  OpenClaim.holds_of_wide 6 Try.f6 rfl rfl rfl rfl rfl rfl rfl ⟨rfl, rfl, rfl, rfl, rfl⟩ rfl rfl rfl rfl rfl (by kernel_rfl) Try.func6 (by kernel_rfl)
    (of_decide_eq_true (by kernel_rfl)) (by unfold Func.isWrapper; first | (rw [if_pos (by decide +kernel)]; kernel_rfl) | (rw [if_neg (by decide +kernel)]; exact ⟨rfl, rfl⟩))
    (fun os started H enc _ => lifted os started H enc)
end LSymsFirst
theorem SymsFirst_proved : Rows.SymsFirstSaid := LSymsFirst.over
end Go.Proofs.Ytnmohnbfnmhdlaa
