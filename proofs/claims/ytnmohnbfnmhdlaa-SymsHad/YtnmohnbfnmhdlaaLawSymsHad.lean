
/-
  SymsHad returns true for every row of symbols, with versions or without, and they read afterwards as they read before: no condition.
-/
import Derived.Test.YtnmohnbfnmhdlaaRows
import Derived.Test.YtnmohnbfnmhdlaaSyK
import Derived.WalkKit
import Derived.ProofKit
import Derived.OpenShut
import Derived.ShutString
import Derived.ChangeOld
import Derived.Below
set_option linter.unusedVariables false
namespace Go.Proofs.Ytnmohnbfnmhdlaa
namespace LSymsHad
open Go.ChangeShapes Go.WideShapes Go.ChangeAt Go.RowKit Go.PlainAid Go.Sort
open Go.ChangeMaps (open_string shut_string)
theorem find_le {vs : Bool} {nm ver : List UInt8} {l : List Sy} {i : Nat} (hi : i < l.length) (h : okS vs nm ver l[i] = true) : ¬ findS vs nm ver l < 0 ∧ ¬ (i : Int) < findS vs nm ver l := by
  rcases findS_says vs nm ver l with ⟨_, h2⟩ | ⟨m, hm, e, h2, h3⟩
  · have := h2 i hi
    rw [h] at this; cases this
  · rw [e]
    refine ⟨by omega, fun c => ?_⟩
    have := h3 i hi (by omega)
    rw [h] at this; cases this
set_option maxHeartbeats 4000000 in
set_option maxRecDepth 20000 in
theorem core (w : World) (a : Option Addr) (cap : Nat) (l : List Sy) (h : SymsAt w a l) (hl : l.length ≤ cap) (hc : cap ≤ maxLen) (hl2 : l.length ≤ 500) (vs : Bool) :
    Calls Try.prog 7 #[.slice a l.length cap, .bool vs] w fun e w' => e = .returned (.bool true) ∧ Below w.heap.size w w' := by
  obtain ⟨n, hN⟩ : ∃ n, l.length = n := ⟨_, rfl⟩
  have HN := hide hN
  have hcap : cap ≤ 9223372036854775807 := by unfold maxLen at hc; omega
  have k := syms_NewIndex w a cap l h hl hc (by omega) vs
  have HS := hide h
  rw [hN] at hl hl2 k ⊢
  have hnI : ¬ (500 : Int) < (n : Int) := by omega
  clear h hc hN
  go_enter Try.func7, Try.ntmps7
  go_wp2_with fail
  refine k.mono ?_
  rintro e w1 ⟨⟨X, M, B, N1, f, rfl, hidx⟩, hb1⟩
  have HI1 := hide hidx
  have HB1 := hide hb1
  have HS1 := hide (HS.out.below hb1)
  clear k hb1 hidx HS
  go_wp2
  go_loopw [6] (fun vi wr => ∃ i : Nat, vi = .int .i64 i ∧ i ≤ n ∧ Hid (Below w.heap.size w wr) ∧ Hid (SymsAt wr a l) ∧ Hid (IdxAt wr X M B vs N1 f (hds l 0)))
    (fun vi _ => n - (intOf vi).toNat)
  case atStart => exact ⟨0, rfl, by omega, HB1, HS1, HI1⟩
  case round =>
    obtain ⟨i, rfl, hi, HB, HS, HI⟩ := hrel
    clear HB1 HS1 HI1
    by_cases hlt : i < n
    · have hltI : (i : Int) < (n : Int) := by omega
      have hil : i < l.length := by rw [HN.out]; exact hlt
      obtain ⟨y, o, rfl, hs, hok⟩ := HS.out.at i hil
      obtain ⟨c0, c1, c2, c3, c4, c5, c6⟩ := hs
      obtain ⟨s, hse⟩ : ∃ s, l[i] = s := ⟨_, rfl⟩
      have HSE := hide hse
      rw [hse] at c0 c1 c2 c3 c4 c5 c6 hok
      clear hse
      go_wp2_with fail
      have nc := new_cells wr s
      have hbA := bel1 wr (.cells #[.string ⟨s.name.toArray⟩, .string ⟨s.ver.toArray⟩, .bool s.hidden, .int .i64 s.bind, .bool s.defined, .int .u64 s.value, .int .u64 s.size] 60)
      have HB0 := hide (HB.out.trans (hbA.mono HB.out.size))
      have HS0 := hide (HS.out.below hbA)
      have HI0 := hide (HI.out.stay hbA)
      clear HB HS HI hbA
      generalize wr.heap.size = Z at *
      generalize wr.alloc _ = w0 at *
      clear c0 c1 c2 c3 c4 c5 c6
      have k := syms_Exported s w0
      cases hh : had s
      · rw [hh] at k
        refine k.mono ?_
        rintro e w2 ⟨rfl, hb2⟩
        have HB2 := hide (HB0.out.trans (hb2.mono HB0.out.size))
        have HS2 := hide (HS0.out.below hb2)
        have HI2 := hide (HI0.out.stay hb2)
        clear k hb2 HB0 HS0 HI0 nc hh
        go_wp2
        go_roundw
        case rel => exact ⟨i + 1, by go_num, by omega, HB2, HS2, HI2⟩
        case measure => simp [intOf]; omega
      · rw [hh] at k
        have HH := hide hh
        refine k.mono ?_
        rintro e w2 ⟨rfl, hb2⟩
        have HB2 := hide (HB0.out.trans (hb2.mono HB0.out.size))
        have HS2 := hide (HS0.out.below hb2)
        have HI2 := hide (HI0.out.stay hb2)
        have HNC := hide (nc.below hb2 nc.lt)
        clear k hb2 HB0 HS0 HI0 nc hh
        obtain ⟨snm, sv, hd, bd, df, vl, sz⟩ := s
        have k1 := index_Find w2 X M B N1 vs f (hds l 0) HI2.out snm sv hok.n
        have HK2 := hide (fun W (hb : Below w2.heap.size w2 W) => index_Find W X M B N1 vs f (hds l 0) (HI2.out.stay hb) snm [] hok.n)
        have q1 : sv ≠ [] → ¬ findS vs snm sv l < 0 ∧ ¬ (i : Int) < findS vs snm sv l := fun hne => find_le hil (by rw [HSE.out]; simp only [okS, HH.out, fitB]; rw [if_neg hne]; simp)
        have q2 : hd = false → ¬ findS vs snm [] l < 0 ∧ ¬ (i : Int) < findS vs snm [] l := fun hne => find_le hil (by rw [HSE.out]; simp only [okS, HH.out, fitB]; simp [hne])
        rw [fstH_find] at k1
        have e2 : fstH vs [] (hds l 0 snm) = findS vs snm [] l := fstH_find _ _ _ _
        rw [e2] at HK2
        generalize findS vs snm sv l = F1 at *
        generalize findS vs snm [] l = F2 at *
        obtain ⟨c0, c1, c2, c3, c4, c5, c6⟩ := HNC.out.zero
        simp only at c0 c1 c2 c3 c4 c5 c6
        clear e2 hok
        cases sv with
        | nil =>
          clear q1
          go_wp2_with fail
          refine k1.mono ?_
          rintro e w3 ⟨rfl, hb3⟩
          have HB3 := hide (HB2.out.trans (hb3.mono HB2.out.size))
          have HS3 := hide (HS2.out.below hb3)
          have HI3 := hide (HI2.out.stay hb3)
          have k2 := HK2.out w3 hb3
          obtain ⟨d0, d1, d2, d3, d4, d5, d6⟩ := (HNC.out.below hb3 HNC.out.lt).zero
          have HN3 := hide (HNC.out.below hb3 HNC.out.lt)
          simp only at d0 d1 d2 d3 d4 d5 d6
          clear k1 hb3 c0 c1 c2 c3 c4 c5 c6 HNC HB2 HS2 HI2 HK2
          go_wp2_with fail
          refine k2.mono ?_
          rintro e w4 ⟨rfl, hb4⟩
          have HB4 := hide (HB3.out.trans (hb4.mono HB3.out.size))
          have HS4 := hide (HS3.out.below hb4)
          have HI4 := hide (HI3.out.stay hb4)
          obtain ⟨g0, g1, g2, g3, g4, g5, g6⟩ := (HN3.out.below hb4 HN3.out.lt).zero
          simp only at g0 g1 g2 g3 g4 g5 g6
          clear k2 hb4 d0 d1 d2 d3 d4 d5 d6 HN3 HB3 HS3 HI3
          cases hd
          · obtain ⟨r1, r2⟩ := q2 rfl
            clear q2
            go_wp2
            go_roundw
            case rel => exact ⟨i + 1, by go_num, by omega, HB4, HS4, HI4⟩
            case measure => simp [intOf]; omega
          · clear q2
            go_wp2
            go_roundw
            case rel => exact ⟨i + 1, by go_num, by omega, HB4, HS4, HI4⟩
            case measure => simp [intOf]; omega
        | cons ch t =>
          obtain ⟨r3, r4⟩ := q1 (by simp)
          clear q1
          go_wp2_with fail
          refine k1.mono ?_
          rintro e w3 ⟨rfl, hb3⟩
          have HB3 := hide (HB2.out.trans (hb3.mono HB2.out.size))
          have HS3 := hide (HS2.out.below hb3)
          have HI3 := hide (HI2.out.stay hb3)
          have k2 := HK2.out w3 hb3
          obtain ⟨d0, d1, d2, d3, d4, d5, d6⟩ := (HNC.out.below hb3 HNC.out.lt).zero
          have HN3 := hide (HNC.out.below hb3 HNC.out.lt)
          simp only at d0 d1 d2 d3 d4 d5 d6
          clear k1 hb3 c0 c1 c2 c3 c4 c5 c6 HNC HB2 HS2 HI2 HK2
          go_wp2_with fail
          refine k2.mono ?_
          rintro e w4 ⟨rfl, hb4⟩
          have HB4 := hide (HB3.out.trans (hb4.mono HB3.out.size))
          have HS4 := hide (HS3.out.below hb4)
          have HI4 := hide (HI3.out.stay hb4)
          obtain ⟨g0, g1, g2, g3, g4, g5, g6⟩ := (HN3.out.below hb4 HN3.out.lt).zero
          simp only at g0 g1 g2 g3 g4 g5 g6
          clear k2 hb4 d0 d1 d2 d3 d4 d5 d6 HN3 HB3 HS3 HI3
          cases hd
          · obtain ⟨r1, r2⟩ := q2 rfl
            clear q2
            go_wp2
            go_roundw
            case rel => exact ⟨i + 1, by go_num, by omega, HB4, HS4, HI4⟩
            case measure => simp [intOf]; omega
          · clear q2
            go_wp2
            go_roundw
            case rel => exact ⟨i + 1, by go_num, by omega, HB4, HS4, HI4⟩
            case measure => simp [intOf]; omega
    · have hltI : ¬ (i : Int) < (n : Int) := by omega
      have hAl := alive10 wr
      go_wp2_with fail
      refine hAl.mono ?_
      rintro e w2 ⟨rfl, hb2⟩
      have HB2 := hide (HB.out.trans (hb2.mono HB.out.size))
      go_wp2
      go_ret
      exact ⟨rfl, HB2.out⟩
theorem walk (w : World) (s0 : Option Addr) (len0 cap0 : Nat) (h0 : IsSyms w s0 len0 cap0) (vs : Bool) :
    Calls Try.prog 7 #[.slice s0 len0 cap0, .bool vs] w fun e w' => e = .returned (.bool true) ∧ Below w.heap.size w w' := by
  obtain ⟨h1, h2, h3, l, rfl, h4⟩ := h0
  by_cases hl : l.length ≤ 500
  · exact core w s0 cap0 l h4 h1 h2 hl vs
  · have hl2 : (500 : Int) < (l.length : Int) := by omega
    have hcap : l.length ≤ 9223372036854775807 := by unfold maxLen at h2; omega
    generalize l.length = n at *
    clear h1 h2 h3 h4
    go_enter Try.func7, Try.ntmps7
    go_wp2
    go_ret
    exact ⟨rfl, Below.refl _ _⟩
theorem own : ownKnob Try.prog.godebug = none := by kernel_rfl
theorem laidOut : laidOutB Try.prog = true := by kernel_rfl
set_option maxRecDepth 100000 in
theorem lifted (os : Os) (started : os.Started) (H : Type) (enc : TypeId × Value → H) :
    ReturnsInHanded {} Try.checked os 7 .any (Rows.symsHadSpec.pre6 enc Try.prog Try.f7 Rows.symsHadRow.domain false) (Rows.symsHadSpec.post enc Try.prog Try.f7 false true false false) := by
  refine returnsInHanded_of_change (C := Try.checked) own started (by kernel_rfl) Try.func7
    (ChangeSpec.witness6 (enc := enc) (C := Try.checked) false ⟨#[], #[.slice none 0 0, .bool false], []⟩ 8 (by kernel_rfl) (by kernel_rfl) (by kernel_rfl) (by kernel_rfl)) ?_
  intro W base args ds gs before hval0 hW hcnd _
  have hval : ∀ (j : Nat) t v, Try.f7.params[j]? = some t → args[j]? = some v → Value.okWide Try.prog W .any base t v := hval0
  have hW' := hW
  obtain ⟨p, q, hA0, hV, rfl, hfz, hnd⟩ := hW
  have hA : DataW.TrodAll enc Try.prog W 0 (fun _ => true) true Try.f7.params.toList args.toList ds p := hA0
  rw [Try.params7] at hA hval
  obtain ⟨v0, vs0, d0, ds0, p0, q0, hargs, rfl, rfl, h0, r0⟩ := trodAll_cons hA
  obtain ⟨v1, vs1, d1, ds1, p1, q1, rfl, rfl, rfl, h1, r1⟩ := trodAll_cons r0
  obtain ⟨rfl, rfl, rfl⟩ := trodAll_nil r1
  obtain rfl : args = #[v0, v1] := by cases args; simp_all
  obtain ⟨rfl, rfl⟩ := trodVars_none hV
  have k0 := h0
  have lt0 : ∀ x ∈ p0, x.block < W.heap.size := by obtain ⟨m, hm⟩ := k0; exact DataW.trod_lt m _ _ _ hm
  have k1 := h1
  have lt1 : ∀ x ∈ p1, x.block < W.heap.size := by obtain ⟨m, hm⟩ := k1; exact DataW.trod_lt m _ _ _ hm
  obtain ⟨s0, len0, cap0, rfl⟩ := okWide_slice Try.underlying43 (hval 0 43 v0 rfl rfl)
  have w0 := isOps_of h0
  obtain ⟨a1, rfl, rfl, rfl⟩ := open_bool Try.underlying4 (hval 1 4 v1 rfl rfl) h1
  clear hA0 hval0
  refine (walk W s0 len0 cap0 w0 a1).mono fun e W' ⟨he, bel⟩ => ?_
  subst he
  exact ⟨_, rfl, _, _, _, [], _, [], hW', trodAll_mk1 (shut_bool Try.underlying4 _), (trodAll_cons_mk (Below.trod laidOut (by kernel_rfl) (of_decide_eq_true (by kernel_rfl)) k0 bel lt0) (trodAll_cons_mk (Below.trod laidOut (by kernel_rfl) (of_decide_eq_true (by kernel_rfl)) k1 bel lt1) trodAll_mk0)), rfl, bel.frame _, fun h => by cases h⟩

theorem over : Rows.symsHadRow.holds Try.pinned (OpenSpec.ofChange Rows.symsHadSpec) :=
  OpenClaim.holds_of_wide 7 Try.f7 rfl rfl rfl rfl rfl rfl rfl ⟨rfl, rfl, rfl, rfl, rfl⟩ rfl rfl rfl rfl rfl (by kernel_rfl) Try.func7 (by kernel_rfl)
    (of_decide_eq_true (by kernel_rfl)) (by unfold Func.isWrapper; first | (rw [if_pos (by decide +kernel)]; kernel_rfl) | (rw [if_neg (by decide +kernel)]; exact ⟨rfl, rfl⟩))
    (fun os started H enc _ => lifted os started H enc)
end LSymsHad
theorem SymsHad_proved : Rows.SymsHadSaid := LSymsHad.over
end Go.Proofs.Ytnmohnbfnmhdlaa
