
/-
  Layer 9's reference: do the tags stand as they must?
-/
import Derived.Test.YtibfiikjelmhmaaDoorDyF
import Derived.Test.YtibfiikjelmhmaaDoorHdH
set_option linter.unusedVariables false
namespace Go.Proofs.YtibfiikjelmhmaaDoor
open Go.RowKit Go.PlainAid Go.Sort
def sP (E : List De) (t : Nat) : Bool := decide (cntT E t ≤ 1)
def pP (E : List De) (p : De) : Bool := decide (cntT E p.tag = cntT E p.val)
def fP (E : List De) (p : De) : Bool := !(decide (cntT E p.tag = 1) && decide (valT E p.tag ≠ p.val))
def mustB (E : List De) : Bool := decide (cntT E 5 ≠ 0) && (decide (cntT E 6 ≠ 0) && (decide (cntT E 4 + cntT E 1879047925 ≠ 0) && decide (cntT E 1610612751 + cntT E 1610612753 ≤ 1)))
def kindB (E : List De) : Bool := decide (cntT E 20 = 0) || (decide (valT E 20 = 7) || decide (valT E 20 = 17))
/-- Do the tags stand as they must? -/
def rightB (E : List De) : Bool := singlesL.all (sP E) && (pairsL.all (pP E) && (fixedL.all (fP E) && (mustB E && kindB E)))
theorem allT_snoc {α : Type} (P : α → Bool) (l : List α) (i : Nat) (h : i < l.length) : (l.take (i + 1)).all P = ((l.take i).all P && P l[i]) := by
  rw [List.take_add_one, List.getElem?_eq_getElem h, List.all_append]
  simp
theorem allT_bad {α : Type} (P : α → Bool) (l : List α) (i : Nat) (h : i < l.length) (hb : P l[i] = false) : l.all P = false := by
  rw [List.all_eq_false]
  exact ⟨l[i], List.getElem_mem h, by rw [hb]; simp⟩
set_option maxHeartbeats 2000000 in
set_option maxRecDepth 20000 in
theorem ref9_right (w : World) (v : Value) (E : List De) (h : ArgD w v E) :
    Calls Tryd.prog 31 #[v] w fun e w' => e = .returned (.bool (rightB E)) ∧ Below w.heap.size w w' := by
  have HA := hide h
  obtain ⟨O, hO⟩ : ∃ O, rightB E = O := ⟨_, rfl⟩
  rw [hO]
  unfold rightB at hO
  have HO := hide hO
  have hS := ref9_singles w
  obtain ⟨a, cap, rfl⟩ := h.form
  have hcl : E.length ≤ 65536 := h.1
  have HCL := hide (fun t => Nat.le_trans (cnt_le E t) hcl)
  clear h hO
  go_enter Tryd.func31, Tryd.ntmps31
  go_wp2_with fail
  refine hS.mono ?_
  rintro e w1 ⟨vs, rfl, own1, hb1⟩
  have HB1 := hide hb1
  have HA1 := hide (HA.out.below hb1)
  have hsl : singlesL.length ≤ 40 := singleB_len 4
  have HU1 := hide (own1.arg (by omega))
  obtain ⟨sa, sc, rfl⟩ := HU1.out.form
  obtain ⟨NS, hNS⟩ : ∃ NS, singlesL.length = NS := ⟨_, rfl⟩
  rw [hNS] at HU1 hsl ⊢
  have HNS := hide hNS
  clear hS own1 hb1 HA hNS
  go_wp2
  go_loopw [4] (fun v4 wr => wr = w1 ∧ ∃ i : Nat, i ≤ NS ∧ v4 = .int .i64 i ∧ Hid ((singlesL.take i).all (sP E) = true)) (fun v4 _ => NS - (intOf v4).toNat)
  case atStart => exact ⟨rfl, 0, by omega, rfl, by simp [Hid]⟩
  case round =>
    obtain ⟨rfl, i, hi, rfl, HP⟩ := hrel
    by_cases hlt : i < NS
    · have hltI : (i : Int) < (NS : Int) := by omega
      have hltL : i < singlesL.length := by rw [HNS.out]; exact hlt
      obtain ⟨g, rfl, p1, p2, _, y0⟩ := HU1.out.at i hltL
      have hC := ref9_count wr _ E HA1.out (singlesL[i]'hltL)
      have hcc := HCL.out (singlesL[i]'hltL)
      have HSN := hide (allT_snoc (sP E) singlesL i hltL)
      have HBD := hide (allT_bad (sP E) singlesL i hltL)
      have HPT : Hid (sP E (singlesL[i]'hltL) = decide (cntT E (singlesL[i]'hltL) ≤ 1)) := rfl
      generalize (singlesL[i]'hltL) = t at *
      generalize cntT E t = c at *
      rw [HNS.out] at p1
      by_cases c1 : c ≤ 1
      · have HP2 : Hid ((singlesL.take (i + 1)).all (sP E) = true) := by rw [Hid, HSN.out, HP.out, HPT.out, decide_eq_true c1]; rfl
        have cI : ¬ (1 : Int) < (c : Int) := by omega
        clear HSN HBD HPT c1
        go_wp2_with fail
        refine hC.mono ?_
        rintro e w2 ⟨rfl, rfl⟩
        clear hC
        go_wp2
        go_roundw
        case rel => exact ⟨trivial, i + 1, by omega, by go_num, HP2⟩
        case measure => simp [intOf]; omega
      · have HF : Hid (false = O) := by
          have := HO.out
          rw [HBD.out (by rw [HPT.out, decide_eq_false c1])] at this
          exact this
        have cI : (1 : Int) < (c : Int) := by omega
        clear HSN HBD HPT c1
        go_wp2_with fail
        refine hC.mono ?_
        rintro e w2 ⟨rfl, rfl⟩
        clear hC
        go_wp2
        go_ret
        exact ⟨by rw [← HF.out]; rfl, HB1.out⟩
    · have hltI : ¬ (i : Int) < (NS : Int) := by omega
      have he : i = NS := by omega
      subst he
      have hO := HO.out
      have hP := HP.out
      rw [← HNS.out, List.take_length] at hP
      rw [hP, Bool.true_and] at hO
      have HO2 := hide hO
      have hPr := ref9_pairs wr
      clear hO hP HP HO
      go_wp2_with fail
      refine hPr.mono ?_
      rintro e w2 ⟨rfl, hA2, hb2, hl2⟩
      have HB2 : Hid (Below w.heap.size w w2) := HB1.out.trans (hb2.mono HB1.out.size)
      have HA2 := hide (HA1.out.below hb2)
      have HP2 := hide hA2
      clear hPr hA2 hb2
      generalize wr.heap.size = gp at *
      clear HA1 HU1 HNS hsl
      go_wp2
      go_loopw [6] (fun v6 wr => ∃ i : Nat, i ≤ 12 ∧ v6 = .int .i64 i ∧ Hid (Below w2.heap.size w2 wr) ∧ Hid ((pairsL.take i).all (pP E) = true)) (fun v6 _ => 12 - (intOf v6).toNat)
      case atStart => exact ⟨0, by omega, rfl, Below.refl _ _, by simp [Hid]⟩
      case round =>
        obtain ⟨i, hi, rfl, HBx, HP⟩ := hrel
        by_cases hlt : i < 12
        · have hltI : (i : Int) < 12 := by omega
          have hltL : i < pairsL.length := hlt
          obtain ⟨g, e', p1, p2, _, y0, y1⟩ := (HP2.out.below HBx.out).at i hltL
          cases e'
          have HC := hide (fun d os t => q_same (ref9_count (grow (redrawn wr d) os) _ E ((HA2.out.below HBx.out).below (below_regrown wr d os)) t))
          have HSN := hide (allT_snoc (pP E) pairsL i hltL)
          have HBD := hide (allT_bad (pP E) pairsL i hltL)
          have HPT : Hid (pP E (pairsL[i]'hltL) = decide (cntT E (pairsL[i]'hltL).tag = cntT E (pairsL[i]'hltL).val)) := rfl
          generalize (pairsL[i]'hltL) = e at *
          obtain ⟨t, u⟩ := e
          simp only at y0 y1 HPT
          have hc1 := HCL.out t
          have hc2 := HCL.out u
          clear p1 p2
          go_wp2_with fail
          try simp only [List.append_eq, List.cons_append, List.nil_append]
          refine wp_region_quiet_below (by kernel_rfl) (by kernel_rfl) ?_
          have e0 := cell_regrown y0
          have e1 := cell_regrown y1
          repeat (go_big_quiet_step (exact HC.out _ _ _))
          refine wpQuiet_nil ?_
          intro _ hwq
          obtain ⟨⟨dq, osq⟩, hwq2⟩ := hwq
          subst hwq2
          have HBy : Hid (Below w2.heap.size w2 (grow (redrawn wr dq) osq)) := HBx.out.trans ((below_regrown _ dq osq).mono HBx.out.size)
          clear e0 e1 y0 y1 HC HBx
          generalize grow _ _ = w3 at *
          generalize cntT E t = c at *
          generalize cntT E u = c' at *
          by_cases cc : c = c'
          · subst cc
            have HP3 : Hid ((pairsL.take (i + 1)).all (pP E) = true) := by rw [Hid, HSN.out, HP.out, HPT.out, decide_eq_true rfl]; rfl
            have cI : ((c : Int) != (c : Int)) = false := by simp
            clear HSN HBD HPT
            go_wp2
            go_roundw
            case rel => exact ⟨i + 1, by omega, by go_num, HBy, HP3⟩
            case measure => simp [intOf]; omega
          · have HF : Hid (false = O) := by
              have := HO2.out
              rw [HBD.out (by rw [HPT.out, decide_eq_false cc])] at this
              exact this
            have cI : ((c : Int) != (c' : Int)) = true := by simp; omega
            clear HSN HBD HPT cc
            go_wp2
            go_ret
            exact ⟨by rw [← HF.out]; rfl, HB2.out.trans (HBy.out.mono HB2.out.size)⟩
        · have hltI : ¬ (i : Int) < 12 := by omega
          have he : i = 12 := by omega
          subst he
          have hO := HO2.out
          have hP := HP.out
          rw [show pairsL.take 12 = pairsL from rfl] at hP
          rw [hP, Bool.true_and] at hO
          have HO3 := hide hO
          have hFx := ref9_fixed wr
          have HA3 := hide (HA2.out.below HBx.out)
          have HB3 : Hid (Below w.heap.size w wr) := HB2.out.trans (HBx.out.mono HB2.out.size)
          clear hO hP HP HO2 HP2 HA2 HB2 HBx
          go_wp2_with fail
          refine hFx.mono ?_
          rintro e w4 ⟨rfl, hA4, hb4, hl4⟩
          have HB4 : Hid (Below w.heap.size w w4) := HB3.out.trans (hb4.mono HB3.out.size)
          have HA4 := hide (HA3.out.below hb4)
          have HF4 := hide hA4
          clear hFx hA4 hb4 HA3 HB3
          generalize wr.heap.size = gf at *
          go_wp2
          go_loopw [8] (fun v8 wr => ∃ i : Nat, i ≤ 4 ∧ v8 = .int .i64 i ∧ Hid (Below w4.heap.size w4 wr) ∧ Hid ((fixedL.take i).all (fP E) = true)) (fun v8 _ => 4 - (intOf v8).toNat)
          case atStart => exact ⟨0, by omega, rfl, Below.refl _ _, by simp [Hid]⟩
          case round =>
            obtain ⟨i, hi, rfl, HBx, HP⟩ := hrel
            by_cases hlt : i < 4
            · have hltI : (i : Int) < 4 := by omega
              have hltL : i < fixedL.length := hlt
              obtain ⟨g, e', p1, p2, _, y0, y1⟩ := (HF4.out.below HBx.out).at i hltL
              cases e'
              have HC := hide (fun d os t => q_same (ref9_count (grow (redrawn wr d) os) _ E ((HA4.out.below HBx.out).below (below_regrown wr d os)) t))
              have HV := hide (fun d os t => q_same (ref9_value (grow (redrawn wr d) os) _ E ((HA4.out.below HBx.out).below (below_regrown wr d os)) t))
              have HSN := hide (allT_snoc (fP E) fixedL i hltL)
              have HBD := hide (allT_bad (fP E) fixedL i hltL)
              have HPT : Hid (fP E (fixedL[i]'hltL) = !(decide (cntT E (fixedL[i]'hltL).tag = 1) && decide (valT E (fixedL[i]'hltL).tag ≠ (fixedL[i]'hltL).val))) := rfl
              generalize (fixedL[i]'hltL) = e at *
              obtain ⟨t, u⟩ := e
              simp only at y0 y1 HPT
              have hc1 := HCL.out t
              clear p1 p2
              by_cases c1 : cntT E t = 1
              · have c1a : ((cntT E t : Int) == 1) = true := by rw [c1]; rfl
                have c1b : (cntT E t == 1) = true := by rw [c1]; rfl
                by_cases c2 : valT E t = u
                · have HP3 : Hid ((fixedL.take (i + 1)).all (fP E) = true) := by rw [Hid, HSN.out, HP.out, HPT.out, c2]; simp
                  have cI : ((valT E t : Int) != (u : Int)) = false := by rw [c2]; simp
                  have cN : (valT E t != u) = false := by rw [c2]; simp
                  have cM : (valT E t == u) = true := by rw [c2]; simp
                  have HC1 := hide c1
                  clear c1 c2
                  clear HSN HBD HPT
                  go_wp2_with fail
                  try simp only [List.append_eq, List.cons_append, List.nil_append]
                  refine wp_region_quiet_below (by kernel_rfl) (by kernel_rfl) ?_
                  have e0 := cell_regrown y0
                  have e1 := cell_regrown y1
                  repeat (go_big_quiet_step (first | (go_at_call 33; exact HC.out _ _ _) | (go_at_call 34; exact HV.out _ _ _)))
                  refine wpQuiet_nil ?_
                  intro _ hwq
                  obtain ⟨⟨dq, osq⟩, hwq2⟩ := hwq
                  subst hwq2
                  have HBy : Hid (Below w4.heap.size w4 (grow (redrawn wr dq) osq)) := HBx.out.trans ((below_regrown _ dq osq).mono HBx.out.size)
                  clear e0 e1 y0 y1 HC HV HBx
                  generalize grow _ _ = w5 at *
                  go_wp2
                  go_roundw
                  case rel => exact ⟨i + 1, by omega, by go_num, HBy, HP3⟩
                  case measure => simp [intOf]; omega
                · have HF : Hid (false = O) := by
                    have := HO3.out
                    rw [HBD.out (by rw [HPT.out]; simp [c1, c2])] at this
                    exact this
                  have cI : ((valT E t : Int) != (u : Int)) = true := by simp; omega
                  have cN : (valT E t != u) = true := by simpa using c2
                  have cM : (valT E t == u) = false := by simpa using c2
                  have HC1 := hide c1
                  clear c1 c2
                  clear HSN HBD HPT
                  go_wp2_with fail
                  try simp only [List.append_eq, List.cons_append, List.nil_append]
                  refine wp_region_quiet_below (by kernel_rfl) (by kernel_rfl) ?_
                  have e0 := cell_regrown y0
                  have e1 := cell_regrown y1
                  repeat (go_big_quiet_step (first | (go_at_call 33; exact HC.out _ _ _) | (go_at_call 34; exact HV.out _ _ _)))
                  refine wpQuiet_nil ?_
                  intro _ hwq
                  obtain ⟨⟨dq, osq⟩, hwq2⟩ := hwq
                  subst hwq2
                  have HBy : Hid (Below w4.heap.size w4 (grow (redrawn wr dq) osq)) := HBx.out.trans ((below_regrown _ dq osq).mono HBx.out.size)
                  clear e0 e1 y0 y1 HC HV HBx
                  generalize grow _ _ = w5 at *
                  go_wp2
                  go_ret
                  exact ⟨by rw [← HF.out]; rfl, HB4.out.trans (HBy.out.mono HB4.out.size)⟩
              · have HP3 : Hid ((fixedL.take (i + 1)).all (fP E) = true) := by rw [Hid, HSN.out, HP.out, HPT.out, decide_eq_false c1]; rfl
                have cI : ((cntT E t : Int) == 1) = false := by simp; omega
                have cN : (cntT E t == 1) = false := by simpa using c1
                clear HSN HBD HPT c1
                go_wp2_with fail
                try simp only [List.append_eq, List.cons_append, List.nil_append]
                refine wp_region_quiet_below (by kernel_rfl) (by kernel_rfl) ?_
                have e0 := cell_regrown y0
                have e1 := cell_regrown y1
                repeat (go_big_quiet_step (first | (go_at_call 33; exact HC.out _ _ _) | (go_at_call 34; exact HV.out _ _ _)))
                refine wpQuiet_nil ?_
                intro _ hwq
                obtain ⟨⟨dq, osq⟩, hwq2⟩ := hwq
                subst hwq2
                have HBy : Hid (Below w4.heap.size w4 (grow (redrawn wr dq) osq)) := HBx.out.trans ((below_regrown _ dq osq).mono HBx.out.size)
                clear e0 e1 y0 y1 HC HV HBx
                generalize grow _ _ = w5 at *
                go_wp2
                go_roundw
                case rel => exact ⟨i + 1, by omega, by go_num, HBy, HP3⟩
                case measure => simp [intOf]; omega
            · have hltI : ¬ (i : Int) < 4 := by omega
              have he : i = 4 := by omega
              subst he
              have hO := HO3.out
              have hP := HP.out
              rw [show fixedL.take 4 = fixedL from rfl] at hP
              rw [hP, Bool.true_and] at hO
              unfold mustB kindB at hO
              have hA := HA4.out.below HBx.out
              have HB5 : Hid (Below w.heap.size w wr) := HB4.out.trans (HBx.out.mono HB4.out.size)
              have k5 := ref9_count wr _ E hA 5
              have k6 := ref9_count wr _ E hA 6
              have k4 := ref9_count wr _ E hA 4
              have kg := ref9_count wr _ E hA 1879047925
              have kp := ref9_count wr _ E hA 1610612751
              have kq := ref9_count wr _ E hA 1610612753
              have kk := ref9_count wr _ E hA 20
              have kv := ref9_value wr _ E hA 20
              have l4 := HCL.out 4
              have lg := HCL.out 1879047925
              have lp := HCL.out 1610612751
              have lq := HCL.out 1610612753
              generalize cntT E 5 = c5 at *
              generalize cntT E 6 = c6 at *
              generalize cntT E 4 = c4 at *
              generalize cntT E 1879047925 = cg at *
              generalize cntT E 1610612751 = cp at *
              generalize cntT E 1610612753 = cq at *
              generalize cntT E 20 = ck at *
              generalize valT E 20 = vk at *
              clear hP HP HO3 HA4 HF4 HB4 HBx hA HCL
              by_cases a5 : c5 = 0
              · have HF : Hid (false = O) := by rw [Hid, ← hO]; simp [a5]
                have b5 : ((c5 : Int) == 0) = true := by simp; omega
                clear hO a5
                go_wp2_with fail
                refine k5.mono ?_
                rintro e w9 ⟨rfl, rfl⟩
                clear k5 k6 k4 kg kp kq kk kv
                go_wp2
                go_ret
                exact ⟨by rw [← HF.out]; rfl, HB5.out⟩
              have b5 : ((c5 : Int) == 0) = false := by simp; omega
              by_cases a6 : c6 = 0
              · have HF : Hid (false = O) := by rw [Hid, ← hO]; simp [a6]
                have b6 : ((c6 : Int) == 0) = true := by simp; omega
                clear hO a5 a6
                go_wp2_with fail
                refine k5.mono ?_
                rintro e w9 ⟨rfl, rfl⟩
                go_wp2_with fail
                refine k6.mono ?_
                rintro e w9 ⟨rfl, rfl⟩
                clear k5 k6 k4 kg kp kq kk kv
                go_wp2
                go_ret
                exact ⟨by rw [← HF.out]; rfl, HB5.out⟩
              have b6 : ((c6 : Int) == 0) = false := by simp; omega
              by_cases a4 : c4 + cg = 0
              · have HF : Hid (false = O) := by rw [Hid, ← hO]; simp [a4]
                have b4 : ((c4 : Int) + (cg : Int) == 0) = true := by simp; omega
                clear hO a5 a6 a4
                go_wp2_with fail
                refine k5.mono ?_
                rintro e w9 ⟨rfl, rfl⟩
                go_wp2_with fail
                refine k6.mono ?_
                rintro e w9 ⟨rfl, rfl⟩
                go_wp2_with fail
                refine k4.mono ?_
                rintro e w9 ⟨rfl, rfl⟩
                go_wp2_with fail
                refine kg.mono ?_
                rintro e w9 ⟨rfl, rfl⟩
                clear k5 k6 k4 kg kp kq kk kv
                go_wp2
                go_ret
                exact ⟨by rw [← HF.out]; rfl, HB5.out⟩
              have b4 : ((c4 : Int) + (cg : Int) == 0) = false := by simp; omega
              by_cases ap : cp + cq ≤ 1
              rotate_left
              · have HF : Hid (false = O) := by rw [Hid, ← hO]; simp [ap]
                have bp : (1 : Int) < (cp : Int) + (cq : Int) := by omega
                clear hO a5 a6 a4 ap
                go_wp2_with fail
                refine k5.mono ?_
                rintro e w9 ⟨rfl, rfl⟩
                go_wp2_with fail
                refine k6.mono ?_
                rintro e w9 ⟨rfl, rfl⟩
                go_wp2_with fail
                refine k4.mono ?_
                rintro e w9 ⟨rfl, rfl⟩
                go_wp2_with fail
                refine kg.mono ?_
                rintro e w9 ⟨rfl, rfl⟩
                go_wp2_with fail
                refine kp.mono ?_
                rintro e w9 ⟨rfl, rfl⟩
                go_wp2_with fail
                refine kq.mono ?_
                rintro e w9 ⟨rfl, rfl⟩
                clear k5 k6 k4 kg kp kq kk kv
                go_wp2
                go_ret
                exact ⟨by rw [← HF.out]; rfl, HB5.out⟩
              have bp : ¬ (1 : Int) < (cp : Int) + (cq : Int) := by omega
              rw [decide_eq_true a5, decide_eq_true a6, decide_eq_true a4, decide_eq_true ap] at hO
              simp only [Bool.true_and] at hO
              clear a5 a6 a4 ap
              by_cases ak : ck = 0
              · have HF : Hid (true = O) := by rw [Hid, ← hO]; simp [ak]
                have bk : ((ck : Int) == 0) = true := by simp; omega
                clear hO ak
                go_wp2_with fail
                refine k5.mono ?_
                rintro e w9 ⟨rfl, rfl⟩
                go_wp2_with fail
                refine k6.mono ?_
                rintro e w9 ⟨rfl, rfl⟩
                go_wp2_with fail
                refine k4.mono ?_
                rintro e w9 ⟨rfl, rfl⟩
                go_wp2_with fail
                refine kg.mono ?_
                rintro e w9 ⟨rfl, rfl⟩
                go_wp2_with fail
                refine kp.mono ?_
                rintro e w9 ⟨rfl, rfl⟩
                go_wp2_with fail
                refine kq.mono ?_
                rintro e w9 ⟨rfl, rfl⟩
                go_wp2_with fail
                refine kk.mono ?_
                rintro e w9 ⟨rfl, rfl⟩
                clear k5 k6 k4 kg kp kq kk kv
                go_wp2
                go_ret
                exact ⟨by rw [← HF.out]; rfl, HB5.out⟩
              have bk : ((ck : Int) == 0) = false := by simp; omega
              rw [decide_eq_false ak] at hO
              by_cases a7 : vk = 7
              · have HF : Hid (true = O) := by rw [Hid, ← hO]; simp [a7]
                have b7 : ((vk : Int) == 7) = true := by simp; omega
                clear hO ak a7
                go_wp2_with fail
                refine k5.mono ?_
                rintro e w9 ⟨rfl, rfl⟩
                go_wp2_with fail
                refine k6.mono ?_
                rintro e w9 ⟨rfl, rfl⟩
                go_wp2_with fail
                refine k4.mono ?_
                rintro e w9 ⟨rfl, rfl⟩
                go_wp2_with fail
                refine kg.mono ?_
                rintro e w9 ⟨rfl, rfl⟩
                go_wp2_with fail
                refine kp.mono ?_
                rintro e w9 ⟨rfl, rfl⟩
                go_wp2_with fail
                refine kq.mono ?_
                rintro e w9 ⟨rfl, rfl⟩
                go_wp2_with fail
                refine kk.mono ?_
                rintro e w9 ⟨rfl, rfl⟩
                go_wp2_with fail
                refine kv.mono ?_
                rintro e w9 ⟨rfl, rfl⟩
                clear k5 k6 k4 kg kp kq kk kv
                go_wp2
                go_ret
                exact ⟨by rw [← HF.out]; rfl, HB5.out⟩
              have b7 : ((vk : Int) == 7) = false := by simp; omega
              have HF : Hid (decide (vk = 17) = O) := by rw [Hid, ← hO]; simp [a7]
              have b17 : ((vk : Int) == 17) = decide (vk = 17) := by
                by_cases c : vk = 17
                · rw [decide_eq_true c]; simp; omega
                · rw [decide_eq_false c]; simp; omega
              clear hO ak a7
              go_wp2_with fail
              refine k5.mono ?_
              rintro e w9 ⟨rfl, rfl⟩
              go_wp2_with fail
              refine k6.mono ?_
              rintro e w9 ⟨rfl, rfl⟩
              go_wp2_with fail
              refine k4.mono ?_
              rintro e w9 ⟨rfl, rfl⟩
              go_wp2_with fail
              refine kg.mono ?_
              rintro e w9 ⟨rfl, rfl⟩
              go_wp2_with fail
              refine kp.mono ?_
              rintro e w9 ⟨rfl, rfl⟩
              go_wp2_with fail
              refine kq.mono ?_
              rintro e w9 ⟨rfl, rfl⟩
              go_wp2_with fail
              refine kk.mono ?_
              rintro e w9 ⟨rfl, rfl⟩
              go_wp2_with fail
              refine kv.mono ?_
              rintro e w9 ⟨rfl, rfl⟩
              go_wp2_with fail
              refine kv.mono ?_
              rintro e w9 ⟨rfl, rfl⟩
              clear k5 k6 k4 kg kp kq kk kv
              go_wp2
              go_ret
              exact ⟨by rw [← HF.out]; rfl, HB5.out⟩
end Go.Proofs.YtibfiikjelmhmaaDoor
