
/-
  Layer 18 (conf): Choose.
-/
import Derived.Test.YtmcefflgbliehaaDoorCfK
set_option linter.unusedVariables false
namespace Go.Proofs.YtmcefflgbliehaaDoor
open Go.RowKit Go.PlainAid Go.Sort
set_option maxHeartbeats 4000000 in
set_option maxRecDepth 20000 in
theorem conf_Choose (w : World) (hm : Mx w) (dv sv : Value) (F : Cf) (h : CfIs w dv sv F) (p : List UInt8) (hp : p.length ≤ 100000) :
    Calls Tryd.prog 12 #[.agg #[dv, sv], .string (tx p)] w fun e w' => ScTo w (chooseC F p) e w' := by
  obtain ⟨hd, ss, hss, hx⟩ := h
  obtain ⟨da, dc, rfl⟩ := hd.form
  obtain ⟨sa, sc, rfl⟩ := hx.form
  have hb1 := (below_box w (.cells #[.slice da F.dirs.length dc, .slice sa ss.length sc] 25)).alloc (below_box w (.cells #[.slice da F.dirs.length dc, .slice sa ss.length sc] 25)).size (.cells zSc.toArray 38)
  have hsz : (w.alloc (.cells #[.slice da F.dirs.length dc, .slice sa ss.length sc] 25)).heap.size = w.heap.size + 1 := by simp
  have HB1 := hide hb1
  have HX0 := hide (block_stay (block_new w (.cells #[.slice da F.dirs.length dc, .slice sa ss.length sc] 25)) (below_box _ (.cells zSc.toArray 38)))
  have HR0 := hide (block_new (w.alloc (.cells #[.slice da F.dirs.length dc, .slice sa ss.length sc] 25)) (.cells zSc.toArray 38))
  rw [hsz] at HR0
  have hC := tn_Clean p _ (hm.below hb1) hp
  have HD := hide (fun W (hW : Below w.heap.size w W) => hd.below hW)
  have HXX := hide (fun W (hW : Below w.heap.size w W) => hx.below hW)
  have hdl := hd.1
  have hxl := hx.1
  obtain ⟨T, hT⟩ : ∃ T, chooseC F p = T := ⟨_, rfl⟩
  rw [hT]
  by_cases hE : clE p = 0
  · have hT2 : chooseR (clT p) F.dirs F.secs = T := by rw [← hT]; unfold chooseC chooseR; rw [if_neg (by simp [hE])]
    have HT := hide hT2
    have HSS := hide hss
    rw [hE] at hC
    generalize clT p = cl at *
    clear hT hT2 hE hb1 hsz hd hx hm hss
    unfold zSc at *
    unfold tx at hC ⊢
    go_enter Tryd.func12, Tryd.ntmps12
    go_wp2_with fail
    refine hC.mono ?_
    rintro e w1 ⟨rfl, hb1⟩
    have HX1 := hide (block_stay HX0.out hb1)
    have HR1 := hide (block_stay HR0.out hb1)
    have HB2 := hide (HB1.out.trans (hb1.mono HB1.out.size))
    clear hb1 hC HB1 HX0 HR0
    have x0 := cells_of_block HX1.out 0 _ rfl
    go_wp2
    go_loopw [9, 21] (fun _ vi wr => ∃ i : Nat, i ≤ F.dirs.length ∧ vi = .int .i64 i ∧ Hid (Below w1.heap.size w1 wr) ∧ Hid (chooseR cl (F.dirs.drop i) F.secs = T)) (fun _ vi _ => F.dirs.length - (intOf vi).toNat)
    case atStart => exact ⟨0, by omega, rfl, Below.refl _ _, HT.out⟩
    case round =>
      obtain ⟨i, hi, rfl, HB, HG⟩ := hrel
      have HXr := hide (block_stay HX1.out HB.out)
      have HRr := hide (block_stay HR1.out HB.out)
      have HBr := hide (HB2.out.trans (HB.out.mono HB2.out.size))
      by_cases hlt : i < F.dirs.length
      · have hltI : (i : Int) < (F.dirs.length : Int) := by omega
        obtain ⟨g, o, rfl, hc1, hc2, hg, d0, d1, d2⟩ := (HD.out wr HBr.out).at i hlt
        have hG := HG.out
        rw [List.drop_eq_getElem_cons hlt, chooseR_cons] at hG
        have hU := fun W => tn_Under cl F.dirs[i].value W
        generalize F.dirs[i] = d at *
        unfold tx at d0 d1 hU
        cases hu : underOf cl d.value with
        | true =>
          rw [hu] at hU hG
          rw [if_pos rfl] at hG
          have HG2 := hide hG
          have HSX := hide (HXX.out)
          have c1 := fun (o : Obj) => cells_of_block (block_stay HXr.out (below_box wr o)) 1 _ rfl
          have hP := fun W (hW : Below w.heap.size w W) => conf_part W _ ss (HXX.out W hW) d.name
          rw [HSS.out] at hP
          have hBL : ∀ o : Obj, w.heap.size + 1 < (wr.alloc o).heap.size := fun o => by have := block_lt HRr.out; simp; omega
          have HBA := hide (fun (o : Obj) => HBr.out.alloc HBr.out.size o)
          have HRA := hide (fun (o : Obj) => block_stay HRr.out (below_box wr o))
          unfold tx at hP
          clear hG hu HG
          go_wp2_with (go_at_call 29; refine (hU _).mono ?_; rintro e w5 ⟨rfl, rfl⟩)
          refine (hP _ (HBA.out _)).mono ?_
          rintro e w5 ⟨⟨pv, rfl, hpv, hpb⟩, hb5⟩
          have HPV := hide hpv
          have HPB := hide hpb
          have HR5 := hide (block_stay (HRA.out _) hb5)
          have HB5 := hide ((HBA.out _).trans (hb5.mono (HBA.out _).size))
          obtain ⟨pa, pc, hpf⟩ := hpv.form
          subst hpf
          have hTS := HG2.out
          subst hTS
          have HNE : Hid ((Value.slice pa (partC F.secs d.name).1.props.length pc).ownBlock ≠ some (w.heap.size + 1)) := fun e => by have h1 := hpb _ e; have h2 := hBL (.cells #[.string ⟨d.name.toArray⟩, .string ⟨d.value.toArray⟩, .int .i64 d.line] 60); omega
          have HGE : Hid (∀ g, (Value.slice pa (partC F.secs d.name).1.props.length pc).ownBlock = some g → w.heap.size ≤ g) := fun g e => by have h1 := hpb _ e; have h2 := hBL (.cells #[.string ⟨d.name.toArray⟩, .string ⟨d.value.toArray⟩, .int .i64 d.line] 60); omega
          clear hpv hpb hb5 c1 hP hBL HPB
          go_wp2_with ((with_reducible refine at_storeQ (T := 38) ?_); refine store_part rfl _ _ _ rfl (w.heap.size + 1) 0 38 _ _ _ HR5.out rfl rfl sc_size (sc_one _ _ ⟨_, _, _, rfl⟩) (Nat.le_refl 2) (by rfl) ?_; intro w4 hg4 hb4; have HG4 := hide hg4; have HB4 := hide (below_own HB5.out hb4 (Nat.le_succ _) (Nat.le_refl _)); have HGB := hide hb4; clear hg4 hb4)
          refine bodyPost_ret (results_cell2 rfl _ _ (w.heap.size + 1) _ _ _ _ rfl HG4.out Tryd.underlying38 rfl (by kernel_rfl)) rfl ?_
          exact ⟨⟨_, rfl, HPV.out.grown HGB.out HNE.out, HGE.out⟩, HB4.out⟩
        | false =>
          rw [hu] at hU hG
          rw [if_neg (by simp)] at hG
          have HG2 := hide hG
          clear hG hu HG
          go_wp2_with (go_at_call 29; refine (hU _).mono ?_; rintro e w5 ⟨rfl, rfl⟩)
          go_roundw
          case rel => exact ⟨i + 1, by omega, by go_num, HB.out.alloc HB.out.size _, HG2⟩
          case measure => simp [intOf]; omega
      · have hltI : ¬ (i : Int) < (F.dirs.length : Int) := by omega
        have hie : i = F.dirs.length := by omega
        subst hie
        have hG := HG.out
        rw [List.drop_length] at hG
        have HG2 : Hid ((noSc, (181 : Int)) = T) := hG
        clear hG HG
        go_wp2_with ((with_reducible refine at_storeQ (T := 38) ?_); refine store_part rfl _ _ _ rfl (w.heap.size + 1) 0 38 _ zSc zSc.toArray HRr.out rfl rfl sc_size (sc_one _ _ ⟨_, _, _, rfl⟩) (Nat.le_refl 2) (by rfl) ?_; intro w4 hg4 hb4; have HG4 := hide hg4; have HB4 := hide (below_own HBr.out hb4 (Nat.le_succ _) (Nat.le_refl _)); clear hg4 hb4)
        refine bodyPost_ret (results_cell2 rfl _ _ (w.heap.size + 1) _ _ _ _ rfl HG4.out Tryd.underlying38 rfl (by kernel_rfl)) rfl ?_
        rw [← HG2.out]
        exact ⟨⟨_, rfl, ArgP.nilA _, fun g e => by cases e⟩, HB4.out⟩
  · have hT2 : (noSc, (40 : Int)) = T := by rw [← hT]; unfold chooseC; rw [if_pos hE]
    have HT := hide hT2
    have hE40 : clE p = 40 := by
      unfold clE at hE ⊢
      split at hE
      · exact absurd rfl hE
      · rename_i h; rw [if_neg h]
    rw [hE40] at hC
    generalize clT p = cl at *
    clear hT hT2 hE hE40 hb1 hsz hd hx hm hss
    unfold zSc at *
    unfold tx at hC ⊢
    go_enter Tryd.func12, Tryd.ntmps12
    go_wp2_with fail
    refine hC.mono ?_
    rintro e w1 ⟨rfl, hb1⟩
    have HR1 := hide (block_stay HR0.out hb1)
    have HB2 := hide (HB1.out.trans (hb1.mono HB1.out.size))
    clear hb1 hC HB1 HX0 HR0
    go_wp2_with ((with_reducible refine at_storeQ (T := 38) ?_); refine store_part rfl _ _ _ rfl (w.heap.size + 1) 0 38 _ zSc zSc.toArray HR1.out rfl rfl sc_size (sc_one _ _ ⟨_, _, _, rfl⟩) (Nat.le_refl 2) (by rfl) ?_; intro w4 hg4 hb4; have HG4 := hide hg4; have HB4 := hide (below_own HB2.out hb4 (Nat.le_succ _) (Nat.le_refl _)); clear hg4 hb4)
    refine bodyPost_ret (results_cell2 rfl _ _ (w.heap.size + 1) _ _ _ _ rfl HG4.out Tryd.underlying38 rfl (by kernel_rfl)) rfl ?_
    rw [← HT.out]
    exact ⟨⟨_, rfl, ArgP.nilA _, fun g e => by cases e⟩, HB4.out⟩
end Go.Proofs.YtmcefflgbliehaaDoor
