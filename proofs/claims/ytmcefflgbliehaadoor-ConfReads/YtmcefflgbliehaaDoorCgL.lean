
/-
  Layer 18 (conf): the reference's SameProps and Choose.
-/
import Derived.Test.YtmcefflgbliehaaDoorCgK
import Derived.Test.YtmcefflgbliehaaDoorCfL
set_option linter.unusedVariables false
namespace Go.Proofs.YtmcefflgbliehaaDoor
open Go.RowKit Go.PlainAid Go.Sort
set_option maxHeartbeats 4000000 in
set_option maxRecDepth 20000 in
theorem ref18_Same (w : World) (v u : Value) (l : List Pr) (h : ArgP w v l) (k : ArgP w u l) : Calls Tryd.prog 10 #[v, u] w fun e w' => e = .returned (.bool true) ∧ Below w.heap.size w w' := by
  have H := hide h
  have K := hide k
  have hlen := h.1
  obtain ⟨a, cap, rfl⟩ := h.form
  obtain ⟨a', cap', rfl⟩ := k.form
  clear h k
  go_enter Tryd.func10, Tryd.ntmps10
  go_wp2
  go_loopw [5] (fun vi wr => ∃ i : Nat, i ≤ l.length ∧ vi = .int .i64 i ∧ Hid (Below w.heap.size w wr)) (fun vi _ => l.length - (intOf vi).toNat)
  case atStart => exact ⟨0, by omega, rfl, Below.refl _ _⟩
  case round =>
    obtain ⟨i, hi, rfl, HB⟩ := hrel
    by_cases hlt : i < l.length
    · have hltI : (i : Int) < (l.length : Int) := by omega
      obtain ⟨g, o, rfl, q1, q2, q3, d0, d1, d2⟩ := (H.out.below HB.out).at i hlt
      obtain ⟨g', o', rfl, r1, r2, r3, e0, e1, e2⟩ := (K.out.below HB.out).at i hlt
      generalize l[i] = p at *
      unfold tx at d0 d1 e0 e1
      go_wp2_with fail
      go_quiet (fail)
      go_wp2
      go_roundw
      case rel => exact ⟨i + 1, by omega, by go_num, bel_drewN HB.out _⟩
      case measure => simp [intOf]; omega
    · have hltI : ¬ (i : Int) < (l.length : Int) := by omega
      go_wp2
      go_ret
      exact ⟨rfl, HB.out⟩
/-- What the reference's Choose answers. -/
def ScR (w : World) (T : Sc × Int) (e : Ending) (w' : World) : Prop :=
  (∃ pv, e = .returned (.tuple #[.agg #[.string (tx T.1.name), pv], .int .i64 T.2]) ∧ ArgP w' pv T.1.props) ∧ Below w.heap.size w w'
theorem partC_cons (s : Sc) (ss : List Sc) (nm : List UInt8) : partC (s :: ss) nm = if s.name = nm then (s, 0) else partC ss nm := by
  unfold partC
  by_cases h : s.name = nm
  · rw [if_pos h, List.find?_cons_of_pos (by unfold isS; simpa using h)]
  · rw [if_neg h, List.find?_cons_of_neg (by unfold isS; simpa using h)]
theorem ref_UnderT (p d : List UInt8) (w : World) (hd : d.length ≤ 100000000) : Calls Tryd.prog 32 #[.string (tx p), .string (tx d)] w fun e w' => e = .returned (.bool (underOf p d)) ∧ w = w' := by
  have := ref_Under (tx p) (tx d) w (by rw [tx_size]; exact hd)
  rw [data_tx, data_tx] at this
  exact this.mono fun e w' ⟨h1, h2⟩ => ⟨h1, h2.symm⟩
theorem ref_CleanT (p : List UInt8) (w : World) (hl : p.length ≤ 100000) : Calls Tryd.prog 31 #[.string (tx p)] w fun e w' => e = .returned (.tuple #[.string (tx (clT p)), .int .i64 (clE p)]) ∧ Below w.heap.size w w' := by
  have := ref_Clean (tx p) w (by rw [tx_size]; exact hl)
  rw [data_tx] at this
  exact this
set_option maxHeartbeats 8000000 in
set_option maxRecDepth 20000 in
theorem ref18_Choose (w : World) (dv sv : Value) (F : Cf) (h : CfIs w dv sv F) (hdv : ∀ d ∈ F.dirs, d.value.length ≤ 100000000) (p : List UInt8) (hp : p.length ≤ 100000) :
    Calls Tryd.prog 13 #[.agg #[dv, sv], .string (tx p)] w fun e w' => ScR w (chooseC F p) e w' := by
  obtain ⟨hd, ss, hss, hx⟩ := h
  obtain ⟨da, dc, rfl⟩ := hd.form
  obtain ⟨sa, sc, rfl⟩ := hx.form
  have hb1 := (below_box w (.cells #[.slice da F.dirs.length dc, .slice sa ss.length sc] 32)).alloc (below_box w (.cells #[.slice da F.dirs.length dc, .slice sa ss.length sc] 32)).size (.cells zSc.toArray 40)
  have hsz : (w.alloc (.cells #[.slice da F.dirs.length dc, .slice sa ss.length sc] 32)).heap.size = w.heap.size + 1 := by simp
  have HB1 := hide hb1
  have HX0 := hide (block_stay (block_new w (.cells #[.slice da F.dirs.length dc, .slice sa ss.length sc] 32)) (below_box _ (.cells zSc.toArray 40)))
  have HR0 := hide (block_new (w.alloc (.cells #[.slice da F.dirs.length dc, .slice sa ss.length sc] 32)) (.cells zSc.toArray 40))
  rw [hsz] at HR0
  have hC := ref_CleanT p ((w.alloc (.cells #[.slice da F.dirs.length dc, .slice sa ss.length sc] 32)).alloc (.cells zSc.toArray 40)) hp
  have HD := hide (fun W (hW : Below w.heap.size w W) => hd.below hW)
  have HXX := hide (fun W (hW : Below w.heap.size w W) => hx.below hW)
  have HDV := hide hdv
  have hdl := hd.1
  have hxl := hx.1
  obtain ⟨T, hT⟩ : ∃ T, chooseC F p = T := ⟨_, rfl⟩
  rw [hT]
  by_cases hE : clE p = 0
  · have hT2 : chooseR (clT p) F.dirs F.secs = T := by rw [← hT]; unfold chooseC chooseR; rw [if_neg (by simp [hE])]
    have HT := hide hT2
    have HSS := hide hss
    rw [hE] at hC
    generalize clT p = cl at *
    clear hT hT2 hE hb1 hsz hd hx hss hdv
    unfold zSc at *
    unfold tx at hC ⊢
    go_enter Tryd.func13, Tryd.ntmps13
    go_wp2_with fail
    refine hC.mono ?_
    rintro e w1 ⟨rfl, hb1⟩
    have HX1 := hide (block_stay HX0.out hb1)
    have HR1 := hide (block_stay HR0.out hb1)
    have HB2 := hide (HB1.out.trans (hb1.mono HB1.out.size))
    clear hb1 hC HB1 HX0 HR0
    go_wp2_with fail
    go_loopw [8, 9] (fun vi _ wr => ∃ i : Nat, i ≤ F.dirs.length ∧ vi = .int .i64 i ∧ Hid (Below w1.heap.size w1 wr) ∧ Hid (chooseR cl (F.dirs.drop i) F.secs = T)) (fun vi _ _ => F.dirs.length - (intOf vi).toNat)
    case atStart => exact ⟨0, by omega, rfl, Below.refl _ _, HT.out⟩
    case round =>
      obtain ⟨i, hi, rfl, HB, HG⟩ := hrel
      have HXr := hide (block_stay HX1.out HB.out)
      have HRr := hide (block_stay HR1.out HB.out)
      have HBr := hide (HB2.out.trans (HB.out.mono HB2.out.size))
      have x0 := cells_of_block HXr.out 0 _ rfl
      by_cases hlt : i < F.dirs.length
      · have hltI : (i : Int) < (F.dirs.length : Int) := by omega
        have hG := HG.out
        rw [List.drop_eq_getElem_cons hlt, chooseR_cons] at hG
        have hdl2 := HDV.out _ (List.getElem_mem hlt)
        have HAT := hide (fun W (hW : Below w.heap.size w W) => (HD.out W hW).at i hlt)
        obtain ⟨g, o, rfl, hc1, hc2, hg, d0, d1, d2⟩ := (HD.out wr HBr.out).at i hlt
        generalize F.dirs[i] = d at *
        have hU := fun W => ref_UnderT cl d.value W hdl2
        have HDC : Hid (∀ W, Below w.heap.size w W → W.cell? ⟨g, o + i * 3, none⟩ = some (.string (tx d.name))) := fun W hW => by
          obtain ⟨g', o', e, _, _, _, d0, _, _⟩ := HAT.out W hW
          injection e with e; injection e with e3 e4
          subst e3 e4
          exact d0
        unfold tx at d1 hU
        clear HAT d0 d2 hdl2
        cases hu : underOf cl d.value with
        | true =>
          rw [hu] at hU hG
          rw [if_pos rfl] at hG
          have HG2 := hide hG
          clear hG hu HG
          go_wp2_with (go_at_call 32; refine (hU _).mono ?_; rintro e w5 ⟨rfl, rfl⟩)
          go_loopw [9] (fun vk wq => ∃ k : Nat, k ≤ ss.length ∧ vk = .int .i64 k ∧ Hid (Below wr.heap.size wr wq) ∧ Hid (partC ((ss.drop k).map Sx.sc) d.name = T)) (fun vk _ => ss.length - (intOf vk).toNat)
          case atStart => exact ⟨0, by omega, rfl, Below.refl _ _, by rw [Hid, List.drop_zero, HSS.out]; exact HG2.out⟩
          case round =>
            obtain ⟨k, hk, rfl, HBq, HGq⟩ := hrel
            have HXq := hide (block_stay HXr.out HBq.out)
            have HRq := hide (block_stay HRr.out HBq.out)
            have HBw := hide (HBr.out.trans (HBq.out.mono HBr.out.size))
            have x0 := cells_of_block HXq.out 0 _ rfl
            have x1 := cells_of_block HXq.out 1 _ rfl
            by_cases hlk : k < ss.length
            · have hlkI : (k : Int) < (ss.length : Int) := by omega
              have hG := HGq.out
              rw [List.drop_eq_getElem_cons hlk, List.map_cons, partC_cons] at hG
              have HPV := hide (fun W (hW : Below w.heap.size w W) => (HXX.out W hW).2.1 ss[k] (List.getElem_mem hlk))
              obtain ⟨g2, o2, rfl, q1, q2, q3, e0, e1⟩ := (HXX.out wr HBw.out).at k hlk
              generalize ss[k] = s at *
              have n0 := HDC.out wr HBw.out
              obtain ⟨pa, pn, pc, hpf⟩ : ∃ a n c, s.pv = .slice a n c := by obtain ⟨a, c, e⟩ := (HPV.out wr HBw.out).form; exact ⟨_, _, _, e⟩
              rw [hpf] at e1 HPV
              by_cases hn : s.name = d.name
              · rw [if_pos (show s.sc.name = d.name from hn)] at hG
                have HG3 := hide hG
                have hn2 : (s.name == d.name) = true := by simpa using hn
                rw [hn] at e0
                have HSN := hide hn
                clear hG HGq hn hn2
                generalize d.name = dn at *
                unfold tx at e0 n0
                go_wp2_with fail
                go_quiet (fail)
                have HRz : Hid ((wr.drewN nq).heap[w.heap.size + 1]? = _) := block_stay HRq.out (bel_drewN (Below.refl _ wr) nq)
                have HBz := hide (bel_drewN HBw.out nq)
                have E0 : (wr.drewN nq).cell? ⟨g2, o2 + k * 2, none⟩ = some (.string ⟨dn.toArray⟩) := ((bel_drewN (Below.refl _ wr) nq).cell (p := ⟨g2, _, none⟩) q3).trans e0
                have E1 : (wr.drewN nq).cell? ⟨g2, o2 + k * 2 + 1, none⟩ = some (.slice pa pn pc) := ((bel_drewN (Below.refl _ wr) nq).cell (p := ⟨g2, _, none⟩) q3).trans e1
                have X1 := cells_of_block (block_stay HXq.out (bel_drewN (Below.refl _ wr) nq)) 1 _ rfl
                clear e0 e1 n0 x0 x1
                generalize wr.drewN nq = wz at *
                go_wp2_with ((with_reducible refine at_storeQ (T := 40) ?_); refine store_part rfl _ _ _ rfl (w.heap.size + 1) 0 40 _ [.string ⟨dn.toArray⟩, .slice pa pn pc] [.string ⟨dn.toArray⟩, .slice pa pn pc].toArray HRz.out rfl rfl sy_size (sc_one _ _ ⟨_, _, _, rfl⟩) (Nat.le_refl 2) (by rfl) ?_; intro w4 hg4 hb4; have HG4 := hide hg4; have HB4 := hide (below_own HBz.out hb4 (Nat.le_succ _) (Nat.le_refl _)); clear hg4 hb4)
                refine bodyPost_ret (results_cell2 rfl _ _ (w.heap.size + 1) _ _ _ _ rfl HG4.out Tryd.underlying40 rfl (by kernel_rfl)) rfl ?_
                rw [← HG3.out]
                exact ⟨⟨_, by show _ = Ending.returned (.tuple #[.agg #[.string (tx s.name), _], .int .i64 0]); rw [HSN.out]; rfl, HPV.out w4 HB4.out⟩, HB4.out⟩
              · rw [if_neg (show ¬ s.sc.name = d.name from hn)] at hG
                have HG3 := hide hG
                have hn2 : (s.name == d.name) = false := by simpa using hn
                clear hG HGq
                generalize s.name = sn at *
                generalize d.name = dn at *
                unfold tx at e0 n0
                go_wp2_with fail
                go_quiet (fail)
                go_wp2
                go_roundw
                case rel => exact ⟨k + 1, by omega, by go_num, bel_drewN HBq.out _, HG3.out⟩
                case measure => simp [intOf]; omega
            · have hlkI : ¬ (k : Int) < (ss.length : Int) := by omega
              have hke : k = ss.length := by omega
              subst hke
              have hG := HGq.out
              rw [List.drop_length] at hG
              have HG3 : Hid ((noSc, (181 : Int)) = T) := hG
              clear hG HGq
              go_wp2_with ((with_reducible refine at_storeQ (T := 40) ?_); refine store_part rfl _ _ _ rfl (w.heap.size + 1) 0 40 _ zSc zSc.toArray HRq.out rfl rfl sy_size (sc_one _ _ ⟨_, _, _, rfl⟩) (Nat.le_refl 2) (by rfl) ?_; intro w4 hg4 hb4; have HG4 := hide hg4; have HB4 := hide (below_own HBw.out hb4 (Nat.le_succ _) (Nat.le_refl _)); clear hg4 hb4)
              refine bodyPost_ret (results_cell2 rfl _ _ (w.heap.size + 1) _ _ _ _ rfl HG4.out Tryd.underlying40 rfl (by kernel_rfl)) rfl ?_
              rw [← HG3.out]
              exact ⟨⟨_, rfl, ArgP.nilA _⟩, HB4.out⟩
        | false =>
          rw [hu] at hU hG
          rw [if_neg (by simp)] at hG
          have HG2 := hide hG
          clear hG hu HG
          go_wp2_with (go_at_call 32; refine (hU _).mono ?_; rintro e w5 ⟨rfl, rfl⟩)
          go_roundw
          case rel => exact ⟨i + 1, by omega, by go_num, HB.out, HG2⟩
          case measure => simp [intOf]; omega
      · have hltI : ¬ (i : Int) < (F.dirs.length : Int) := by omega
        have hie : i = F.dirs.length := by omega
        subst hie
        have hG := HG.out
        rw [List.drop_length] at hG
        have HG2 : Hid ((noSc, (181 : Int)) = T) := hG
        clear hG HG
        go_wp2_with ((with_reducible refine at_storeQ (T := 40) ?_); refine store_part rfl _ _ _ rfl (w.heap.size + 1) 0 40 _ zSc zSc.toArray HRr.out rfl rfl sy_size (sc_one _ _ ⟨_, _, _, rfl⟩) (Nat.le_refl 2) (by rfl) ?_; intro w4 hg4 hb4; have HG4 := hide hg4; have HB4 := hide (below_own HBr.out hb4 (Nat.le_succ _) (Nat.le_refl _)); clear hg4 hb4)
        refine bodyPost_ret (results_cell2 rfl _ _ (w.heap.size + 1) _ _ _ _ rfl HG4.out Tryd.underlying40 rfl (by kernel_rfl)) rfl ?_
        rw [← HG2.out]
        exact ⟨⟨_, rfl, ArgP.nilA _⟩, HB4.out⟩
  · have hT2 : (noSc, (40 : Int)) = T := by rw [← hT]; unfold chooseC; rw [if_pos hE]
    have HT := hide hT2
    have hE40 : clE p = 40 := by
      unfold clE at hE ⊢
      split at hE
      · exact absurd rfl hE
      · rename_i h; rw [if_neg h]
    rw [hE40] at hC
    generalize clT p = cl at *
    clear hT hT2 hE hE40 hb1 hsz hd hx hss hdv
    unfold zSc at *
    unfold tx at hC ⊢
    go_enter Tryd.func13, Tryd.ntmps13
    go_wp2_with fail
    refine hC.mono ?_
    rintro e w1 ⟨rfl, hb1⟩
    have HR1 := hide (block_stay HR0.out hb1)
    have HB2 := hide (HB1.out.trans (hb1.mono HB1.out.size))
    clear hb1 hC HB1 HX0 HR0
    go_wp2_with ((with_reducible refine at_storeQ (T := 40) ?_); refine store_part rfl _ _ _ rfl (w.heap.size + 1) 0 40 _ zSc zSc.toArray HR1.out rfl rfl sy_size (sc_one _ _ ⟨_, _, _, rfl⟩) (Nat.le_refl 2) (by rfl) ?_; intro w4 hg4 hb4; have HG4 := hide hg4; have HB4 := hide (below_own HB2.out hb4 (Nat.le_succ _) (Nat.le_refl _)); clear hg4 hb4)
    refine bodyPost_ret (results_cell2 rfl _ _ (w.heap.size + 1) _ _ _ _ rfl HG4.out Tryd.underlying40 rfl (by kernel_rfl)) rfl ?_
    rw [← HT.out]
    exact ⟨⟨_, rfl, ArgP.nilA _⟩, HB4.out⟩
end Go.Proofs.YtmcefflgbliehaaDoor
