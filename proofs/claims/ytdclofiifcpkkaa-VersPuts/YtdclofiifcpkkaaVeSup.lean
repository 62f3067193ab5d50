
/-
  Layer 11: the reference's List; a library without versions; what the statements ask besides.
-/
import Derived.Test.YtdclofiifcpkkaaVeRef
import Derived.Test.YtdclofiifcpkkaaVeTwo
import Derived.Test.YtdclofiifcpkkaaDyKK
import Derived.Lib.SlBytesConst
set_option linter.unusedVariables false
namespace Go.Proofs.Ytdclofiifcpkkaa
open Go.RowKit Go.PlainAid Go.Sort
set_option maxHeartbeats 8000000 in
set_option maxRecDepth 20000 in
theorem rf_List (w : World) (b : Value) (l : List UInt8) (hb : Arg w b l) (m : Nat) (v : Value) (d r : Ph) (ps : List Ph) (h : ArgH w v ps) (ok : ∀ p ∈ ps, p.ok) (sm : ∀ p ∈ ps, p.off + p.filesz ≤ 1000000) (lo : ∀ p ∈ ps, p.vaddr + p.filesz ≤ 16384)
    (cs : Array Value) (hz : cs.size = 40) (x s : Nat) (h7 : cs[7]? = some (.int .u64 x)) (h8 : cs[8]? = some (.int .u64 s)) (hx : x < 18446744073709551616) (hs : s < 18446744073709551616)
    (vq : Vq) (h13 : cs[13]? = some (.int .u64 vq.def')) (h14 : cs[14]? = some (.int .u64 vq.need)) (h15 : cs[15]? = some (.int .u64 vq.defs)) (h16 : cs[16]? = some (.int .u64 vq.needs)) (hq1 : vq.def' < 18446744073709551616) (hq2 : vq.need < 18446744073709551616) (hq3 : vq.defs < 18446744073709551616) (hq4 : vq.needs < 18446744073709551616) :
    Calls Try.prog 18 #[b, .agg (hdCells m v d r).toArray, .agg cs] w fun e w' => VerIs 69 .u64 w' w.heap.size (verZ l ps (partZ l ps x s).1 (partZ l ps x s).2 vq) e ∧ Below w.heap.size w w' := by
  have HB : Hid (Below w.heap.size w ((w.alloc (.cells (hdCells m v d r).toArray 30)).alloc (.cells cs 35))) := ((Below.refl _ w).alloc (Nat.le_refl _) _).alloc (by simp) _
  have HG : Hid (((w.alloc (.cells (hdCells m v d r).toArray 30)).alloc (.cells cs 35)).heap[w.heap.size]? = some (.cells (hdCells m v d r).toArray 30 (0, 0))) := by
    rw [Hid, heap_alloc_old _ _ (by simp)]; exact heap_alloc_new _ _
  have hs1 : (w.alloc (.cells (hdCells m v d r).toArray 30)).heap.size = w.heap.size + 1 := by simp
  have HD : Hid (((w.alloc (.cells (hdCells m v d r).toArray 30)).alloc (.cells cs 35)).heap[w.heap.size + 1]? = some (.cells cs 35 (0, 0))) := by
    rw [Hid, ← hs1]; exact heap_alloc_new _ _
  have HLL : Hid (l.length ≤ 140737488351232) := by obtain ⟨_, _, _, _, _, hl⟩ := hb.isSlice; exact hl
  have HAB := hide (hb.below' HB.out)
  have HAH := hide (h.below HB.out)
  have hS := ref9_Strings _ b l HAB.out m v d r ps HAH.out ok sm cs hz x s h7 h8 hx hs
  have HSL : Hid ((partZ l ps x s).1.length ≤ 140737488351232) := Nat.le_trans (rc_len l ps x s) HLL.out
  obtain ⟨⟨S, sb⟩, hP⟩ : ∃ P, partZ l ps x s = P := ⟨_, rfl⟩
  rw [hP] at hS HSL ⊢
  simp only at hS HSL ⊢
  obtain ⟨ba, bn, bc, rfl⟩ : ∃ a n c, b = .slice a n c := by obtain ⟨a, c, e, _⟩ := hb.isSlice; exact ⟨_, _, _, e⟩
  obtain ⟨va, vn, vc, rfl⟩ : ∃ a n c, v = .slice a n c := by obtain ⟨a, c, e⟩ := h.form; exact ⟨_, _, _, e⟩
  have HOK := hide ok
  have HSM := hide sm
  have HLO := hide lo
  obtain ⟨O, hO⟩ : ∃ O, verZ l ps S sb vq = O := ⟨_, rfl⟩
  rw [hO]
  have HO := hide hO
  have HCE : Hid (∀ X : World, X.heap[w.heap.size + 1]? = some (.cells cs 35 (0, 0)) → X.cell? ⟨w.heap.size + 1, 13, none⟩ = some (.int .u64 vq.def') ∧ X.cell? ⟨w.heap.size + 1, 14, none⟩ = some (.int .u64 vq.need) ∧ X.cell? ⟨w.heap.size + 1, 15, none⟩ = some (.int .u64 vq.defs) ∧ X.cell? ⟨w.heap.size + 1, 16, none⟩ = some (.int .u64 vq.needs)) := fun X hX =>
    ⟨cells_of_block hX 13 _ h13, cells_of_block hX 14 _ h14, cells_of_block hX 15 _ h15, cells_of_block hX 16 _ h16⟩
  have HZ := hide hz
  have HQ1 := hide hq1
  have HQ2 := hide hq2
  clear hb h ok sm lo h7 h8 h13 h14 h15 h16 hx hs hs1 hP hO hz hq1 hq2 hq3 hq4
  obtain ⟨qd, qds, qn, qns⟩ := vq
  simp only at HCE HQ1 HQ2 HO ⊢
  go_enter Try.func18, Try.ntmps18
  go_wp2_with (first
    | ((with_reducible refine at_load ?_); refine load_row rfl _ _ rfl w.heap.size _ (load_hd HG.out rfl) rfl ?_)
    | ((with_reducible refine at_loadD ?_); refine load_row rfl _ _ rfl (w.heap.size + 1) _ (load_dy HD.out HZ.out) rfl ?_))
  refine hS.mono ?_
  rintro e W1 ⟨⟨vs, rfl, ownS⟩, hb1⟩
  have HB1 : Hid (Below w.heap.size w W1) := HB.out.trans (hb1.mono HB.out.size)
  have HG1 := hide (block_stay HG.out hb1)
  have HD1 := hide (block_stay HD.out hb1)
  have HAB1 := hide (HAB.out.below' hb1)
  have HAH1 := hide (HAH.out.below hb1)
  have HAS1 := hide (ownS.arg HSL.out)
  obtain ⟨sa, sn, sc, rfl⟩ : ∃ a n c, vs = .slice a n c := by obtain ⟨a, c, e, _⟩ := HAS1.out.isSlice; exact ⟨_, _, _, e⟩
  clear hS hb1 ownS HB HG HD HAB HAH
  obtain ⟨c13, c14, c15, c16⟩ := HCE.out W1 HD1.out
  by_cases hbad : sb = false ∨ 33 < qds ∨ 32 < qns
  · have HN : Hid (none = O) := by rw [Hid, ← HO.out]; exact (verZ_no hbad).symm
    have hcs : sb = false ∨ (sb = true ∧ (33 : Int) < (qds : Int)) ∨ (sb = true ∧ ¬ (33 : Int) < (qds : Int) ∧ (32 : Int) < (qns : Int)) := by
      cases sb with
      | false => exact .inl rfl
      | true =>
        by_cases x1 : 33 < qds
        · exact .inr (.inl ⟨rfl, by omega⟩)
        · rcases hbad with e | e | e
          · cases e
          · exact absurd e x1
          · exact .inr (.inr ⟨rfl, by omega, by omega⟩)
    clear hbad HO
    rcases hcs with rfl | ⟨rfl, x1⟩ | ⟨rfl, x1, x2⟩
    all_goals
      go_wp2
      go_ret2
      exact ⟨by rw [← HN.out]; rfl, HB1.out⟩
  · have HP := hide ((verZ_yes (l := l) (ps := ps) (S := S) hbad).symm.trans HO.out)
    have hsb : sb = true := by cases sb; exact absurd (.inl rfl) hbad; rfl
    have hd33 : ¬ (33 : Int) < (qds : Int) := by omega
    have hn32 : ¬ (32 : Int) < (qns : Int) := by omega
    subst hsb
    clear HO hbad
    obtain ⟨q, hq⟩ : ∃ q : Rp, (⟨ba, bn, bc, m, va, vn, vc, d, r, sa, sn, sc, l, ps, S⟩ : Rp) = q := ⟨_, rfl⟩
    have HQL : Hid (l = q.l ∧ ps = q.ps ∧ S = q.S) := by rw [Hid, ← hq]; exact ⟨rfl, rfl, rfl⟩
    have HRF : Hid (Rf W1 q) := by rw [Hid, ← hq]; exact ⟨⟨HAB1.out, HAH1.out, HOK.out, HLO.out, HAS1.out⟩, HSM.out⟩
    have HBF : Hid (∀ W, (Instr.build 117 #[(0, .slice ba bn bc), (1, .agg (hdCells m (.slice va vn vc) d r).toArray), (2, .slice sa sn sc)]).run Try.prog W = .ok (.agg q.fC.toArray) W) := fun W => by rw [← hq]; exact build_F W ⟨ba, bn, bc, m, va, vn, vc, d, r, sa, sn, sc, l, ps, S⟩
    have HFZ : Hid ((W1.alloc (.cells zeroF.toArray 117)).heap[W1.heap.size]? = some (.cells zeroF.toArray 117 (0, 0))) := heap_alloc_new _ _
    have HFB := hide (below1 W1 (.cells zeroF.toArray 117))
    have HFN : Hid ((zeroF.toArray.toList.take 0 ++ q.fC ++ zeroF.toArray.toList.drop (0 + q.fC.length)).toArray = q.fC.toArray) := by
      have e : List.drop (0 + 18) zeroF.toArray.toList = [] := rfl
      rw [Hid, fC_len, e, List.append_nil]; rfl
    have HF1 := hide (fC_one q)
    rw [HQL.out.1, HQL.out.2.1, HQL.out.2.2] at HP
    clear hq HAB1 HAH1 HOK HLO HAS1 HSM HLL HSL
    go_wp2_with (first
      | ((with_reducible refine at_load ?_); refine load_row rfl _ _ rfl w.heap.size _ (load_hd HG1.out rfl) rfl ?_)
      | ((with_reducible refine at_buildF ?_); refine build_eq rfl _ _ rfl (.agg q.fC.toArray) ?hr ?_; (simp only [List.map_toArray, List.map_cons, List.map_nil]; exact HBF.out _))
      | ((with_reducible refine at_allocF ?_); refine alloc_opR rfl rfl _ _ (alloc_F _) ?_)
      | ((with_reducible refine at_storeT ?_); refine store_part rfl _ _ _ rfl W1.heap.size 0 117 _ q.fC q.fC.toArray HFZ.out rfl rfl F_size HF1.out (by rw [fC_len]; decide) HFN.out ?_))
    intro W2 hg2 hb2
    have HB2 : Hid (Below W1.heap.size W1 W2) := grown_below (Nat.le_refl _) HFB.out hb2
    have HZ2 := hide hg2
    clear hg2 hb2 HFZ HFB HFN HF1 HBF HG1 c13 c14 c15 c16
    have HWD : Hid (∀ X, Below W2.heap.size W2 X → X.heap[w.heap.size + 1]? = some (.cells cs 35 (0, 0))) := fun X hX => block_stay (block_stay HD1.out HB2.out) hX
    have HBX : Hid (∀ X, Below W2.heap.size W2 X → Below w.heap.size w X) := fun X hX => (HB1.out.trans (HB2.out.mono HB1.out.size)).trans (hX.mono (Nat.le_trans HB1.out.size HB2.out.size))
    have HRX : Hid (∀ X, Below W2.heap.size W2 X → Rf X q) := fun X hX => (HRF.out.below HB2.out).below hX
    have hqI : (qd : Int) ≤ 18446744073709551615 := by have := HQ1.out; omega
    have hnI : (qn : Int) ≤ 18446744073709551615 := by have := HQ2.out; omega
    rw [prog_is] at HP
    unfold partO at HP
    simp only at HP
    obtain ⟨P1, hP1⟩ : ∃ P, (if qd = 0 then some [] else rowG q.l q.ps (ownO q.l q.ps q.S) 20 16 qds qd) = P := ⟨_, rfl⟩
    rw [hP1] at HP
    have HQ5 := hide hP1
    clear hP1
    obtain ⟨c13, c14, c15, c16⟩ := HCE.out W2 (HWD.out W2 (Below.refl _ _))
    have hOw := rf_own W2 q (HRX.out W2 (Below.refl _ _)) qd qds HQ1.out (by omega)
    have HRG : Hid (rowG q.l q.ps (ownO q.l q.ps q.S) 20 16 qds qd = if (rowZ q.l q.ps 20 16 qds qd).2 = true then gL (ownO q.l q.ps q.S) (rowZ q.l q.ps 20 16 qds qd).1 else none) := rfl
    have HOL : Hid (∀ o, rowG q.l q.ps (ownO q.l q.ps q.S) 20 16 qds qd = some o → o.length ≤ qds) := fun o ho => ownG_len ho
    obtain ⟨G1, hG1⟩ : ∃ G, rowG q.l q.ps (ownO q.l q.ps q.S) 20 16 qds qd = G := ⟨_, rfl⟩
    obtain ⟨A1, hA1⟩ : ∃ A, gL (ownO q.l q.ps q.S) (rowZ q.l q.ps 20 16 qds qd).1 = A := ⟨_, rfl⟩
    obtain ⟨k1, hk1⟩ : ∃ k, (rowZ q.l q.ps 20 16 qds qd).2 = k := ⟨_, rfl⟩
    rw [hG1] at HQ5 HRG HOL
    rw [hA1, hk1] at HRG hOw
    clear hG1 hA1 hk1
    cases P1 with
    | none =>
      have hq0 : ¬ qd = 0 := fun e => by have := HQ5.out; rw [if_pos e] at this; cases this
      have hg1 : G1 = none := by have := HQ5.out; rw [if_neg hq0] at this; exact this
      have hqb : ((qd : Int) != 0) = true := by simp; omega
      have HN : Hid (none = O) := HP.out
      have hcs : A1 = none ∨ (k1 = false) := by
        have := HRG.out
        rw [hg1] at this
        cases k1 with
        | false => exact .inr rfl
        | true => rw [if_pos rfl] at this; exact .inl this.symm
      clear HP HQ5 hq0 hg1 HRG
      go_wp2_with ((with_reducible refine at_loadF ?_); refine load_row rfl _ _ rfl W1.heap.size _ (load_fc HZ2.out) rfl ?_)
      refine hOw.mono ?_
      rintro e W3 ⟨hE, hb3⟩
      have HB3 := hide (HBX.out W3 hb3)
      have hE2 : ∃ u, e = .returned (.tuple #[u, .bool false]) := by
        cases A1 with
        | none => exact ⟨_, hE⟩
        | some x =>
          rcases hcs with e | e
          · cases e
          · subst e; obtain ⟨u, hu, _⟩ := hE; exact ⟨u, hu⟩
      obtain ⟨u, rfl⟩ := hE2
      clear hOw hb3 hE c13 c14 c15 c16
      go_wp2
      go_ret2
      exact ⟨by rw [← HN.out]; rfl, HB3.out⟩
    | some o =>
      simp only at HP
      have HO33 : Hid (o.length ≤ 33) := by
        by_cases hq0 : qd = 0
        · have h5 := HQ5.out; rw [if_pos hq0] at h5; injection h5 with h5; rw [Hid, ← h5]; simp
        · have h5 := HQ5.out; rw [if_neg hq0] at h5; have := HOL.out o h5; unfold Hid; omega
      obtain ⟨P2, hP2⟩ : ∃ P, (if qn = 0 then some [] else rowG q.l q.ps (libO q.l q.ps q.S) 16 12 qns qn) = P := ⟨_, rfl⟩
      rw [hP2] at HP
      have HQ6 := hide hP2
      clear hP2
      go_upto_if 43 with fail
      go_cut [11] from 18 (fun v11 wx => Hid (Below W2.heap.size W2 wx) ∧ Hid (OwnV 69 .u64 wx W2.heap.size v11 o))
      case first =>
        by_cases hq0 : qd = 0
        · have hqb : ((qd : Int) != 0) = false := by rw [hq0]; rfl
          have hF : ([] : List Vv) = o := by have := HQ5.out; rw [if_pos hq0] at this; exact Option.some.inj this
          subst hF
          clear HP HQ5 HQ6 hq0 hOw HRG
          go_wp2_with fail
          go_meet
          exact ⟨Below.refl _ _, OwnV.nil _ _ _ _⟩
        · have hqb : ((qd : Int) != 0) = true := by simp; omega
          have hg1 : G1 = some o := by have := HQ5.out; rw [if_neg hq0] at this; exact this
          have hk1 : k1 = true := by
            have := HRG.out
            rw [hg1] at this
            cases k1 with
            | false => rw [if_neg (by simp)] at this; cases this
            | true => rfl
          have ha1 : A1 = some o := by have := HRG.out; rw [hg1, hk1, if_pos rfl] at this; exact this.symm
          subst hk1 ha1
          clear HP HQ5 HQ6 hq0 hg1 HRG
          go_wp2_with ((with_reducible refine at_loadF ?_); refine load_row rfl _ _ rfl W1.heap.size _ (load_fc HZ2.out) rfl ?_)
          refine hOw.mono ?_
          rintro e W3 ⟨⟨u, rfl, hu⟩, hb3⟩
          obtain ⟨ua, un, uc, rfl⟩ := hu.form3
          have HU := hide hu
          have HB3 := hide hb3
          clear hOw hb3 hu c13 c14 c15 c16
          go_wp2_with fail
          go_meet
          exact ⟨HB3, HU⟩
      case rest =>
        obtain ⟨HBc, HOc⟩ := hcut
        clear hOw HRG HQ5 c13 c14 c15 c16
        obtain ⟨c13, c14, c15, c16⟩ := HCE.out wc (HWD.out wc HBc.out)
        have hAs := rf_asked wc q (HRX.out wc HBc.out) qn qns HQ2.out (by omega)
        have HZc := hide (block_stay HZ2.out HBc.out)
        have HRG : Hid (rowG q.l q.ps (libO q.l q.ps q.S) 16 12 qns qn = if (rowZ q.l q.ps 16 12 qns qn).2 = true then gL (libO q.l q.ps q.S) (rowZ q.l q.ps 16 12 qns qn).1 else none) := rfl
        obtain ⟨G2, hG2⟩ : ∃ G, rowG q.l q.ps (libO q.l q.ps q.S) 16 12 qns qn = G := ⟨_, rfl⟩
        obtain ⟨A2, hA2⟩ : ∃ A, gL (libO q.l q.ps q.S) (rowZ q.l q.ps 16 12 qns qn).1 = A := ⟨_, rfl⟩
        obtain ⟨k2, hk2⟩ : ∃ k, (rowZ q.l q.ps 16 12 qns qn).2 = k := ⟨_, rfl⟩
        rw [hG2] at HQ6 HRG
        rw [hA2, hk2] at HRG hAs
        clear hG2 hA2 hk2
        obtain ⟨oa, on, oc, hov⟩ := HOc.out.form3
        subst hov
        by_cases hfail : qn ≠ 0 ∧ (limO A2 = none ∨ k2 = false)
        · obtain ⟨hq0, hcs⟩ := hfail
          have hqb : ((qn : Int) != 0) = true := by simp; omega
          have HN : Hid (none = O) := by
            have h6 := HQ6.out
            rw [if_neg hq0, HRG.out] at h6
            rw [Hid, ← HP.out, ← h6]
            cases k2 with
            | false => rw [if_neg (by simp)]
            | true =>
              rw [if_pos rfl]
              rcases hcs with e | e
              · cases A2 with
                | none => rfl
                | some x =>
                  unfold limO at e
                  simp only [Option.bind_some] at e
                  by_cases hx : x.length ≤ 41
                  · rw [if_pos hx] at e; cases e
                  · simp only
                    rw [if_neg]
                    intro hg
                    have := ((good_iff _).1 hg).1
                    rw [List.length_append] at this
                    omega
              · cases e
          clear HP HQ6 hq0 HRG
          go_wp2_with ((with_reducible refine at_loadF ?_); refine load_row rfl _ _ rfl W1.heap.size _ (load_fc HZc.out) rfl ?_)
          refine hAs.mono ?_
          rintro e W3 ⟨hE, hb3⟩
          have HB3 := hide (HBX.out W3 (HBc.out.trans (hb3.mono HBc.out.size)))
          have hE2 : ∃ u, e = .returned (.tuple #[u, .bool false]) := by
            cases hl : limO A2 with
            | none => rw [hl] at hE; exact ⟨_, hE⟩
            | some x =>
              rcases hcs with e | e
              · rw [hl] at e; cases e
              · subst e; rw [hl] at hE; obtain ⟨u, hu, _⟩ := hE; exact ⟨u, hu⟩
          obtain ⟨u, rfl⟩ := hE2
          clear hAs hb3 hE c13 c14 c15 c16 hcs
          go_wp2
          go_ret2
          exact ⟨by rw [← HN.out]; rfl, HB3.out⟩
        · obtain ⟨a, ha⟩ : ∃ a, P2 = some a ∧ (qn = 0 → a = []) ∧ (qn ≠ 0 → limO A2 = some a ∧ k2 = true) := by
            by_cases hq0 : qn = 0
            · have h6 := HQ6.out
              rw [if_pos hq0] at h6
              exact ⟨[], h6.symm, fun _ => rfl, fun e => absurd hq0 e⟩
            · have hk : k2 = true := by cases k2; exact absurd ⟨hq0, .inr rfl⟩ hfail; rfl
              have h6 := HQ6.out
              rw [if_neg hq0, HRG.out, hk, if_pos rfl] at h6
              cases hl : limO A2 with
              | none => exact absurd ⟨hq0, .inl hl⟩ hfail
              | some x =>
                refine ⟨x, ?_, fun e => absurd e hq0, fun _ => ⟨rfl, hk⟩⟩
                rw [← h6]
                unfold limO at hl
                cases A2 with
                | none => cases hl
                | some y =>
                  simp only [Option.bind_some] at hl
                  by_cases hy : y.length ≤ 41
                  · rw [if_pos hy] at hl; exact hl
                  · rw [if_neg hy] at hl; cases hl
          obtain ⟨ha1, ha2, ha3⟩ := ha
          have HPA : Hid ((if goodB (o ++ a) then some (o ++ a) else none) = O) := by have := HP.out; rw [ha1] at this; exact this
          have HA2 := hide ha2
          have HA3 := hide ha3
          clear HP HQ6 HRG hfail ha1 ha2 ha3
          go_upto_if 58 with fail
          go_cut [11] from 18 (fun v11 wx => Hid (Below W2.heap.size W2 wx) ∧ Hid (OwnV 69 .u64 wx W2.heap.size v11 (o ++ a)))
          case first =>
            by_cases hq0 : qn = 0
            · have hqb : ((qn : Int) != 0) = false := by rw [hq0]; rfl
              have he := HA2.out hq0
              subst he
              clear HPA hq0 hAs HA2 HA3
              go_wp2_with fail
              go_meet
              exact ⟨HBc, by rw [Hid, List.append_nil]; exact HOc.out⟩
            · have hqb : ((qn : Int) != 0) = true := by simp; omega
              obtain ⟨hl, hk⟩ := HA3.out hq0
              have HL41 := hide (limO_len hl)
              rw [hl, hk] at hAs
              clear HPA hq0 HA2 HA3 hl hk
              go_wp2_with ((with_reducible refine at_loadF ?_); refine load_row rfl _ _ rfl W1.heap.size _ (load_fc HZc.out) rfl ?_)
              refine hAs.mono ?_
              rintro e W3 ⟨⟨u, rfl, hu⟩, hb3⟩
              obtain ⟨ua, un, uc, rfl⟩ := hu.form3
              have HU := hide hu
              have HB3 := hide (HBc.out.trans (hb3.mono HBc.out.size))
              have HO3 := hide (HOc.out.stay hb3)
              have HW3 : Hid (W2.heap.size ≤ W3.heap.size) := HB3.out.size
              clear hAs hb3 hu c13 c14 c15 c16
              go_wp2_with (at_builtin; refine append_vs rfl _ _ rfl W2.heap.size wc.heap.size _ _ o a HO3.out HU.out rfl rfl (by have := HO33.out; have := HL41.out; omega) HW3.out ?_)
              intro v4 W4 o4 hb4
              have HO4 := hide o4
              have HB4 := hide (HB3.out.trans hb4)
              clear o4 hb4
              go_wp2_with fail
              go_meet
              exact ⟨HB4, HO4⟩
          case rest =>
            obtain ⟨HBd, HOd⟩ := hcut
            clear hAs HA2 HA3 HBc HOc HZc c13 c14 c15 c16 HO33
            obtain ⟨A, hA⟩ : ∃ A, o ++ a = A := ⟨_, rfl⟩
            rw [hA] at HPA HOd
            clear hA
            obtain ⟨aa, an, ac, hav, han⟩ : ∃ x n c, u11 = .slice x n c ∧ A.length = n := by obtain ⟨x, c, e⟩ := HOd.out.form; exact ⟨x, _, c, e, rfl⟩
            subst hav
            have HAN := hide han
            have HWd := hide (HBX.out _ HBd.out)
            have HNO : Hid (goodB A = false → none = O) := fun e => by rw [← HPA.out, e]; rfl
            have HYE : Hid (goodB A = true → some A = O) := fun e => by rw [← HPA.out, e]; rfl
            clear han HPA
            by_cases h32 : 32 < an
            · have h3I : (32 : Int) < (an : Int) := by omega
              have HN := hide (HNO.out (by
                cases hg : goodB A with
                | false => rfl
                | true => have := ((good_iff A).1 hg).1; have := HAN.out; omega))
              clear HNO HYE h32
              go_wp2
              go_ret2
              exact ⟨by rw [← HN.out]; rfl, HWd.out⟩
            · have h3I : ¬ (32 : Int) < (an : Int) := by omega
              have HAR := hide (HOd.out.arg (by have := HAN.out; omega))
              have HOV := hide (HOd.out.low (show w.heap.size ≤ W2.heap.size from Nat.le_trans HB1.out.size HB2.out.size))
              have han2 : an ≤ 32 := by omega
              clear h32
              go_wp2
              go_loopw [16] (fun v16 wr => ∃ i : Nat, v16 = .int .i64 i ∧ i ≤ an ∧ Hid (Below wc.heap.size wc wr) ∧ Hid (∀ i' (h : i' < A.length), i' < i → (2 ≤ A[i'].num ∧ A[i'].num ≤ 32767) ∧ ∀ k (hk : k < A.length), k < i' → A[k].num ≠ A[i'].num))
                (fun v16 _ => an - (intOf v16).toNat)
              case atStart => exact ⟨0, rfl, by omega, Below.refl _ _, fun i' _ h => absurd h (by omega)⟩
              case round =>
                obtain ⟨i, rfl, hi, HBi, HGi⟩ := hrel
                have HWi : Hid (Below w.heap.size w wr) := HWd.out.trans (HBi.out.mono HWd.out.size)
                by_cases hlt : i < an
                · have hltI : (i : Int) < (an : Int) := by omega
                  have hil : i < A.length := by rw [HAN.out]; exact hlt
                  obtain ⟨g, hga, p1, p2, _, y0, _, _⟩ := (HAR.out.below HBi.out).at i hil
                  subst hga
                  rw [HAN.out] at p1
                  have HBAD : Hid (¬ (2 ≤ A[i].num ∧ A[i].num ≤ 32767) → none = O) := fun e => HNO.out (by
                    cases hg : goodB A with
                    | false => rfl
                    | true => exact absurd (((good_iff A).1 hg).2.1 i hil) e)
                  have HBD2 : Hid (∀ k (hk : k < A.length), k < i → A[k].num = A[i].num → none = O) := fun k hk hlt e => HNO.out (by
                    cases hg : goodB A with
                    | false => rfl
                    | true => exact absurd e (((good_iff A).1 hg).2.2 k i hk hil hlt))
                  have HNXT : Hid ((2 ≤ A[i].num ∧ A[i].num ≤ 32767) → (∀ k (hk : k < A.length), k < i → A[k].num ≠ A[i].num) → ∀ i' (h : i' < A.length), i' < i + 1 → (2 ≤ A[i'].num ∧ A[i'].num ≤ 32767) ∧ ∀ k (hk : k < A.length), k < i' → A[k].num ≠ A[i'].num) := fun e1 e2 i' h hlt' => by
                    by_cases e : i' = i
                    · subst e; exact ⟨e1, e2⟩
                    · exact HGi.out i' h (by omega)
                  obtain ⟨n, hn⟩ : ∃ n, A[i].num = n := ⟨_, rfl⟩
                  rw [hn] at y0
                  simp only [hn] at HBAD HBD2 HNXT
                  have HYI : Hid (∀ X, Below wr.heap.size wr X → X.cell? ⟨g, i * 3, none⟩ = some (.int .u64 n)) := fun X hX => (hX.cell (p := ⟨g, i * 3, none⟩) (World.block_lt_of_cell? _ _ y0)).trans y0
                  clear hn
                  by_cases hr : 2 ≤ n ∧ n ≤ 32767
                  · have k1 : ¬ (n : Int) < 2 := by omega
                    have k2 : ¬ (32767 : Int) < (n : Int) := by omega
                    have HNX2 := hide (HNXT.out hr)
                    clear HBAD HNXT hr
                    go_wp2
                    go_loopw [17] (fun v17 wq => ∃ k : Nat, v17 = .int .i64 k ∧ k ≤ i ∧ Hid (Below wc.heap.size wc wq) ∧ Hid (Below wr.heap.size wr wq) ∧ Hid (∀ k' (hk : k' < A.length), k' < k → A[k'].num ≠ n))
                      (fun v17 _ => i - (intOf v17).toNat)
                    case atStart => exact ⟨0, rfl, by omega, HBi, Below.refl _ _, fun k' _ h => absurd h (by omega)⟩
                    case round =>
                      obtain ⟨k, rfl, hki, HBk, HBr2, HGk⟩ := hrel
                      by_cases hlk : k < i
                      · have hlkI : (k : Int) < (i : Int) := by omega
                        have hlkA : (k : Int) < (an : Int) := by omega
                        have hkl : k < A.length := by rw [HAN.out]; omega
                        obtain ⟨g3, hg3, _, _, _, z0, _, _⟩ := (HAR.out.below HBk.out).at k hkl
                        injection hg3 with hg3
                        injection hg3 with hg3 _ _
                        subst hg3
                        have y1 := HYI.out _ HBr2.out
                        have HEQ := hide (HBD2.out k hkl hlk)
                        obtain ⟨n3, hn3⟩ : ∃ n, A[k].num = n := ⟨_, rfl⟩
                        rw [hn3] at z0 HEQ
                        have HKN : Hid (n3 ≠ n → ∀ k' (hk : k' < A.length), k' < k + 1 → A[k'].num ≠ n) := fun e k' hk hlt' => by
                          by_cases e2 : k' = k
                          · subst e2; rw [hn3]; exact e
                          · exact HGk.out k' hk (by omega)
                        clear hn3
                        by_cases hne : n3 = n
                        · have hb : ((n3 : Int) == (n : Int)) = true := by rw [hne]; simp
                          have HN := hide (HEQ.out hne)
                          have HWk : Hid (Below w.heap.size w wr) := HWd.out.trans (HBk.out.mono HWd.out.size)
                          clear hne HEQ HKN
                          go_wp2_with fail
                          try simp only [List.append_eq, List.cons_append, List.nil_append]
                          refine wp_region_quiet_below (by kernel_rfl) (by kernel_rfl) ?_
                          have x0 := cell_regrown z0
                          have x1 := cell_regrown y1
                          repeat (go_big_quiet_step (fail))
                          refine wpQuiet_nil ?_
                          intro _ hwq
                          obtain ⟨⟨dq, osq⟩, hwq2⟩ := hwq
                          subst hwq2
                          have HW4 := hide (HWk.out.trans ((below_regrown wr dq osq).mono HWk.out.size))
                          clear x0 x1 z0 y1
                          generalize grow _ _ = W8 at *
                          go_wp2
                          go_ret2
                          exact ⟨by rw [← HN.out]; rfl, HW4.out⟩
                        · have hb : ((n3 : Int) == (n : Int)) = false := by simp; omega
                          have HKN2 := hide (HKN.out hne)
                          clear hne HEQ HKN
                          go_wp2_with fail
                          try simp only [List.append_eq, List.cons_append, List.nil_append]
                          refine wp_region_quiet_below (by kernel_rfl) (by kernel_rfl) ?_
                          have x0 := cell_regrown z0
                          have x1 := cell_regrown y1
                          repeat (go_big_quiet_step (fail))
                          refine wpQuiet_nil ?_
                          intro _ hwq
                          obtain ⟨⟨dq, osq⟩, hwq2⟩ := hwq
                          subst hwq2
                          have HB9 := hide (HBk.out.trans ((below_regrown wr dq osq).mono HBk.out.size))
                          have HR9 := hide (HBr2.out.trans ((below_regrown wr dq osq).mono HBr2.out.size))
                          clear x0 x1 z0 y1
                          generalize grow _ _ = W8 at *
                          go_wp2
                          go_roundw
                          case rel => exact ⟨k + 1, by go_num, by omega, HB9, HR9, HKN2⟩
                          case measure => simp [intOf]; omega
                      · have hlkI : ¬ (k : Int) < (i : Int) := by omega
                        have HG9 := hide (HNX2.out (fun k' hk' h => HGk.out k' hk' (by omega)))
                        go_wp2
                        go_roundw
                        case rel => exact ⟨i + 1, by go_num, by omega, HBk, HG9⟩
                        case measure => simp [intOf]; omega
                  · have HN := hide (HBAD.out hr)
                    have hcs : (n : Int) < 2 ∨ (¬ (n : Int) < 2 ∧ (32767 : Int) < (n : Int)) := by omega
                    clear HBAD HNXT hr HBD2
                    rcases hcs with k1 | ⟨k1, k2⟩
                    all_goals
                      go_wp2
                      go_ret2
                      exact ⟨by rw [← HN.out]; rfl, HWi.out⟩
                · have hltI : ¬ (i : Int) < (an : Int) := by omega
                  have HY := hide (HYE.out ((good_iff A).2 ⟨by have := HAN.out; omega, fun j hj => (HGi.out j hj (by have := HAN.out; omega)).1, fun k j hk hj hlt => (HGi.out j hj (by have := HAN.out; omega)).2 k hk hlt⟩))
                  have HOF := hide (OwnV.stay HOV.out HBi.out)
                  go_wp2
                  go_ret2
                  exact ⟨by rw [← HY.out]; exact ⟨_, rfl, HOF.out⟩, HWi.out⟩
end Go.Proofs.Ytdclofiifcpkkaa
namespace Go.Proofs.Ytdclofiifcpkkaa
open Go.RowKit Go.PlainAid Go.Sort
theorem info_sym : (Try.prog.info? 48).map (fun i => (i.zero, i.size, i.bytes)) = some (some (.agg #[.string ByteArray.empty, .string ByteArray.empty, .bool false, .int .i64 0, .bool false, .int .u64 0, .int .u64 0]), 7, 72) := by kernel_rfl
set_option maxHeartbeats 1000000 in
theorem lib_CloneS (w : World) (g n cap : Nat) (xs : List Value) (hx : xs.length = n * 7) (hone : ∀ u ∈ xs, u.oneCell' = true) (hn : n ≤ 1000) (hc : ∀ j u, xs[j]? = some u → w.cell? ⟨g, j, none⟩ = some u) :
    Calls Try.prog 14 #[.slice (some ⟨g, 0, none⟩) n cap] w fun e w' => ∃ v', e = .returned v' ∧ w'.ownsRow w.heap.size 48 7 v' n xs ∧ Below w.heap.size w w' := by
  have qn : ∀ (w : World) (a : Option Addr) (n c n' c' : Nat), (binOp .eql 36 (.slice a n c) (.slice none n' c')).run Try.prog w = .ok (.bool a.isNone) w := fun w a n c n' c' => Lib.run_eql_slice_nil w _ _ a n c n' c' Try.underlying36
  obtain ⟨i, hi, hz0, hz1, hz2⟩ := info_parts info_sym
  have hown : (w.alloc (.cells #[] 48)).ownsRow w.heap.size 48 7 (.slice (some ⟨w.heap.size, 0, none⟩) 0 0) 0 [] :=
    World.ownsRow_made w #[] 0 (Nat.le_refl _) (by simp) (by simp)
  go_enter Try.func14, Try.ntmps14
  go_wp2_with (at_builtin; refine wpList_append_own (P := Try.prog) _ rfl _ _ 36 rfl w.heap.size 48 i _ 7 72 Try.underlying36 hi hz0 hz1 hz2 rfl (by decide) _ 0 [] rfl hown ⟨g, 0, none⟩ n cap xs rfl hx ?c1 hone ?c3 ?c4 ?c5 ?_)
  case c1 =>
    intro j u hj
    have h1 := hc j u hj
    rw [add_at, Nat.zero_add, World.cell?_alloc_lt _ _ _ (World.block_lt_of_cell? _ _ h1)]
    exact h1
  case c3 => unfold maxLen; omega
  case c4 => omega
  case c5 => simp
  · intro v' w1 q1 q2 _
    go_wp2
    go_ret
    refine ⟨_, rfl, ?_, ?_⟩
    · simpa using q1
    · exact ((Below.refl w.heap.size w).alloc (Nat.le_refl _) _).grown q2 (by simp) (fun k hk => by simp [Value.ownBlock] at hk; omega)
set_option maxHeartbeats 4000000 in
set_option maxRecDepth 20000 in
theorem ve_Put0 (w : World) (b : Value) (l : List UInt8) (hb : Arg w b l) (m : Nat) (v : Value) (d r : Ph) (ps : List Ph) (h : ArgH w v ps) (ok : ∀ p ∈ ps, p.ok) (sm : ∀ p ∈ ps, p.off + p.filesz ≤ 1000000) (lo : ∀ p ∈ ps, p.vaddr + p.filesz ≤ 16384)
    (cs : Array Value) (hz : cs.size = 40) (x s : Nat) (h7 : cs[7]? = some (.int .u64 x)) (h8 : cs[8]? = some (.int .u64 s)) (hx : x < 18446744073709551616) (hs : s < 18446744073709551616)
    (vq : Vq) (h13 : cs[13]? = some (.int .u64 vq.def')) (h14 : cs[14]? = some (.int .u64 vq.need)) (h15 : cs[15]? = some (.int .u64 vq.defs)) (h16 : cs[16]? = some (.int .u64 vq.needs)) (hq1 : vq.def' < 18446744073709551616) (hq2 : vq.need < 18446744073709551616) (hq3 : vq.defs < 18446744073709551616) (hq4 : vq.needs < 18446744073709551616)
    (h12 : cs[12]? = some (.int .u64 0)) (L : List Vv) (hL : verZ l ps (partZ l ps x s).1 (partZ l ps x s).2 vq = some L)
    (g n cap : Nat) (xs : List Value) (hxs : xs.length = n * 7) (hone : ∀ u ∈ xs, u.oneCell' = true) (hn : n ≤ 1000) (hg : g < w.heap.size) (hc : ∀ j u, xs[j]? = some u → w.cell? ⟨g, j, none⟩ = some u) :
    Calls Try.prog 7 #[b, .agg (hdCells m v d r).toArray, .agg cs, .slice (some ⟨g, 0, none⟩) n cap] w fun e w' => (∃ v', e = .returned (.tuple #[v', .int .i64 0]) ∧ w'.ownsRow w.heap.size 48 7 v' n xs) ∧ Below w.heap.size w w' := by
  have HB : Hid (Below w.heap.size w ((w.alloc (.cells (hdCells m v d r).toArray 30)).alloc (.cells cs 35))) := ((Below.refl _ w).alloc (Nat.le_refl _) _).alloc (by simp) _
  have HG : Hid (((w.alloc (.cells (hdCells m v d r).toArray 30)).alloc (.cells cs 35)).heap[w.heap.size]? = some (.cells (hdCells m v d r).toArray 30 (0, 0))) := by
    rw [Hid, heap_alloc_old _ _ (by simp)]; exact heap_alloc_new _ _
  have hs1 : (w.alloc (.cells (hdCells m v d r).toArray 30)).heap.size = w.heap.size + 1 := by simp
  have HD : Hid (((w.alloc (.cells (hdCells m v d r).toArray 30)).alloc (.cells cs 35)).heap[w.heap.size + 1]? = some (.cells cs 35 (0, 0))) := by
    rw [Hid, ← hs1]; exact heap_alloc_new _ _
  have kL := ve_List _ b l (hb.below' HB.out) m v d r ps (h.below HB.out) ok sm lo cs hz x s h7 h8 hx hs vq h13 h14 h15 h16 hq1 hq2 hq3 hq4
  rw [hL] at kL
  have HZ := hide hz
  have H12 : Hid (∀ X : World, X.heap[w.heap.size + 1]? = some (.cells cs 35 (0, 0)) → X.cell? ⟨w.heap.size + 1, 12, none⟩ = some (.int .u64 0)) := fun X hX => cells_of_block hX 12 _ h12
  have HCL := hide (fun W (hW : Below w.heap.size w W) => lib_CloneS W g n cap xs hxs hone hn (fun j u hj => (hW.cell (p := ⟨g, j, none⟩) hg).trans (hc j u hj)))
  obtain ⟨ba, bn, bc, rfl⟩ : ∃ a n c, b = .slice a n c := by obtain ⟨a, c, e, _⟩ := hb.isSlice; exact ⟨_, _, _, e⟩
  clear hb h ok sm lo h7 h8 h13 h14 h15 h16 hx hs hs1 hz hq1 hq2 hq3 hq4 h12 hL hxs hone hn hg hc
  go_enter Try.func7, Try.ntmps7
  go_wp2_with (first
    | ((with_reducible refine at_load ?_); refine load_row rfl _ _ rfl w.heap.size _ (load_hd HG.out rfl) rfl ?_)
    | ((with_reducible refine at_loadD ?_); refine load_row rfl _ _ rfl (w.heap.size + 1) _ (load_dy HD.out HZ.out) rfl ?_))
  refine kL.mono ?_
  rintro e W1 ⟨⟨vl, rfl, _⟩, hb1⟩
  have HB1 : Hid (Below w.heap.size w W1) := HB.out.trans (hb1.mono HB.out.size)
  have HD1 := hide (block_stay HD.out hb1)
  have kC := HCL.out W1 HB1.out
  clear kL hb1 HB HG HD
  go_wp2_with fail
  refine kC.mono ?_
  rintro e W2 ⟨v2, rfl, ow2, hb2⟩
  have HO2 := hide ow2
  have HB2 : Hid (Below w.heap.size w W2) := HB1.out.trans (hb2.mono HB1.out.size)
  have c12 := H12.out W2 (block_stay HD1.out hb2)
  have HW1 : Hid (w.heap.size ≤ W1.heap.size) := HB1.out.size
  clear kC hb2 ow2
  go_wp2
  go_ret2
  refine ⟨⟨v2, rfl, HO2.out.1, ?_⟩, HB2.out⟩
  rcases HO2.out.2 with hn | ⟨gg, cap', cur, rfl, hB, rest⟩
  · exact .inl hn
  · exact .inr ⟨gg, cap', cur, rfl, Nat.le_trans HW1.out hB, rest⟩
end Go.Proofs.Ytdclofiifcpkkaa
namespace Go.Proofs.Ytdclofiifcpkkaa
open Go.RowKit Go.PlainAid Go.Sort
def smPh : Ph := ⟨0, 0, 0, 0, 4, 4, 0⟩
def smL : List UInt8 := [0, 97, 98, 0]
def smDy : List Value := [.string ⟨#[]⟩, .string ⟨#[]⟩, .slice none 0 0, .bool false, .bool false, .bool false, .bool true, .int .u64 0, .int .u64 4] ++ zeroDy.drop 9
def badDy : List Value := zeroDy.take 15 ++ [.int .u64 99] ++ zeroDy.drop 16
def smSy : List Value := [.string ⟨#[]⟩, .string ⟨#[]⟩, .bool false, .int .i64 0, .bool false, .int .u64 0, .int .u64 0, .string ⟨#[97, 98]⟩, .string ⟨#[]⟩, .bool false, .int .i64 0, .bool false, .int .u64 0, .int .u64 0]
theorem smSy_one : ∀ u ∈ smSy, u.oneCell' = true := by
  intro u hu
  simp only [smSy, List.mem_cons, List.not_mem_nil, or_false] at hu
  rcases hu with rfl | rfl | rfl | rfl | rfl | rfl | rfl | rfl | rfl | rfl | rfl | rfl | rfl | rfl <;> rfl
theorem sm_ver : verZ smL [smPh] (partZ smL [smPh] 0 4).1 (partZ smL [smPh] 0 4).2 ⟨0, 0, 0, 0⟩ = some [] := by kernel_rfl
theorem bad_ver : verZ [] [] (partZ [] [] 0 0).1 (partZ [] [] 0 0).2 ⟨0, 99, 0, 0⟩ = none := by kernel_rfl
theorem smPh_ok : ∀ p ∈ [smPh], p.ok := fun p hp => by rw [List.mem_singleton.1 hp]; exact ⟨by decide, by decide, by decide, by decide, by decide, by decide, by decide⟩
theorem alloc_hd (w : World) : (Instr.alloc 30 true (.tuple #[])).run Try.prog w = .ok (.pointer (some ⟨w.heap.size, 0, none⟩)) (w.alloc (.cells zeroHd.toArray 30)) := by kernel_rfl
theorem build_h1 (w : World) (a : Option Addr) (n c : Nat) : (Instr.build 30 #[(1, .slice a n c)]).run Try.prog w = .ok (.agg (hdCells 0 (.slice a n c) noPh noPh).toArray) w := by kernel_rfl
theorem build_h0 (w : World) : (Instr.build 30 #[]).run Try.prog w = .ok (.agg (hdCells 0 (.slice none 0 0) noPh noPh).toArray) w := by kernel_rfl
theorem build_d1 (w : World) : (Instr.build 35 #[(6, .agg #[.bool true, .int .u64 0, .int .u64 4])]).run Try.prog w = .ok (.agg smDy.toArray) w := by kernel_rfl
theorem build_d2 (w : World) : (Instr.build 35 #[(13, .int .u64 99)]).run Try.prog w = .ok (.agg badDy.toArray) w := by kernel_rfl
theorem build_s0 (w : World) : (Instr.build 48 #[]).run Try.prog w = .ok (.agg (smSy.take 7).toArray) w := by kernel_rfl
theorem build_s1 (w : World) : (Instr.build 48 #[(0, .string ⟨#[97, 98]⟩)]).run Try.prog w = .ok (.agg (smSy.drop 7).toArray) w := by kernel_rfl
theorem smDy_one : ∀ u ∈ smDy, u.oneCell' = true := by
  intro u hu
  have : ∀ u ∈ zeroDy.drop 9, u.oneCell' = true := fun u hu => zeroDy_one u (List.mem_of_mem_drop hu)
  simp only [smDy, List.mem_append, List.mem_cons, List.not_mem_nil, or_false] at hu
  rcases hu with (rfl | rfl | rfl | rfl | rfl | rfl | rfl | rfl | rfl) | hu
  · rfl
  · rfl
  · rfl
  · rfl
  · rfl
  · rfl
  · rfl
  · rfl
  · rfl
  · exact this u hu
theorem at_buildT {T : TypeId} {ops : Array Oper} {rest : List Oper} {a : Act} {Q : Exit → Act → World → Prop} {w : World} {ty : TypeId} {x : Array (Nat × Operand)} {d : Option Tmp} {ps : String} {af : Array Edge}
    (h : wpList Try.prog ops Q ({ dst := d, op := .build T x, type := ty, pos := ps, after := af, guard := none } :: rest) a w) : wpList Try.prog ops Q ({ dst := d, op := .build T x, type := ty, pos := ps, after := af, guard := none } :: rest) a w := h
theorem at_allocT {T : TypeId} {ops : Array Oper} {rest : List Oper} {a : Act} {Q : Exit → Act → World → Prop} {w : World} {ty : TypeId} {d : Option Tmp} {ps : String} {af : Array Edge}
    (h : wpList Try.prog ops Q ({ dst := d, op := .alloc T, type := ty, pos := ps, after := af, guard := none } :: rest) a w) : wpList Try.prog ops Q ({ dst := d, op := .alloc T, type := ty, pos := ps, after := af, guard := none } :: rest) a w := h
set_option maxHeartbeats 4000000 in
set_option maxRecDepth 20000 in
theorem alive11 (w : World) : Calls Try.prog 6 #[] w fun e w' => e = .returned (.bool true) ∧ Below w.heap.size w w' := by
  have HB1 : Hid (Below w.heap.size w (w.alloc (.cells #[.int .u32 0, .int .u32 0, .int .u64 0, .int .u64 0, .int .u64 4, .int .u64 4, .int .u64 0] 28))) := below1 _ _
  have HP1 : Hid ((w.alloc (.cells #[.int .u32 0, .int .u32 0, .int .u64 0, .int .u64 0, .int .u64 4, .int .u64 4, .int .u64 0] 28)).heap[w.heap.size]? = some (.cells #[.int .u32 0, .int .u32 0, .int .u64 0, .int .u64 0, .int .u64 4, .int .u64 4, .int .u64 0] 28)) := heap_alloc_new _ _
  have hs1 : (w.alloc (.cells #[.int .u32 0, .int .u32 0, .int .u64 0, .int .u64 0, .int .u64 4, .int .u64 4, .int .u64 0] 28)).heap.size = w.heap.size + 1 := by simp
  have HB2 : Hid (Below w.heap.size w ((w.alloc (.cells #[.int .u32 0, .int .u32 0, .int .u64 0, .int .u64 0, .int .u64 4, .int .u64 4, .int .u64 0] 28)).alloc (.cells zeroHd.toArray 30))) := HB1.out.trans ((below1 _ _).mono (by omega))
  have HP2 : Hid (((w.alloc (.cells #[.int .u32 0, .int .u32 0, .int .u64 0, .int .u64 0, .int .u64 4, .int .u64 4, .int .u64 0] 28)).alloc (.cells zeroHd.toArray 30)).heap[w.heap.size]? = some (.cells #[.int .u32 0, .int .u32 0, .int .u64 0, .int .u64 0, .int .u64 4, .int .u64 4, .int .u64 0] 28)) := block_stay HP1.out (below1 _ _)
  have HZ2 : Hid (((w.alloc (.cells #[.int .u32 0, .int .u32 0, .int .u64 0, .int .u64 0, .int .u64 4, .int .u64 4, .int .u64 0] 28)).alloc (.cells zeroHd.toArray 30)).heap[w.heap.size + 1]? = some (.cells zeroHd.toArray 30 (0, 0))) := by rw [Hid, ← hs1]; exact heap_alloc_new _ _
  have HAL : Hid ((Instr.alloc 30 true (.tuple #[])).run Try.prog (w.alloc (.cells #[.int .u32 0, .int .u32 0, .int .u64 0, .int .u64 0, .int .u64 4, .int .u64 4, .int .u64 0] 28)) = .ok (.pointer (some ⟨w.heap.size + 1, 0, none⟩)) ((w.alloc (.cells #[.int .u32 0, .int .u32 0, .int .u64 0, .int .u64 0, .int .u64 4, .int .u64 4, .int .u64 0] 28)).alloc (.cells zeroHd.toArray 30))) := by rw [Hid, ← hs1]; exact alloc_hd _
  clear hs1 HB1 HP1
  go_enter Try.func6, Try.ntmps6
  go_wp2_with (first
    | ((with_reducible refine at_buildT (T := 30) ?_); refine build_eq rfl _ _ rfl (.agg (hdCells 0 (.slice (some ⟨w.heap.size, 0, none⟩) 1 1) noPh noPh).toArray) ?hr ?_; (simp only [List.map_toArray, List.map_cons, List.map_nil]; exact build_h1 _ _ _ _))
    | ((with_reducible refine at_allocT (T := 30) ?_); refine alloc_opR rfl rfl _ _ HAL.out ?_)
    | ((with_reducible refine at_storeT (T := 30) ?_); refine store_part rfl _ _ _ rfl (w.heap.size + 1) 0 30 _ (hdCells 0 (.slice (some ⟨w.heap.size, 0, none⟩) 1 1) noPh noPh) (hdCells 0 (.slice (some ⟨w.heap.size, 0, none⟩) 1 1) noPh noPh).toArray HZ2.out rfl rfl hd_size (hd_one _ _ _ _ _ _) (Nat.le_refl 16) (by rfl) ?_))
  intro W2 hg2 hb2
  have HBW2 : Hid (Below w.heap.size w W2) := grown_below (Nat.le_succ _) HB2.out hb2
  have HP3 : Hid (W2.heap[w.heap.size]? = some (.cells #[.int .u32 0, .int .u32 0, .int .u64 0, .int .u64 0, .int .u64 4, .int .u64 4, .int .u64 0] 28)) := (hb2.block _ (Array.getElem?_eq_some_iff.1 HP2.out).1 (by intro e; injection e with e; omega)).trans HP2.out
  have HH2 := hide hg2
  have HZ3 : Hid ((W2.alloc (.cells zeroDy.toArray 35)).heap[W2.heap.size]? = some (.cells zeroDy.toArray 35 (0, 0))) := heap_alloc_new _ _
  have HB3 := hide (below1 W2 (.cells zeroDy.toArray 35))
  clear hg2 hb2 HB2 HP2 HZ2
  go_wp2_with (first
    | ((with_reducible refine at_buildT (T := 35) ?_); refine build_eq rfl _ _ rfl (.agg smDy.toArray) ?hr ?_; (simp only [List.map_toArray, List.map_cons, List.map_nil]; exact build_d1 _))
    | ((with_reducible refine at_allocT (T := 35) ?_); refine alloc_opR rfl rfl _ _ (alloc_dy _) ?_)
    | ((with_reducible refine at_storeT (T := 35) ?_); refine store_part rfl _ _ _ rfl W2.heap.size 0 35 _ smDy smDy.toArray HZ3.out rfl rfl dy_size smDy_one (by decide) (by rfl) ?_))
  intro W3 hg3 hb3
  have HBW3 : Hid (Below W2.heap.size W2 W3) := grown_below (Nat.le_refl _) HB3.out hb3
  have HD3 := hide hg3
  have HL3 : Hid (W2.heap.size < W3.heap.size) := (Array.getElem?_eq_some_iff.1 hg3).1
  have HP4 := hide (block_stay HP3.out HBW3.out)
  have HH4 := hide (block_stay HH2.out HBW3.out)
  have HB4 : Hid (Below w.heap.size w W3) := HBW2.out.trans (HBW3.out.mono HBW2.out.size)
  clear hg3 hb3 HP3 HH2 HZ3 HB3 HBW2 HBW3
  have hs3 : (W3.alloc (.cells #[.int .u8 0, .int .u8 97, .int .u8 98, .int .u8 0] 5 (4, 5))).heap.size = W3.heap.size + 1 := by simp
  have HBX : Hid (Below W3.heap.size W3 ((W3.alloc (.cells #[.int .u8 0, .int .u8 97, .int .u8 98, .int .u8 0] 5 (4, 5))).alloc (.cells #[.string ⟨#[]⟩, .string ⟨#[]⟩, .bool false, .int .i64 0, .bool false, .int .u64 0, .int .u64 0, .string ⟨#[97, 98]⟩, .string ⟨#[]⟩, .bool false, .int .i64 0, .bool false, .int .u64 0, .int .u64 0] 48))) := (below1 W3 (.cells #[.int .u8 0, .int .u8 97, .int .u8 98, .int .u8 0] 5 (4, 5))).trans ((below1 _ _).mono (by simp))
  have HYB : Hid (((W3.alloc (.cells #[.int .u8 0, .int .u8 97, .int .u8 98, .int .u8 0] 5 (4, 5))).alloc (.cells #[.string ⟨#[]⟩, .string ⟨#[]⟩, .bool false, .int .i64 0, .bool false, .int .u64 0, .int .u64 0, .string ⟨#[97, 98]⟩, .string ⟨#[]⟩, .bool false, .int .i64 0, .bool false, .int .u64 0, .int .u64 0] 48)).heap[W3.heap.size]? = some (.cells #[.int .u8 0, .int .u8 97, .int .u8 98, .int .u8 0] 5 (4, 5))) := block_stay (heap_alloc_new _ _) (below1 _ _)
  have HSB : Hid (((W3.alloc (.cells #[.int .u8 0, .int .u8 97, .int .u8 98, .int .u8 0] 5 (4, 5))).alloc (.cells #[.string ⟨#[]⟩, .string ⟨#[]⟩, .bool false, .int .i64 0, .bool false, .int .u64 0, .int .u64 0, .string ⟨#[97, 98]⟩, .string ⟨#[]⟩, .bool false, .int .i64 0, .bool false, .int .u64 0, .int .u64 0] 48)).heap[W3.heap.size + 1]? = some (.cells #[.string ⟨#[]⟩, .string ⟨#[]⟩, .bool false, .int .i64 0, .bool false, .int .u64 0, .int .u64 0, .string ⟨#[97, 98]⟩, .string ⟨#[]⟩, .bool false, .int .i64 0, .bool false, .int .u64 0, .int .u64 0] 48)) := by rw [Hid, ← hs3]; exact heap_alloc_new _ _
  have HAb : Hid (Arg ((W3.alloc (.cells #[.int .u8 0, .int .u8 97, .int .u8 98, .int .u8 0] 5 (4, 5))).alloc (.cells #[.string ⟨#[]⟩, .string ⟨#[]⟩, .bool false, .int .i64 0, .bool false, .int .u64 0, .int .u64 0, .string ⟨#[97, 98]⟩, .string ⟨#[]⟩, .bool false, .int .i64 0, .bool false, .int .u64 0, .int .u64 0] 48)) (.slice (some ⟨W3.heap.size, 0, none⟩) 4 4) smL) := ⟨_, 4, rfl, by decide, by simp [maxLen], by decide, .inr ⟨_, rfl, fun j hj => by
    rw [add_at, Nat.zero_add]
    match j, hj with
    | 0, _ => rw [cell_of_row _ _ 0 _ _ _ HYB.out]; rfl
    | 1, _ => rw [cell_of_row _ _ 1 _ _ _ HYB.out]; rfl
    | 2, _ => rw [cell_of_row _ _ 2 _ _ _ HYB.out]; rfl
    | 3, _ => rw [cell_of_row _ _ 3 _ _ _ HYB.out]; rfl⟩⟩
  have HPX := hide (block_stay HP4.out HBX.out)
  have HAh : Hid (ArgH ((W3.alloc (.cells #[.int .u8 0, .int .u8 97, .int .u8 98, .int .u8 0] 5 (4, 5))).alloc (.cells #[.string ⟨#[]⟩, .string ⟨#[]⟩, .bool false, .int .i64 0, .bool false, .int .u64 0, .int .u64 0, .string ⟨#[97, 98]⟩, .string ⟨#[]⟩, .bool false, .int .i64 0, .bool false, .int .u64 0, .int .u64 0] 48)) (.slice (some ⟨w.heap.size, 0, none⟩) 1 1) [smPh]) := ⟨by decide, .inr ⟨w.heap.size, 1, rfl, by decide, by simp [maxLen], (Array.getElem?_eq_some_iff.1 HPX.out).1, fun j hj k hk => by
    have hj0 : j = 0 := by simp at hj; omega
    subst hj0
    match k, hk with
    | 0, _ => exact cells_of_block HPX.out 0 _ rfl
    | 1, _ => exact cells_of_block HPX.out 1 _ rfl
    | 2, _ => exact cells_of_block HPX.out 2 _ rfl
    | 3, _ => exact cells_of_block HPX.out 3 _ rfl
    | 4, _ => exact cells_of_block HPX.out 4 _ rfl
    | 5, _ => exact cells_of_block HPX.out 5 _ rfl
    | 6, _ => exact cells_of_block HPX.out 6 _ rfl⟩⟩
  have kP := ve_Put0 ((W3.alloc (.cells #[.int .u8 0, .int .u8 97, .int .u8 98, .int .u8 0] 5 (4, 5))).alloc (.cells #[.string ⟨#[]⟩, .string ⟨#[]⟩, .bool false, .int .i64 0, .bool false, .int .u64 0, .int .u64 0, .string ⟨#[97, 98]⟩, .string ⟨#[]⟩, .bool false, .int .i64 0, .bool false, .int .u64 0, .int .u64 0] 48)) (.slice (some ⟨W3.heap.size, 0, none⟩) 4 4) smL HAb.out 0 (.slice (some ⟨w.heap.size, 0, none⟩) 1 1) noPh noPh [smPh] HAh.out smPh_ok (fun p hp => by rw [List.mem_singleton.1 hp]; decide) (fun p hp => by rw [List.mem_singleton.1 hp]; decide)
    smDy.toArray rfl 0 4 rfl rfl (by decide) (by decide) ⟨0, 0, 0, 0⟩ rfl rfl rfl rfl (by decide) (by decide) (by decide) (by decide) rfl [] sm_ver (W3.heap.size + 1) 2 2 smSy rfl smSy_one (by decide) (Array.getElem?_eq_some_iff.1 HSB.out).1 (fun j u hj => cells_of_block HSB.out j u (by simpa [smSy] using hj))
  have HHW : Hid (∀ X, Below W3.heap.size W3 X → X.heap[w.heap.size + 1]? = _) := fun X hX => block_stay HH4.out hX
  have HDW : Hid (∀ X, Below W3.heap.size W3 X → X.heap[W2.heap.size]? = _) := fun X hX => block_stay HD3.out hX
  have HBT : Hid (Below w.heap.size w ((W3.alloc (.cells #[.int .u8 0, .int .u8 97, .int .u8 98, .int .u8 0] 5 (4, 5))).alloc (.cells #[.string ⟨#[]⟩, .string ⟨#[]⟩, .bool false, .int .i64 0, .bool false, .int .u64 0, .int .u64 0, .string ⟨#[97, 98]⟩, .string ⟨#[]⟩, .bool false, .int .i64 0, .bool false, .int .u64 0, .int .u64 0] 48))) := HB4.out.trans (HBX.out.mono HB4.out.size)
  clear hs3 HYB HSB HAb HPX HAh HBX HP4 HH4 HD3
  have hcv := fun (w : World) (C : Array Value) (n c : Nat) => Lib.run_convert_bytes_const (P := Try.prog) w 22 5 C n c Try.underlying22 Try.underlying5
  go_wp2_with (first
    | ((with_reducible refine at_load ?_); refine load_row rfl _ _ rfl (w.heap.size + 1) _ (load_hd (HHW.out _ (below1 _ _)) rfl) rfl ?_)
    | ((with_reducible refine at_loadD ?_); refine load_row rfl _ _ rfl W2.heap.size _ (load_dy (HDW.out _ (below1 _ _)) rfl) rfl ?_))
  refine kP.mono ?_
  rintro e W4 ⟨⟨v4, rfl, ow4⟩, hb4⟩
  have HB5 : Hid (Below w.heap.size w W4) := HBT.out.trans (hb4.mono HBT.out.size)
  have HO4 := hide ow4
  have kL := ve_List W4 (.slice none 0 0) [] ⟨none, 0, rfl, by simp, by simp, by simp, .inl ⟨rfl, rfl, rfl⟩⟩ 0 (.slice none 0 0) noPh noPh [] (ArgH.nil _) (fun p hp => by simp at hp) (fun p hp => by simp at hp) (fun p hp => by simp at hp)
    badDy.toArray rfl 0 0 rfl rfl (by decide) (by decide) ⟨0, 99, 0, 0⟩ rfl rfl rfl rfl (by decide) (by decide) (by decide) (by decide)
  rw [bad_ver] at kL
  have kL2 : Calls Try.prog 13 #[.slice none 0 0, .agg (hdCells 0 (.slice none 0 0) noPh noPh).toArray, .agg badDy.toArray] W4 fun e w' => e = .returned (.tuple #[.slice none 0 0, .int .i64 110]) ∧ Below W4.heap.size W4 w' := kL
  clear kP hb4 ow4 kL HBT HHW HDW HB4 HL3 hcv
  go_wp2_with (first
    | ((with_reducible refine at_buildT (T := 30) ?_); refine build_eq rfl _ _ rfl (.agg (hdCells 0 (.slice none 0 0) noPh noPh).toArray) ?hr ?_; (simp only [List.map_toArray, List.map_nil]; exact build_h0 _))
    | ((with_reducible refine at_buildT (T := 35) ?_); refine build_eq rfl _ _ rfl (.agg badDy.toArray) ?hr ?_; (simp only [List.map_toArray, List.map_cons, List.map_nil]; exact build_d2 _)))
  refine kL2.mono ?_
  rintro e W5 ⟨rfl, hb5⟩
  have HB6 : Hid (Below w.heap.size w W5) := HB5.out.trans (hb5.mono HB5.out.size)
  rcases HO4.out.2 with ⟨_, h0⟩ | ⟨g4, cap4, cur4, hv4, _, hg4, h2c, hmx, _⟩
  · cases h0
  subst hv4
  have hc7 := World.ownsRow.cells HO4.out (g := g4) rfl 7 (.string ⟨#[97, 98]⟩) rfl
  rw [add_at, Nat.zero_add] at hc7
  have c7 := (hb5.cell (p := ⟨g4, 7, none⟩) (World.block_lt_of_cell? _ _ hc7)).trans hc7
  unfold maxLen at hmx
  clear kL2 hb5 HO4 hc7 hg4
  go_wp2
  go_ret
  exact ⟨rfl, HB6.out⟩
end Go.Proofs.Ytdclofiifcpkkaa
namespace Go.Proofs.Ytdclofiifcpkkaa
open Go.RowKit Go.PlainAid Go.Sort
theorem parse_dyn {l : List UInt8} {h : Hd} (e : parseZ l = .ok h) : h.dynamic.ok := by
  unfold parseZ at e
  cases ht : tableZ l with
  | error n => rw [ht] at e; cases e
  | ok all =>
    rw [ht] at e
    simp only at e
    unfold headsOf at e
    split at e
    · unfold heads1 at e
      cases hd : ofT all 2 with
      | nil => rw [hd] at e; cases e
      | cons d t =>
        rw [hd] at e
        cases t with
        | cons x y => cases e
        | nil =>
          simp only at e
          split at e
          · have hok : d.ok := ofT_ok (tab_ok ht).1 2 d (by rw [hd]; simp)
            unfold heads2 at e
            split at e
            · injection e with e; subst e; exact hok
            · split at e
              · injection e with e; subst e; exact hok
              · cases e
            · cases e
          · cases e
    · cases e
theorem parse_lo {l : List UInt8} {h : Hd} (e : parseZ l = .ok h) : ∀ p ∈ h.loads, p.vaddr + p.filesz ≤ 16384 := fun p hp => by
  have h1 := (parse_ok e).1
  unfold loadsOk at h1
  rw [Bool.and_eq_true] at h1
  have h2 := loadsFrom_part _ _ _ h1.1 p hp
  unfold partOk insN at h2
  simp only [Bool.and_eq_true, decide_eq_true_eq] at h2
  omega
theorem needL_err {s : List UInt8} : ∀ {E : List De} {n : Nat}, needL s E = .error n → n ≠ 0
  | [], _, h => by cases h
  | e :: r, n, h => by
    rw [needL] at h
    split at h
    · split at h
      · injection h with h; omega
      · split at h
        · injection h with h; omega
        · cases hr : needL s r with
          | error k => rw [hr] at h; injection h with h; subst h; exact needL_err hr
          | ok y => rw [hr] at h; cases h
    · exact needL_err h
theorem dyn_err {l : List UInt8} {h : Hd} {n : Nat} (e : dynZ l h = .error n) : n ≠ 0 := by
  unfold dynZ at e
  split at e
  · injection e with e; omega
  · split at e
    · injection e with e; omega
    · split at e
      · injection e with e; omega
      · split at e
        · injection e with e; omega
        · split at e
          · injection e with e; omega
          · split at e
            · injection e with e; omega
            · split at e
              · injection e with e; omega
              · split at e
                · rename_i hh; injection e with e; subst e; exact needL_err hh
                · cases e
theorem dyn_ents {l : List UInt8} {h : Hd} {D : Dd} (e : dynZ l h = .ok D) : ∀ x ∈ D.ents, x.ok := by
  unfold dynZ at e
  split at e
  · cases e
  · split at e
    · cases e
    · rename_i E hE
      split at e
      · cases e
      · split at e
        · cases e
        · split at e
          · cases e
          · split at e
            · cases e
            · split at e
              · cases e
              · split at e
                · cases e
                · injection e with e; subst e; exact fun x hx => ((entsZ_ok hE).1 x hx).1
def vcZ : Option (List Vv) → Int | none => 110 | some _ => 0
def vlZ : Option (List Vv) → List Vv | none => [] | some L => L
theorem ver_get {T : TypeId} {K : IntKind} {w' : World} {B : Nat} {o : Option (List Vv)} {e : Ending} (h : VerIs T K w' B o e) : ∃ a n c, e = .returned (.tuple #[.slice a n c, .int .i64 (vcZ o)]) ∧ OwnV T K w' B (.slice a n c) (vlZ o) ∧ (vlZ o).length = n := by
  cases o with
  | none => exact ⟨none, 0, 0, h, OwnV.nil _ _ _ _, rfl⟩
  | some L =>
    obtain ⟨v, he, ho⟩ := h
    obtain ⟨a, c, rfl⟩ := ho.form
    exact ⟨a, _, c, he, ho, rfl⟩
theorem ver_good {l : List UInt8} {ps : List Ph} {S : List UInt8} {sb : Bool} {q : Vq} : (vlZ (verZ l ps S sb q)).length ≤ 32 ∧ ∀ i (h : i < (vlZ (verZ l ps S sb q)).length), (vlZ (verZ l ps S sb q))[i].num ≤ 32767 := by
  have key : ∀ o : Option (List Vv), (∀ L, o = some L → goodB L = true) → (vlZ o).length ≤ 32 ∧ ∀ i (h : i < (vlZ o).length), (vlZ o)[i].num ≤ 32767 := fun o ho => by
    cases o with
    | none => exact ⟨by simp [vlZ], fun i h => by simp [vlZ] at h⟩
    | some L =>
      have := (good_iff L).1 (ho L rfl)
      exact ⟨this.1, fun i h => (this.2.1 i h).2⟩
  refine key _ (fun L hL => ?_)
  unfold verZ at hL
  split at hL
  · cases hL
  · unfold partO at hL
    split at hL
    · cases hL
    · split at hL
      · cases hL
      · split at hL
        · injection hL with hL; subst hL; assumption
        · cases hL
theorem dy_len (so ru : List UInt8) (vn : Value) (E : List De) : (dyCells so ru vn E).length = 40 := by
  unfold dyCells dyTail
  split <;> rfl
theorem areaC_one (E : List De) (t u : Nat) : ∀ x ∈ areaC E t u, x.oneCell' = true := by
  intro x hx
  simp only [areaC, List.mem_cons, List.not_mem_nil, or_false] at hx
  rcases hx with rfl | rfl | rfl <;> rfl
theorem dy_one (so ru : List UInt8) (a : Option Addr) (n c : Nat) (E : List De) : ∀ u ∈ dyCells so ru (.slice a n c) E, u.oneCell' = true := by
  intro u hu
  unfold dyCells dyTail at hu
  simp only [List.mem_append, List.mem_cons, List.not_mem_nil, or_false] at hu
  rcases hu with (rfl | rfl | rfl) | ((((((((((rfl | rfl | rfl) | hu) | rfl | rfl | rfl | rfl | rfl | rfl | rfl | rfl) | hu) | hu) | hu) | hu) | hu) | rfl | rfl) | hu) | hu
  all_goals first | rfl | exact areaC_one _ _ _ _ hu | (split at hu <;> exact areaC_one _ _ _ _ hu)
end Go.Proofs.Ytdclofiifcpkkaa
