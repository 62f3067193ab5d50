
/-
  VersOnly returns true for every row of bytes, and the row reads afterwards as it read before: no condition.
-/
import Derived.Test.YtdclofiifcpkkaaRows
import Derived.Test.YtdclofiifcpkkaaVeZs
import Derived.Test.YtdclofiifcpkkaaSzd
import Derived.WalkKit
import Derived.ProofKit
import Derived.OpenShut
import Derived.ShutString
import Derived.ChangeOld
import Derived.Below
import Derived.SizedLaws
set_option linter.unusedVariables false
namespace Go.Proofs.Ytdclofiifcpkkaa
namespace LVersOnly
open Go.ChangeShapes Go.WideShapes Go.ChangeAt Go.RowKit Go.PlainAid Go.Sort
/-- What a symbol's turn keeps. -/
theorem from_facts {vs : List Vv} {x : List UInt8} {k : Nat} {s t : Sy} (hb : bareS s) (h : FromS vs x k s t) :
    t.name = s.name ∧ t.defined = s.defined ∧ t.value = s.value ∧ t.size = s.size ∧ (t.hidden = true → t.defined = true) ∧ (t.bind = s.bind ∨ (t.bind = 0 ∧ t.ver = [])) := by
  obtain ⟨b1, b2⟩ := hb
  rcases h with rfl | h
  · exact ⟨rfl, rfl, rfl, rfl, fun e => (by rw [b2] at e; cases e), .inl rfl⟩
  · unfold withV at h
    split at h
    · injection h with h; subst h
      refine ⟨rfl, rfl, rfl, rfl, fun e => (by simp only at e; rw [b2] at e; cases e), ?_⟩
      simp only
      cases hd : s.defined
      · exact .inl (by simp)
      · exact .inr ⟨by simp, b1⟩
    · split at h
      · injection h with h; subst h
        refine ⟨rfl, rfl, rfl, rfl, fun e => ?_, .inl rfl⟩
        simp only at e ⊢
        rw [b2] at e
        simp at e; exact e.2
      · split at h
        · cases h
        · injection h with h; subst h
          refine ⟨rfl, rfl, rfl, rfl, fun e => ?_, .inl rfl⟩
          simp only at e ⊢
          rw [b2] at e
          simp at e; exact e.2
def pcode (O : Option (List Sy)) : Int := if O.isSome = true then 0 else 110
theorem put_get {w' : World} {B : Nat} {O : Option (List Sy)} {n : Nat} (hn : n ≤ 256) (hl : ∀ D, O = some D → D.length = n) {w : World} {e : Ending} (h : PutIs w w' B O e) :
    ∃ a m c, e = .returned (.tuple #[.slice a m c, .int .i64 (pcode O)]) ∧ ArgSy w' (.slice a m c) (O.getD []) := by
  cases O with
  | none => exact ⟨none, 0, 0, h, ArgSy.nil _⟩
  | some D =>
    obtain ⟨v, rfl, ho⟩ := h
    have hA := ho.arg (by rw [hl D rfl]; omega)
    obtain ⟨a, c, rfl⟩ := hA.form
    exact ⟨a, _, c, rfl, hA⟩
set_option maxHeartbeats 8000000 in
set_option maxRecDepth 20000 in
theorem core (w : World) (v : Value) (l : List UInt8) (h : Arg w v l) (hl : l.length ≤ 140737488351232) :
    Calls Try.prog 4 #[v] w fun e w' => e = .returned (.bool true) ∧ Below w.heap.size w w' := by
  have kR := law_read w v l h hl
  have HA := hide h
  obtain ⟨a, cap, rfl, _, _, _⟩ := h.isSlice
  obtain ⟨n, hn⟩ : ∃ n, l.length = n := ⟨_, rfl⟩
  have HN := hide hn
  rw [hn] at kR HA hl ⊢
  clear h hn
  go_enter Try.func4, Try.ntmps4
  go_wp2_with fail
  refine kR.mono ?_
  rintro e w1 ⟨hR, hb1⟩
  have HB1 := hide hb1
  have HA1 := hide (HA.out.below' hb1)
  have HZ1 := hide (Yy.begin w1)
  clear kR hb1 HA
  rcases hR with ⟨hc, dc, l16, l40, o1, o2, rfl⟩ | ⟨hd, D, a1, n1, c1, na, nn, nc, vs, S, hl2, hp, hdz, hAh, hAs, hne, hS6, hbare, rfl⟩
  · have HSH : Hid (∀ w, (Go.sizeOf 30).run Try.prog w = .ok hc.length w) := by rw [Hid, l16]; exact hd_size
    have HSD : Hid (∀ w, (Go.sizeOf 35).run Try.prog w = .ok dc.length w) := by rw [Hid, l40]; exact dy_size
    have HF1 : Hid (0 + hc.length ≤ zeroHd.toArray.size) := by rw [Hid, l16]; exact Nat.le_refl 16
    have HF2 : Hid (0 + dc.length ≤ zeroDy.toArray.size) := by rw [Hid, l40]; exact Nat.le_refl 40
    have HO1 := hide o1
    have HO2 := hide o2
    have HN1 := hide (store_new (zs := zeroHd) (cs := hc) (by rw [l16]; rfl))
    have HN2 := hide (store_new (zs := zeroDy) (cs := dc) (by rw [l40]; rfl))
    clear l16 l40 o1 o2
    go_wp2_with (first
      | ((with_reducible refine at_allocT (T := 30) ?_); refine alloc_opR rfl rfl _ _ (alloc_hd _) ?_)
      | ((with_reducible refine at_allocT (T := 35) ?_); refine alloc_opR rfl rfl _ _ (alloc_dy _) ?_)
      | ((with_reducible refine at_storeT (T := 30) ?_); refine store_part rfl _ _ _ rfl w1.heap.size 0 30 _ hc hc.toArray HZ1.out.z2 rfl rfl HSH.out HO1.out HF1.out HN1.out ?_))
    intro w2 hg2 hb2
    have HZ2 := hide (HZ1.out.set2 hg2 hb2)
    clear hg2 hb2 HZ1
    go_wp2_with ((with_reducible refine at_storeT (T := 35) ?_); refine store_part rfl _ _ _ rfl (w1.heap.size + 1) 0 35 _ dc dc.toArray HZ2.out.z3 rfl rfl HSD.out HO2.out HF2.out HN2.out ?_)
    intro w3 hg3 hb3
    have HZ3 := hide (HZ2.out.set3 hg3 hb3)
    have HB3 : Hid (Below w.heap.size w w3) := HB1.out.trans (HZ3.out.b.mono HB1.out.size)
    have hAl := alive11 w3
    clear hg3 hb3 HZ2 HZ3
    go_wp2_with fail
    refine hAl.mono ?_
    rintro e w4 ⟨rfl, hb4⟩
    have HB4 : Hid (Below w.heap.size w w4) := HB3.out.trans (hb4.mono HB3.out.size)
    clear hAl hb4
    go_wp2
    go_ret
    exact ⟨rfl, HB4.out⟩
  · have HSM : Hid (∀ p ∈ hd.loads, p.off + p.filesz ≤ 1000000) := fun p hq => (parse_small hp hl2 p hq).1
    have HLO := hide (parse_lo hp)
    have HPH := hide (parse_ok hp).2.1
    have HLM : Hid (l.length ≤ 1000000) := Nat.le_trans hl2 (by decide)
    have HV := hide (fun t => val_le (dyn_ents hdz) t)
    have HNE := hide hne
    have HS6 := hide hS6
    have HBARE := hide hbare
    obtain ⟨DC, hDC⟩ : ∃ DC, dyCells D.so D.ru (.slice na nn nc) D.ents = DC := ⟨_, rfl⟩
    have HD40 : Hid (DC.length = 40) := by rw [Hid, ← hDC]; exact dy_len _ _ _ _
    have HD1 : Hid (∀ u ∈ DC, u.oneCell' = true) := by rw [Hid, ← hDC]; exact dy_one _ _ _ _ _ _
    have h7 : DC.toArray[7]? = some (.int .u64 (valT D.ents 5 : Nat)) := by rw [← hDC]; rfl
    have h8 : DC.toArray[8]? = some (.int .u64 (valT D.ents 10 : Nat)) := by rw [← hDC]; rfl
    have h12 : DC.toArray[12]? = some (.int .u64 (valT D.ents 1879048176 : Nat)) := by rw [← hDC]; rfl
    have h13 : DC.toArray[13]? = some (.int .u64 (valT D.ents 1879048188 : Nat)) := by rw [← hDC]; rfl
    have h14 : DC.toArray[14]? = some (.int .u64 (valT D.ents 1879048190 : Nat)) := by rw [← hDC]; rfl
    have h15 : DC.toArray[15]? = some (.int .u64 (valT D.ents 1879048189 : Nat)) := by rw [← hDC]; rfl
    have h16 : DC.toArray[16]? = some (.int .u64 (valT D.ents 1879048191 : Nat)) := by rw [← hDC]; rfl
    have HSZ : Hid (∀ w, (Go.sizeOf 35).run Try.prog w = .ok DC.length w) := by rw [Hid, HD40.out]; exact dy_size
    have HNW := hide (store_new (zs := zeroDy) (cs := DC) (by rw [HD40.out]; rfl))
    have HS40 : Hid (DC.toArray.size = 40) := by rw [Hid, List.size_toArray]; exact HD40.out
    have HKP := hide (fun X vX (hX : Below w1.heap.size w1 X) (hSX : ArgSy X vX S) => ve_Put X (.slice a n cap) l (HA1.out.below' hX) hd.machine (.slice a1 n1 c1) hd.dynamic hd.relro hd.loads (hAh.below hX) HPH.out HSM.out HLO.out DC.toArray HS40.out (valT D.ents 5) (valT D.ents 10) h7 h8 (by have := HV.out 5; omega) (by have := HV.out 10; omega)
      ⟨valT D.ents 1879048188, valT D.ents 1879048189, valT D.ents 1879048190, valT D.ents 1879048191⟩ h13 h14 h15 h16 (by have := HV.out 1879048188; simp only; omega) (by have := HV.out 1879048190; simp only; omega) (by have := HV.out 1879048189; simp only; omega) (by have := HV.out 1879048191; simp only; omega)
      (valT D.ents 1879048176) h12 (by have := HV.out 1879048176; omega) vX S hSX HNE.out (Nat.le_trans HS6.out (by decide)) HLM.out)
    have HGE := hide (fun DD (e : vputZ l hd.loads (partZ l hd.loads (valT D.ents 5) (valT D.ents 10)).1 (partZ l hd.loads (valT D.ents 5) (valT D.ents 10)).2 ⟨valT D.ents 1879048188, valT D.ents 1879048189, valT D.ents 1879048190, valT D.ents 1879048191⟩ (valT D.ents 1879048176) S = some DD) => vput_get e)
    obtain ⟨PO, hPO⟩ : ∃ o, vputZ l hd.loads (partZ l hd.loads (valT D.ents 5) (valT D.ents 10)).1 (partZ l hd.loads (valT D.ents 5) (valT D.ents 10)).2 ⟨valT D.ents 1879048188, valT D.ents 1879048189, valT D.ents 1879048190, valT D.ents 1879048191⟩ (valT D.ents 1879048176) S = o := ⟨_, rfl⟩
    rw [hPO] at HKP HGE
    rw [hDC]
    have HAS := hide hAs
    obtain ⟨sa, scp, rfl⟩ := hAs.form
    obtain ⟨sn, hsn⟩ : ∃ sn, S.length = sn := ⟨_, rfl⟩
    have HSN := hide hsn
    rw [hsn] at HAS ⊢
    clear h7 h8 h12 h13 h14 h15 h16 hDC hPO HPH HSM HLO HV hl2 hp hdz hAh hAs hne hS6 hbare hsn
    go_wp2_with (first
      | ((with_reducible refine at_allocT (T := 30) ?_); refine alloc_opR rfl rfl _ _ (alloc_hd _) ?_)
      | ((with_reducible refine at_allocT (T := 35) ?_); refine alloc_opR rfl rfl _ _ (alloc_dy _) ?_)
      | ((with_reducible refine at_storeT (T := 30) ?_); refine store_part rfl _ _ _ rfl w1.heap.size 0 30 _ (hdCells hd.machine (.slice a1 n1 c1) hd.dynamic hd.relro) (hdCells hd.machine (.slice a1 n1 c1) hd.dynamic hd.relro).toArray HZ1.out.z2 rfl rfl hd_size (hd_one _ _ _ _ _ _) (Nat.le_refl 16) (by rfl) ?_))
    intro w2 hg2 hb2
    have HZ2 := hide (HZ1.out.set2 hg2 hb2)
    clear hg2 hb2 HZ1
    go_wp2_with ((with_reducible refine at_storeT (T := 35) ?_); refine store_part rfl _ _ _ rfl (w1.heap.size + 1) 0 35 _ DC DC.toArray HZ2.out.z3 rfl rfl HSZ.out HD1.out (by rw [HD40.out]; exact Nat.le_refl 40) HNW.out ?_)
    intro w3 hg3 hb3
    have HZ3 := hide (HZ2.out.set3 hg3 hb3)
    have HAS3 := hide (HAS.out.below HZ3.out.b)
    have kP := HKP.out w3 _ HZ3.out.b HAS3.out
    clear hg3 hb3 HZ2 HKP
    go_wp2_with (first
      | ((with_reducible refine at_load ?_); refine load_row rfl _ _ rfl w1.heap.size _ (load_hd HZ3.out.z2 rfl) rfl ?_)
      | ((with_reducible refine at_loadD ?_); refine load_row rfl _ _ rfl (w1.heap.size + 1) _ (load_dy HZ3.out.z3 HS40.out) rfl ?_))
    refine kP.mono ?_
    rintro e w6 ⟨hE, hb6⟩
    have HB6 : Hid (Below w.heap.size w w6) := HB1.out.trans ((HZ3.out.b.trans (hb6.mono HZ3.out.b.size)).mono HB1.out.size)
    have HAS6 := hide (HAS3.out.below hb6)
    clear kP hb6 HZ3 HAS3
    cases PO with
    | none =>
      have hE' : e = _ := hE
      subst hE'
      clear hE
      have hAl := alive11 w6
      go_wp2_with fail
      refine hAl.mono ?_
      rintro e w7 ⟨rfl, hb7⟩
      have HB7 : Hid (Below w.heap.size w w7) := HB6.out.trans (hb7.mono HB6.out.size)
      clear hAl hb7
      go_wp2
      go_ret
      exact ⟨rfl, HB7.out⟩
    | some DD =>
      obtain ⟨hDl, vs, x, hF⟩ := HGE.out DD rfl
      have HF := hide hF
      obtain ⟨v6, rfl, ho6⟩ := hE
      have HX6 := hide (ho6.arg (by rw [hDl]; have := HS6.out; omega))
      obtain ⟨xa, xc, rfl⟩ : ∃ a c, v6 = .slice a sn c := by
        obtain ⟨a, c, e⟩ := ho6.form
        rw [hDl, HSN.out] at e; exact ⟨_, _, e⟩
      have HDL : Hid (DD.length = sn) := hDl.trans HSN.out
      have hsnI : ((sn : Int) != (sn : Int)) = false := by simp
      have hsb : (sn : Int) ≤ 256 := by have := HS6.out; rw [HSN.out] at this; omega
      clear ho6 hDl hF HGE
      go_wp2
      go_loopw [9] (fun v9 wr => ∃ i : Nat, v9 = .int .i64 i ∧ i ≤ sn ∧ Hid (Below w6.heap.size w6 wr)) (fun v9 _ => sn - (intOf v9).toNat)
      case atStart => exact ⟨0, rfl, by omega, Below.refl _ _⟩
      case round =>
        obtain ⟨i, rfl, hi, HBi⟩ := hrel
        by_cases hlt : i < sn
        · have hltI : (i : Int) < (sn : Int) := by omega
          have hil : i < S.length := by rw [HSN.out]; exact hlt
          have hid : i < DD.length := by rw [HDL.out]; exact hlt
          obtain ⟨g1, hg1, p1, p2, _, y0, y1, y2, y3, y4, y5, y6⟩ := (HX6.out.below HBi.out).at i hid
          obtain ⟨g2, hg2, p3, p4, hgl2, z0, z1, z2, z3, z4, z5, z6⟩ := (HAS6.out.below HBi.out).at i hil
          subst hg1 hg2
          rw [HDL.out] at p1
          rw [HSN.out] at p3
          have hbr := HBARE.out _ (List.getElem_mem hil)
          have hft := from_facts hbr (HF.out i hil hid)
          generalize S[i] = sy at *
          generalize DD[i] = ty at *
          obtain ⟨nm, vr, hd', bd, df, vl, sz⟩ := sy
          obtain ⟨nm', tv, th, tb, df', vl', sz'⟩ := ty
          obtain ⟨hb1', hb2'⟩ := hbr
          simp only at hft y0 y1 y2 y3 y4 y5 y6 z0 z1 z2 z3 z4 z5 z6 hb1' hb2'
          obtain ⟨rfl, rfl, rfl, rfl, hf5, hf6⟩ := hft
          subst hb1' hb2'
          have HZC : Hid (∀ W, Below wr.heap.size wr W → W.cell? ⟨g2, i * 7, none⟩ = some (.string ⟨nm'.toArray⟩) ∧ W.cell? ⟨g2, i * 7 + 1, none⟩ = some (.string ⟨#[]⟩) ∧ W.cell? ⟨g2, i * 7 + 2, none⟩ = some (.bool false) ∧ W.cell? ⟨g2, i * 7 + 3, none⟩ = some (.int .i64 bd) ∧ W.cell? ⟨g2, i * 7 + 4, none⟩ = some (.bool df') ∧ W.cell? ⟨g2, i * 7 + 5, none⟩ = some (.int .u64 vl') ∧ W.cell? ⟨g2, i * 7 + 6, none⟩ = some (.int .u64 sz')) := fun W hW =>
            ⟨(hW.cell (p := ⟨g2, i * 7, none⟩) hgl2).trans z0, (hW.cell (p := ⟨g2, i * 7 + 1, none⟩) hgl2).trans z1, (hW.cell (p := ⟨g2, i * 7 + 2, none⟩) hgl2).trans z2, (hW.cell (p := ⟨g2, i * 7 + 3, none⟩) hgl2).trans z3, (hW.cell (p := ⟨g2, i * 7 + 4, none⟩) hgl2).trans z4, (hW.cell (p := ⟨g2, i * 7 + 5, none⟩) hgl2).trans z5, (hW.cell (p := ⟨g2, i * 7 + 6, none⟩) hgl2).trans z6⟩
          have HNY : Hid (NewY wr (wr.alloc (.cells (Sy.cells ⟨nm', tv, th, tb, df', vl', sz'⟩).toArray 48)) ⟨nm', tv, th, tb, df', vl', sz'⟩) := ⟨below1 _ _, heap_alloc_new _ _⟩
          simp only [Sy.cells] at HNY
          clear z0 z1 z2 z3 z4 z5 z6 hgl2
          go_upto_region 13 with fail
          generalize hwa : World.alloc wr _ = wa at *
          clear hwa
          have c1 := cells_of_block HNY.out.s 1 (.string ⟨tv.toArray⟩) rfl
          have c2 := cells_of_block HNY.out.s 2 (.bool th) rfl
          have c3 := cells_of_block HNY.out.s 3 (.int .i64 tb) rfl
          have c4 := cells_of_block HNY.out.s 4 (.bool df') rfl
          have d3 := (HZC.out wa HNY.out.b).2.2.2.1
          clear y0 y1 y2 y3 y4 y5 y6
          go_cut [95] from 56 to 95 (fun v95 wx => v95 = .bool false ∧ Hid (NewY wr wx ⟨nm', tv, th, tb, df', vl', sz'⟩))
          case first =>
            have hcs : (((tb != bd) = false) ∨ (((tb != bd) = true) ∧ tb = 0 ∧ tv = [])) := by
              rcases hf6 with h | ⟨h1, h2⟩
              · exact .inl (by simp [h])
              · by_cases h : tb = bd
                · exact .inl (by simp [h])
                · exact .inr ⟨by simpa using h, h1, h2⟩
            have hth : (th = false) ∨ (th = true ∧ df' = true) := by
              cases th
              · exact .inl rfl
              · exact .inr ⟨rfl, hf5 rfl⟩
            have hvr : (tv = []) ∨ (((tv != []) = true) ∧ ((tv == []) = false) ∧ tb = bd ∧ (tb == 0) = false) ∨ (((tv != []) = true) ∧ ((tv == []) = false) ∧ tb = bd ∧ (tb == 0) = true ∧ (bd != 0) = false) := by
              cases tv with
              | nil => exact .inl rfl
              | cons z t =>
                refine .inr ?_
                have e : tb = bd := by rcases hf6 with h | ⟨_, h⟩; exact h; cases h
                by_cases h0 : tb = 0
                · exact .inr ⟨rfl, rfl, e, by simp [h0], by simp [← e, h0]⟩
                · exact .inl ⟨rfl, rfl, e, by simpa using h0⟩
            clear hf5 hf6
            have HNZ := hide HNY.out
            rcases hcs with q1 | ⟨q1, rfl, rfl⟩
            · rcases hth with rfl | ⟨rfl, rfl⟩
              all_goals
                rcases hvr with rfl | ⟨r1, r2, rfl, r3⟩ | ⟨r1, r2, rfl, r3, r4⟩
                all_goals
                  try simp only [List.append_eq, List.cons_append, List.nil_append]
                  refine wp_region_quiet_below (by kernel_rfl) (by kernel_rfl) ?_
                  have e1 := cell_regrown c1
                  have e2 := cell_regrown c2
                  have e3 := cell_regrown c3
                  have e4 := cell_regrown c4
                  have e5 := cell_regrown d3
                  repeat (go_big_quiet_step (fail))
                  refine wpQuiet_nil ?_
                  intro _ hwq
                  obtain ⟨⟨dq, osq⟩, hwq2⟩ := hwq
                  subst hwq2
                  have HN9 := hide (HNZ.out.stay (below_regrown wa dq osq))
                  clear e1 e2 e3 e4 e5 c1 c2 c3 c4 d3
                  generalize grow _ _ = w9 at *
                  go_wp2
                  go_meet
                  exact ⟨rfl, HN9⟩
            · rcases hth with rfl | ⟨rfl, rfl⟩
              all_goals
                clear hvr
                try simp only [List.append_eq, List.cons_append, List.nil_append]
                refine wp_region_quiet_below (by kernel_rfl) (by kernel_rfl) ?_
                have e1 := cell_regrown c1
                have e2 := cell_regrown c2
                have e3 := cell_regrown c3
                have e4 := cell_regrown c4
                have e5 := cell_regrown d3
                repeat (go_big_quiet_step (fail))
                refine wpQuiet_nil ?_
                intro _ hwq
                obtain ⟨⟨dq, osq⟩, hwq2⟩ := hwq
                subst hwq2
                have HN9 := hide (HNZ.out.stay (below_regrown wa dq osq))
                clear e1 e2 e3 e4 e5 c1 c2 c3 c4 d3
                generalize grow _ _ = w9 at *
                go_wp2
                go_meet
                exact ⟨rfl, HN9⟩
          case rest =>
            obtain ⟨rfl, HN1⟩ := hcut
            clear c1 c2 c3 c4 d3 HNY hf5 hf6
            have c3 := (HZC.out wc HN1.out.b).2.2.2.1
            go_wp2_with ((with_reducible refine at_storeT (T := 3) ?_); refine store_v rfl _ _ _ rfl wr.heap.size 3 48 _ (.int .i64 bd) [.int .i64 bd] #[.string ⟨nm'.toArray⟩, .string ⟨tv.toArray⟩, .bool th, .int .i64 bd, .bool df', .int .u64 vl', .int .u64 sz'] HN1.out.s rfl rfl rfl int_sizeY (by intro u hu; rw [List.mem_singleton.1 hu]; rfl) (Nat.le_of_ble_eq_true rfl) (by rfl) ?_)
            intro wd hgd hbd
            have HN2 := hide (HN1.out.set (u := ⟨nm', tv, th, bd, df', vl', sz'⟩) hgd hbd)
            clear hgd hbd HN1 c3
            go_wp2_with ((with_reducible refine at_storeT (T := 9) ?_); refine store_v rfl _ _ _ rfl wr.heap.size 1 48 _ (.string ⟨#[]⟩) [.string ⟨#[]⟩] #[.string ⟨nm'.toArray⟩, .string ⟨#[]⟩, .bool th, .int .i64 bd, .bool df', .int .u64 vl', .int .u64 sz'] HN2.out.s rfl rfl rfl str_sizeY (by intro u hu; rw [List.mem_singleton.1 hu]; rfl) (Nat.le_of_ble_eq_true rfl) (by rfl) ?_)
            intro we hge hbe
            have HN3 := hide (HN2.out.set (u := ⟨nm', [], th, bd, df', vl', sz'⟩) hge hbe)
            clear hge hbe HN2
            go_wp2_with ((with_reducible refine at_storeT (T := 4) ?_); refine store_v rfl _ _ _ rfl wr.heap.size 2 48 _ (.bool false) [.bool false] #[.string ⟨nm'.toArray⟩, .string ⟨#[]⟩, .bool false, .int .i64 bd, .bool df', .int .u64 vl', .int .u64 sz'] HN3.out.s rfl rfl rfl bool_sizeY (by intro u hu; rw [List.mem_singleton.1 hu]; rfl) (Nat.le_of_ble_eq_true rfl) (by rfl) ?_)
            intro wf hgf hbf
            have HN4 := hide (HN3.out.set (u := ⟨nm', [], false, bd, df', vl', sz'⟩) hgf hbf)
            clear hgf hbf HN3
            obtain ⟨z0, z1, z2, z3, z4, z5, z6⟩ := HZC.out wf HN4.out.b
            have y0 := cells_of_block HN4.out.s 0 (.string ⟨nm'.toArray⟩) rfl
            have y1 := cells_of_block HN4.out.s 1 (.string ⟨#[]⟩) rfl
            have y2 := cells_of_block HN4.out.s 2 (.bool false) rfl
            have y3 := cells_of_block HN4.out.s 3 (.int .i64 bd) rfl
            have y4 := cells_of_block HN4.out.s 4 (.bool df') rfl
            have y5 := cells_of_block HN4.out.s 5 (.int .u64 (vl' : Nat)) rfl
            have y6 := cells_of_block HN4.out.s 6 (.int .u64 (sz' : Nat)) rfl
            go_upto_region 16 with fail
            go_quiet (fail)
            have HB2 : Hid (Below w6.heap.size w6 (wf.drewN nq)) := bel_drewN (HBi.out.trans (HN4.out.b.mono HBi.out.size)) _
            clear y0 y1 y2 y3 y4 y5 y6 z0 z1 z2 z3 z4 z5 z6
            go_wp2
            go_roundw
            case rel => exact ⟨i + 1, by go_num, by omega, HB2⟩
            case measure => simp [intOf]; omega
        · have hltI : ¬ (i : Int) < (sn : Int) := by omega
          have hAl := alive11 wr
          have HBZ : Hid (Below w.heap.size w wr) := HB6.out.trans (HBi.out.mono HB6.out.size)
          go_wp2_with fail
          refine hAl.mono ?_
          rintro e w9 ⟨rfl, hb9⟩
          have HB9 : Hid (Below w.heap.size w w9) := HBZ.out.trans (hb9.mono HBZ.out.size)
          clear hAl hb9
          go_wp2
          go_ret
          exact ⟨rfl, HB9.out⟩
theorem walk (w : World) (s0 : Option Addr) (len0 cap0 : Nat) (z0 : List Int) (h : IsRow .u8 w s0 len0 cap0 z0) (hb : len0 ≤ 140737488351232) :
    Calls Try.prog 4 #[.slice s0 len0 cap0] w fun e w' => e = .returned (.bool true) ∧ Below w.heap.size w w' := by
  obtain ⟨e, ha⟩ := h.arg hb
  have k := core w _ _ ha (by omega)
  exact k
theorem own : ownKnob Try.prog.godebug = none := by kernel_rfl
theorem laidOut : laidOutB Try.prog = true := by kernel_rfl
set_option maxRecDepth 100000 in
theorem lifted (os : Os) (started : os.Started) (H : Type) (enc : TypeId × Value → H) :
    ReturnsInHanded {} Try.checked os 4 .any (Rows.versOnlySpec.pre6 enc Try.prog Try.f4 Rows.versOnlyRow.domain false) (Rows.versOnlySpec.post enc Try.prog Try.f4 false true false false) := by
  refine returnsInHanded_of_change_sized (C := Try.checked) own started (by kernel_rfl) Try.func4
    (ChangeSpec.witness6 (enc := enc) (C := Try.checked) false ⟨#[], #[.slice none 0 0], []⟩ 8 (by kernel_rfl) (by kernel_rfl) (by kernel_rfl) (by kernel_rfl)) ?_
  intro W base args ds gs before hval0 hW hcnd hz _
  have hval : ∀ (j : Nat) t v, Try.f4.params[j]? = some t → args[j]? = some v → Value.okWide Try.prog W .any base t v := hval0
  have hW' := hW
  obtain ⟨p, q, hA0, hV, rfl, hfz, hnd⟩ := hW
  have hA : DataW.TrodAll enc Try.prog W 0 (fun _ => true) true Try.f4.params.toList args.toList ds p := hA0
  rw [Try.params4] at hA hval
  obtain ⟨v0, vs0, d0, ds0, p0, q0, hargs, rfl, rfl, h0, r0⟩ := trodAll_cons hA
  obtain ⟨rfl, rfl, rfl⟩ := trodAll_nil r0
  obtain rfl : args = #[v0] := by cases args; simp_all
  obtain ⟨rfl, rfl⟩ := trodVars_none hV
  have k0 := h0
  have lt0 : ∀ x ∈ p0, x.block < W.heap.size := by obtain ⟨m, hm⟩ := k0; exact DataW.trod_lt m _ _ _ hm
  obtain ⟨s0, len0, cap0, rfl⟩ := okWide_slice Try.underlying22 (hval 0 22 v0 rfl rfl)
  obtain ⟨z0, w0⟩ : ∃ zs, IsRow .u8 W s0 len0 cap0 zs := by
    obtain ⟨fuel, hf⟩ := h0
    rcases open_ints Try.underlying22 Try.underlying5 (by kernel_rfl) hf with ⟨hcs, _⟩ | ⟨x, l, c, zs, hcs, _, hl, hm, hz, _, hcell, hwz⟩
    · simp [Value.cells] at hcs
      obtain ⟨rfl, rfl, rfl⟩ := hcs
      exact ⟨[], .inl ⟨rfl, rfl, rfl, rfl⟩⟩
    · simp [Value.cells] at hcs
      obtain ⟨rfl, rfl, rfl⟩ := hcs
      exact ⟨zs, .inr ⟨_, rfl, hl, hm, by simpa using hz, hcell, hwz⟩⟩
  have b0 := bytes_reach h0 (fun k hk => by have := List.all_eq_true.1 hz k (DataW.weights_mem_each (j := 0) (t := 22) (d := d0) (by rw [Try.params4]; rfl) rfl k hk); simpa using this)
  clear hA0 hval0
  refine (walk W s0 len0 cap0 z0 w0 b0).mono fun e W' ⟨he, bel⟩ => ?_
  subst he
  exact ⟨_, rfl, _, _, _, [], _, [], hW', trodAll_mk1 (shut_bool Try.underlying4 _), (trodAll_cons_mk (Below.trod laidOut (by kernel_rfl) (of_decide_eq_true (by kernel_rfl)) k0 bel lt0) trodAll_mk0), rfl, bel.frame _, fun h => by cases h⟩

theorem over : Rows.versOnlyRow.holds Try.pinned (OpenSpec.ofChange Rows.versOnlySpec) :=
  OpenClaim.holds_of_wide 4 Try.f4 rfl rfl rfl rfl rfl rfl rfl ⟨rfl, rfl, rfl, rfl, rfl⟩ rfl rfl rfl rfl rfl (by kernel_rfl) Try.func4 (by kernel_rfl)
    (of_decide_eq_true (by kernel_rfl)) (by unfold Func.isWrapper; first | (rw [if_pos (by decide +kernel)]; kernel_rfl) | (rw [if_neg (by decide +kernel)]; exact ⟨rfl, rfl⟩))
    (fun os started H enc _ => lifted os started H enc)
end LVersOnly
theorem VersOnly_proved : Rows.VersOnlySaid := LVersOnly.over
end Go.Proofs.Ytdclofiifcpkkaa
