
/-
  Layer 14 (aps), the reference: Encode keeps its contract (the same bytes as the program's).
-/
import Derived.Test.YtiicmakeoidiaaaApU
import Derived.Test.YtiicmakeoidiaaaApP
import Derived.Deep.CutRange
import Derived.BigQuiet
set_option linter.unusedVariables false
namespace Go.Proofs.Ytiicmakeoidiaaa
open Go.RowKit Go.PlainAid
theorem enc_bad {l : List Rl} {rela : Bool} {i : Nat} (h : i < l.length) (hb : rlGood rela l[i] = false) : encA l rela = none := by
  unfold encA
  rw [if_neg]
  rintro ⟨_, e⟩
  rw [all_badR rela l i h hb] at e; cases e
theorem enc_all {l : List Rl} {rela : Bool} (h : l.length ≤ 512) (ha : l.all (rlGood rela) = true) : encA l rela = some ([65, 80, 83, 50] ++ lebs ((l.length : Int) :: 0 :: goN rela none l)) := by
  unfold encA
  rw [if_pos ⟨h, ha⟩, goN_is rela l.length l none (Nat.le_refl _) (fun r t _ => rfl)]; rfl
structure RlC (W : World) (g o j : Nat) (r : Rl) : Prop where
  c0 : W.cell? ⟨g, o + j * 5, none⟩ = some (.int .u64 r.pl)
  c1 : W.cell? ⟨g, o + j * 5 + 1, none⟩ = some (.int .u32 r.type)
  c2 : W.cell? ⟨g, o + j * 5 + 2, none⟩ = some (.int .u32 r.sym)
  c3 : W.cell? ⟨g, o + j * 5 + 3, none⟩ = some (.int .i64 r.add)
  c4 : W.cell? ⟨g, o + j * 5 + 4, none⟩ = some (.bool r.has)
theorem arg_rlc {w : World} {g o n cap : Nat} {ps : List Rl} (h : ArgR w (.slice (some ⟨g, o, none⟩) n cap) ps) (j : Nat) (hj : j < ps.length) : RlC w g o j ps[j] := by
  obtain ⟨g2, o2, e, q0, q1, q2, q3, q4⟩ := h.at j hj
  injection e with e
  injection e with e1 e2
  subst e1 e2
  exact ⟨q0, q1, q2, q3, q4⟩
/-- The append of numbers as a step of a drawn region. -/
theorem step_append_is {ops : Array Oper} {o : Oper} {a : Act} {W : World} {K : Act → World → Prop} {Q : Exit → Act → World → Prop} {E : Prop} (hgd : o.guard = none) (s y : Operand)
    (ho : o.op = .call { callee := .builtin .append, args := #[s, y], argTypes := #[57, 57] })
    (B : Nat) (v : Value) (l : List Int) (h : OwnI W B v l) (hB : B ≤ W.heap.size) (g m c : Nat) (x : List Int) (hm : x.length = m) (hx : IntsAt W g x) (hl : l.length + m ≤ 1000000) (hs : a.eval s = v) (hy : a.eval y = .slice (some ⟨g, 0, none⟩) m c)
    (hk : ∀ v' w', OwnI w' B v' (l ++ x) → W.grownBy w' v.ownBlock → (v'.ownBlock = v.ownBlock ∨ v'.ownBlock = some W.heap.size) → K (a.put o.dst v') w') :
    if Region.wanted o (yielded ops a.tmps) = true then Oper.wp Try.prog o a W K Q else E := by
  have hw : Region.wanted o (yielded ops a.tmps) = true := by simp [Region.wanted, hgd]
  rw [if_pos hw]
  obtain ⟨v', w', hr, h2, h3, h4⟩ := run_append_is W o.type B v l h hB g m c x hm hx hl
  unfold Oper.wp execOp
  simp only [ho, resolve, invoke, builtin, Sem.run_bind, Sem.run_pure, Result.andThen_ok, List.map_toArray, List.map_cons, List.map_nil, hs, hy, hr]
  exact hk v' w' h2 h3 h4
theorem goN_r (rela : Bool) (l : List Rl) (h : l.length ≤ 1000) : ∀ n ∈ (l.length : Int) :: 0 :: goN rela none l, i64r n := by
  intro n hn
  simp only [List.mem_cons] at hn
  rcases hn with rfl | rfl | hn
  · unfold i64r; omega
  · unfold i64r; omega
  · rw [goN_is rela l.length l none (Nat.le_refl _) (fun r t _ => rfl)] at hn
    exact encG_r rela _ _ _ l h n hn
set_option maxHeartbeats 8000000 in
set_option maxRecDepth 20000 in
theorem ref14_Encode (w : World) (v : Value) (l : List Rl) (rela : Bool) (h : ArgR w v l) (hl : l.length ≤ 1000) :
    Calls Try.prog 17 #[v, .bool rela] w fun e w' => EncIs w (encA l rela) e w' ∧ Below w.heap.size w w' := by
  have HA := hide (fun W (hW : Below w.heap.size w W) => h.below hW)
  have HBADZ := hide (fun i (hi : i < l.length) hb => enc_bad (rela := rela) hi hb)
  have HALLZ := hide (fun h5 ha => enc_all (l := l) (rela := rela) h5 ha)
  have HBIG : Hid (512 < l.length → encA l rela = none) := fun e => by unfold encA; rw [if_neg (by omega)]
  obtain ⟨O, hO⟩ : ∃ O, encA l rela = O := ⟨_, rfl⟩
  rw [hO] at HBADZ HALLZ HBIG ⊢
  clear hO
  have HNO : Hid (∀ w', O = none → EncIs w O (.returned (.tuple #[.slice none 0 0, .int .i64 140])) w') := fun w' e => by rw [e]; rfl
  obtain ⟨a, cap, rfl, p1, p2⟩ := h.form
  obtain ⟨n, hn⟩ : ∃ n, l.length = n := ⟨_, rfl⟩
  have HN := hide hn
  have HST := hide (GE.start w l rela n hn)
  rw [hn] at hl p1 HA HBIG ⊢
  clear hn h
  by_cases c1 : 512 < n
  · have d1 : decide ((512 : Int) < (n : Int)) = true := decide_eq_true (by omega)
    have d2 : decide (512 < n) = true := decide_eq_true c1
    have d3 : (512 : Int) < (n : Int) := by omega
    have HFF := hide (HNO.out w (HBIG.out c1))
    have HBR : Hid (Below w.heap.size w w) := Below.refl _ _
    go_enter Try.func17, Try.ntmps17
    go_wp2
    go_ret2
    exact ⟨HFF.out, HBR.out⟩
  · have d1 : decide ((512 : Int) < (n : Int)) = false := decide_eq_false (by omega)
    have d2 : decide (512 < n) = false := decide_eq_false c1
    have HC1 := hide c1
    clear c1 HBIG
    go_enter Try.func17, Try.ntmps17
    go_wp2_with fail
    clear d1 d2
    go_loopw [6, 7, 8, 9, 10, 11, 12] (fun v6 v7 v8 v9 _ _ _ wr => ∃ (i : Nat) (acc : List Int), i ≤ n ∧ v9 = .int .i64 (i : Int) ∧ v7 = .int .u64 (prevP (prevO l i) : Nat) ∧ v8 = .int .i64 (adR rela (prevO l i)) ∧ Hid (GE w wr l rela i v6 acc)) (fun _ _ _ v9 _ _ _ _ => n - (intOf v9).toNat)
    case atStart => exact ⟨0, _, by omega, rfl, by rw [prevO_zero]; rfl, by rw [prevO_zero]; unfold adR prevA; split <;> rfl, HST⟩
    case round =>
      obtain ⟨i, acc, hi, rfl, rfl, rfl, HG⟩ := hrel
      by_cases hlt : i < n
      · have hltI : (i : Int) < (n : Int) := by omega
        have hil : i < l.length := by rw [HN.out]; exact hlt
        have hi5 : (i : Int) ≤ 512 := by have := HC1.out; omega
        obtain ⟨g, o, hga, _⟩ := (HA.out wr HG.out.bel).at i hil
        subst hga
        obtain ⟨y0, y1, y2, y3, y4⟩ := arg_rlc (HA.out wr HG.out.bel) i hil
        have HGOOD : Hid (rlGood rela l[i] = false → O = none) := fun e => HBADZ.out i hil e
        have HNXT := hide (fun (hg : rlGood rela l[i] = true) w5 v5 X hX o5 hb => GE.next (w5 := w5) (v5 := v5) (X := X) HG.out hil hg hX o5 hb)
        have HBG := hide HG.out.bel
        have HALK := hide (fun k => alike_more l[i] (l.drop (i + 1)) k)
        have HALE := hide (fun k => alike_end l[i] (l.drop (i + 1)) k)
        obtain ⟨AN, hAN⟩ : ∃ x, alikeN l[i] (l.drop (i + 1)) = x := ⟨_, rfl⟩
        rw [hAN] at HNXT HALK HALE
        have HOKI := hide ((HA.out wr HG.out.bel).1 l[i] (List.getElem_mem hil))
        have HPS : Hid (prevO l (i + 1) = some l[i]) := prevO_succ l i hil
        have HANL : Hid (AN ≤ n) := by rw [Hid, ← hAN]; have := alike_le l[i] (l.drop (i + 1)); rw [List.length_drop, HN.out] at this; omega
        -- what is ahead
        have HNEW : Hid ((i = 0 ∧ isNew (prevO l i) l[i] = true) ∨ (∃ j, ∃ hj : j < l.length, i = j + 1 ∧ isNew (prevO l i) l[i] = !sameR l[i] l[j])) := by
          cases i with
          | zero => exact .inl ⟨rfl, by rw [prevO_zero]; rfl⟩
          | succ j => exact .inr ⟨j, by omega, rfl, by rw [prevO_succ l j (by omega)]; rfl⟩
        obtain ⟨nw, hnw⟩ : ∃ b, isNew (prevO l i) l[i] = b := ⟨_, rfl⟩
        obtain ⟨pp, hpp⟩ : ∃ x, prevP (prevO l i) = x := ⟨_, rfl⟩
        have HAD : Hid (rela = true → adR rela (prevO l i) = prevA (prevO l i)) := fun e => by unfold adR; rw [if_pos e]
        have HAD0 : Hid (rela = false → adR rela (prevO l i) = 0) := fun e => by unfold adR; rw [if_neg (by rw [e]; simp)]
        obtain ⟨pa, hpa⟩ : ∃ x, prevA (prevO l i) = x := ⟨_, rfl⟩
        obtain ⟨ad, had⟩ : ∃ x, adR rela (prevO l i) = x := ⟨_, rfl⟩
        rw [hnw, hpp, hpa] at HNXT
        rw [hnw] at HNEW
        rw [hpa, had] at HAD
        rw [had] at HAD0
        rw [hpp, had]
        have HRC : Hid (∀ W, Below w.heap.size w W → ∀ j (hj : j < l.length), RlC W g o j l[j]) := fun W hW j hj => arg_rlc (HA.out W hW) j hj
        clear hnw hpp hpa had hAN
        generalize hpq : l[i] = p at *
        have HPQ := hide hpq
        clear hpq
        have HGO : Hid ((p.has = rela ∧ (rela = true ∨ p.add = 0)) → rlGood rela p = true) := by
          rintro ⟨e1, e2⟩; simp [rlGood, e1]; exact e2
        have HNG : Hid (¬ (p.has = rela ∧ (rela = true ∨ p.add = 0)) → O = none) := fun hh => HGOOD.out (by
          cases hc : rlGood rela p with
          | false => rfl
          | true => simp [rlGood] at hc; exact absurd hc hh)
        obtain ⟨gd, hgd⟩ : ∃ b, rlGood rela p = b := ⟨_, rfl⟩
        have HGD := hide hgd
        go_upto_region 8 with fail
        go_cut [45] from 21 to 164 (fun vq wx => vq = .bool (!gd) ∧ Hid (wx = wr))
        case first => as_aux_lemma =>
          have HY : Hid ((p.has = rela ∧ (rela = true ∨ p.add = 0)) → gd = true) := fun e => by rw [← hgd]; exact HGO.out e
          have HNY : Hid (¬ (p.has = rela ∧ (rela = true ∨ p.add = 0)) → gd = false) := fun hh => by
            rw [← hgd]
            cases hc : rlGood rela p with
            | false => rfl
            | true => simp [rlGood] at hc; exact absurd hc hh
          clear hgd
          obtain ⟨n0, n1, n2, n3, b⟩ := p
          simp only at y0 y1 y2 y3 y4 HY HNY
          cases b with
          | true =>
            cases rela with
            | true =>
              have HF := hide (HY.out ⟨rfl, .inl rfl⟩)
              go_wp2
              go_meet
              case rel => exact ⟨by rw [HF.out]; rfl, rfl⟩
            | false =>
              have HF := hide (HNY.out (by simp))
              go_wp2
              go_meet
              case rel => exact ⟨by rw [HF.out]; rfl, rfl⟩
          | false =>
            cases rela with
            | true =>
              have HF := hide (HNY.out (by simp))
              go_wp2
              go_meet
              case rel => exact ⟨by rw [HF.out]; rfl, rfl⟩
            | false =>
              by_cases h0 : n3 = 0
              · have d0 : (n3 != 0) = false := by simp [h0]
                have HF := hide (HY.out ⟨rfl, .inr h0⟩)
                clear h0
                go_wp2
                go_meet
                case rel => exact ⟨by rw [HF.out]; rfl, rfl⟩
              · have d0 : (n3 != 0) = true := by simp [h0]
                have HF := hide (HNY.out (by simp [h0]))
                clear h0
                go_wp2
                go_meet
                case rel => exact ⟨by rw [HF.out]; rfl, rfl⟩
        case rest =>
          obtain ⟨rfl, hE⟩ := hcut
          have hE2 : wr = wc := hE.out.symm
          subst hE2
          clear hE
          cases gd with
          | false =>
            have HFF := hide (HNO.out wr (HGOOD.out hgd))
            clear hgd
            go_wp2
            go_ret2
            exact ⟨HFF.out, HBG.out⟩
          | true =>
            have HNX := hide (HNXT.out hgd)
            clear hgd HNXT HGOOD HNG HGO HBADZ HNO HGD
            go_upto_region 10 with fail
            go_cut [75] from 21 to 164 (fun vq wx => vq = .bool nw ∧ Hid (Below wr.heap.size wr wx))
            case first => as_aux_lemma =>
              rcases HNEW.out with ⟨hi0, hnw⟩ | ⟨j, hj, hij, hnw⟩
              · subst hi0
                subst hnw
                go_wp2_with fail
                go_quiet (fail)
                go_wp2
                go_meet
                case rel => exact ⟨rfl, by first | exact bel_drewN (Below.refl _ _) _ | exact (Below.refl _ _).drew⟩
              · subst hij
                obtain ⟨z0, z1, z2, z3, z4⟩ := HRC.out wr HBG.out j hj
                generalize l[j] = q at *
                have HNW := hide hnw
                obtain ⟨n0, n1, n2, n3, b⟩ := p
                obtain ⟨q0, q1, q2, q3, c⟩ := q
                simp only at y0 y1 y2 y3 y4 z0 z1 z2 z3 z4
                have d0 : ((j : Int) + 1 == 0) = false := by simp; omega
                have hjn : (j : Int) < (n : Int) := by omega
                have hj1 : (j : Int) + 1 < (n : Int) := by omega
                clear hnw hj hlt hltI hi
                by_cases c1 : n1 = q1
                · subst c1
                  have d1 : ((n1 : Int) != (n1 : Int)) = false := by simp
                  by_cases c2 : n2 = q2
                  · subst c2
                    have d2 : ((n2 : Int) != (n2 : Int)) = false := by simp
                    have HF : Hid (nw = false) := by rw [Hid, HNW.out]; simp [sameR]
                    go_wp2_with fail
                    go_quiet (fail)
                    go_wp2
                    go_meet
                    case rel => exact ⟨by rw [HF.out], by first | exact bel_drewN (Below.refl _ _) _ | exact (Below.refl _ _).drew⟩
                  · have d2 : ((n2 : Int) != (q2 : Int)) = true := by simp; omega
                    have HF : Hid (nw = true) := by rw [Hid, HNW.out]; simp [sameR, c2]
                    clear c2
                    go_wp2_with fail
                    go_quiet (fail)
                    go_wp2
                    go_meet
                    case rel => exact ⟨by rw [HF.out], by first | exact bel_drewN (Below.refl _ _) _ | exact (Below.refl _ _).drew⟩
                · have d1 : ((n1 : Int) != (q1 : Int)) = true := by simp; omega
                  have HF : Hid (nw = true) := by rw [Hid, HNW.out]; simp [sameR, c1]
                  clear c1
                  go_wp2_with fail
                  go_quiet (fail)
                  go_wp2
                  go_meet
                  case rel => exact ⟨by rw [HF.out], by first | exact bel_drewN (Below.refl _ _) _ | exact (Below.refl _ _).drew⟩
            case rest =>
              obtain ⟨rfl, HB2⟩ := hcut
              have HBW := hide (HBG.out.trans (HB2.out.mono HBG.out.size))
              have HO2 := hide (HG.out.own.below HB2.out)
              have HAL := hide HG.out.len
              clear HB2 HNEW
              go_upto_if 75 with fail
              go_cut [6, 10, 11, 12] from 21 to 164 (fun v6 _ _ _ wx => Hid (OwnI wx w.heap.size v6 (acc ++ (if nw = true then headN rela (AN + 1) p else []))) ∧ Hid (Below w.heap.size w wx))
              case first =>
                cases nw with
                | false =>
                  go_wp2
                  go_meet
                  case rel => exact ⟨by simpa using HO2, HBW⟩
                | true =>
                  obtain ⟨oa, oc, hvo⟩ := HO2.out.form
                  obtain ⟨L, hL⟩ : ∃ x, acc.length = x := ⟨_, rfl⟩
                  rw [hL] at hvo
                  have HL := hide hL
                  subst hvo
                  clear hL
                  go_wp2_with fail
                  go_loopw [10, 11] (fun v10 v11 wr => ∃ t : Nat, t ≤ AN ∧ i + 1 + t ≤ n ∧ v10 = .int .i64 ((t : Int) + 1) ∧ v11 = .int .i64 ((i : Int) + 1 + (t : Int)) ∧ Hid (OwnI wr w.heap.size (.slice oa L oc) acc) ∧ Hid (Below w.heap.size w wr)) (fun _ v11 _ => n - (intOf v11).toNat)
                  case atStart => exact ⟨0, by omega, by omega, rfl, by simp, HO2, HBW⟩
                  case round =>
                    obtain ⟨t, htA, htn, rfl, rfl, HO3, HB3⟩ := hrel
                    obtain ⟨cd, hcd1, hcd2, hcd3, hcd4⟩ : ∃ cd : Bool, (cd = true → t + 1 ≤ AN ∧ i + 1 + t < n) ∧ (cd = false → AN = t) ∧ (∀ h : i + 1 + t < l.length, cd = sameR l[i + 1 + t] p) ∧ (¬ i + 1 + t < n → cd = false) := by
                      by_cases hk : i + 1 + t < n
                      · have hdl : t < (l.drop (i + 1)).length := by rw [List.length_drop, HN.out]; omega
                        have hge : (l.drop (i + 1))[t] = l[i + 1 + t]'(by rw [HN.out]; exact hk) := List.getElem_drop
                        refine ⟨sameR ((l.drop (i + 1))[t]) p, fun e => ⟨HALK.out t hdl htA e, hk⟩, fun e => HALE.out t htA (fun _ => e), fun _ => by rw [hge], fun e => absurd hk e⟩
                      · refine ⟨false, fun e => (by cases e), fun _ => HALE.out t htA (fun hlt => absurd hlt (by rw [List.length_drop, HN.out]; omega)), fun h => absurd h (by rw [HN.out]; exact hk), fun _ => rfl⟩
                    have HC1 := hide hcd1
                    have HC2 := hide hcd2
                    have HC3 := hide hcd3
                    have HC4 := hide hcd4
                    clear hcd1 hcd2 hcd3 hcd4
                    have hti : (t : Int) ≤ 1000 := by omega
                    have hii : (i : Int) ≤ 1000 := by omega
                    go_upto_region 13 with fail
                    go_cut [107] from 78 to 111 (fun vq wx => vq = .bool cd ∧ Hid (Below wr.heap.size wr wx))
                    case first => as_aux_lemma =>
                      by_cases hk : i + 1 + t < n
                      · have hkI : (i : Int) + 1 + (t : Int) < (n : Int) := by omega
                        have hkN : decide (i + 1 + t < n) = true := decide_eq_true hk
                        have hkl : i + 1 + t < l.length := by rw [HN.out]; exact hk
                        obtain ⟨z0, z1, z2, z3, z4⟩ := HRC.out wr HB3.out (i + 1 + t) hkl
                        have HCD := hide (HC3.out hkl)
                        generalize l[i + 1 + t]'hkl = q at *
                        obtain ⟨n0, n1, n2, n3, b⟩ := p
                        obtain ⟨q0, q1, q2, q3, c⟩ := q
                        simp only at y0 y1 y2 y3 y4 z0 z1 z2 z3 z4
                        have e1 : ((i : Int) + 1 + (t : Int)).toNat = i + 1 + t := by omega
                        have hk0 : (0 : Int) ≤ (i : Int) + 1 + (t : Int) := by omega
                        have x1 : wr.cell? ⟨g, o + i * 5 + 1, none⟩ = some (.int .u32 n1) := (HRC.out wr HB3.out i (by omega)).c1.trans (by rw [HPQ.out])
                        have x2 : wr.cell? ⟨g, o + i * 5 + 2, none⟩ = some (.int .u32 n2) := (HRC.out wr HB3.out i (by omega)).c2.trans (by rw [HPQ.out])
                        clear y0 y1 y2 y3 y4 hk
                        by_cases c1 : q1 = n1
                        · subst c1
                          have d1 : ((q1 : Int) == (q1 : Int)) = true := by simp
                          by_cases c2 : q2 = n2
                          · subst c2
                            have d2 : ((q2 : Int) == (q2 : Int)) = true := by simp
                            have HF : Hid (cd = true) := by rw [Hid, HCD.out]; simp [sameR]
                            go_wp2_with fail
                            go_quiet (fail)
                            go_wp2
                            go_meet
                            case rel => exact ⟨by rw [HF.out], by first | exact bel_drewN (Below.refl _ _) _ | exact (Below.refl _ _).drew⟩
                          · have d2 : ((q2 : Int) == (n2 : Int)) = false := by simp; omega
                            have HF : Hid (cd = false) := by rw [Hid, HCD.out]; simp [sameR, c2]
                            clear c2
                            go_wp2_with fail
                            go_quiet (fail)
                            go_wp2
                            go_meet
                            case rel => exact ⟨by rw [HF.out], by first | exact bel_drewN (Below.refl _ _) _ | exact (Below.refl _ _).drew⟩
                        · have d1 : ((q1 : Int) == (n1 : Int)) = false := by simp; omega
                          have HF : Hid (cd = false) := by rw [Hid, HCD.out]; simp [sameR, c1]
                          clear c1
                          go_wp2_with fail
                          go_quiet (fail)
                          go_wp2
                          go_meet
                          case rel => exact ⟨by rw [HF.out], by first | exact bel_drewN (Below.refl _ _) _ | exact (Below.refl _ _).drew⟩
                      · have hkI : decide ((i : Int) + 1 + (t : Int) < (n : Int)) = false := decide_eq_false (by omega)
                        have HF := hide (HC4.out hk)
                        clear hk
                        go_wp2_with fail
                        go_quiet (fail)
                        go_wp2
                        go_meet
                        case rel => exact ⟨by rw [HF.out], by first | exact bel_drewN (Below.refl _ _) _ | exact (Below.refl _ _).drew⟩
                    case rest =>
                      obtain ⟨rfl, HB4⟩ := hcut
                      have HO4 := hide (HO3.out.below HB4.out)
                      have HB5 := hide (HB3.out.trans (HB4.out.mono HB3.out.size))
                      cases cd with
                      | true =>
                        obtain ⟨k1, k2⟩ := HC1.out rfl
                        go_wp2
                        go_roundw
                        case rel => exact ⟨t + 1, k1, by omega, by go_num, by go_num, HO4, HB5⟩
                        case measure => simp [intOf]; omega
                      | false =>
                        have hAt := HC2.out rfl
                        have hil' : i < l.length := by rw [HN.out]; exact hlt
                        obtain ⟨x0, x1, x2, x3, x4⟩ := HRC.out wc HB5.out i hil'
                        rw [HPQ.out] at x0 x1 x2 x3 x4
                        have z1 : wc.drew.cell? ⟨g, o + i * 5 + 1, none⟩ = some (.int .u32 p.type) := x1
                        have z2 : wc.drew.cell? ⟨g, o + i * 5 + 2, none⟩ = some (.int .u32 p.sym) := x2
                        have hsy := HOKI.out.sym
                        have hty := HOKI.out.type
                        have hq1 : IntKind.u64.wrap (p.sym : Int) = (p.sym : Int) := by rw [IntKind.wrap_u64]; omega
                        have hq2 : IntKind.u64.wrap (p.type : Int) = (p.type : Int) := by rw [IntKind.wrap_u64]; omega
                        have hq3 : IntKind.u64.wrap ((p.sym : Int) * 4294967296) = (p.sym : Int) * 4294967296 := by rw [IntKind.wrap_u64]; omega
                        have hq4 : IntKind.u64.wrap ((p.sym : Int) * 4294967296 + (p.type : Int)) = (p.sym : Int) * 4294967296 + (p.type : Int) := by rw [IntKind.wrap_u64]; omega
                        have hInf : wrap64 ((p.sym : Int) * 4294967296 + (p.type : Int)) = infoR p := by unfold infoR sg; rw [i64_w64]; unfold w64; congr 1
                        have hInf2 : IntKind.i64.wrap ((p.sym : Int) * 4294967296 + (p.type : Int)) = infoR p := by unfold infoR sg; congr 1
                        have HHD : Hid (headN rela (AN + 1) p = [(t : Int) + 1, flagN rela, infoR p]) := by rw [Hid, hAt]; simp [headN]
                        have HLA : Hid (acc.length ≤ 6000) := by have := HAL.out; unfold Hid; omega
                        have HOD := hide (HO4.out.below (Below.refl wc.heap.size wc).drew)
                        have HOA : Hid (∀ o, OwnI (wc.drew.alloc o) w.heap.size (.slice oa L oc) acc) := fun o => HOD.out.below (below1 _ _)
                        have HBS : Hid (∀ o, w.heap.size ≤ (wc.drew.alloc o).heap.size) := fun o => Nat.le_trans HB5.out.size (below1 wc.drew o).size
                        have HBA : Hid (∀ o, Below w.heap.size w (wc.drew.alloc o)) := fun o => HB5.out.drew.trans ((below1 wc.drew o).mono HB5.out.size)
                        have HI3 := hide (ints3 wc.drew ((t : Int) + 1) (flagN rela) (infoR p))
                        have ht5 : (t : Int) ≤ 1000 := by omega
                        have ht6 : (0 : Int) ≤ (t : Int) + 1 := by omega
                        generalize infoR p = inf at *
                        clear hAt x0 x1 x2 x3 x4 y0 y1 y2 y3 y4 hsy hty HC1 HC2 HC3 HC4
                        cases rela with
                        | false =>
                          have hfl : flagN false = 1 := rfl
                          rw [hfl] at HI3 HHD
                          clear hfl
                          go_wp2_with fail
                          go_region_law (refine step_append_is rfl (.tmp 113) (.tmp 131) rfl w.heap.size _ acc (HOA.out _) (HBS.out _) _ 3 3 [(t : Int) + 1, 1, inf] rfl HI3.out (by have := HLA.out; omega) rfl rfl ?_; intro v6 W6 o6 g6 x6; have HO6 := hide o6; have HG6 := hide (own_grown (HOA.out _) (HBS.out _) (HBA.out _) g6); clear o6 g6 x6)
                          all_goals
                            go_wp2
                            go_meet
                            case rel => exact ⟨by rw [if_pos trivial, HHD.out]; exact HO6, HG6⟩
                        | true =>
                          have hfl : flagN true = 9 := rfl
                          rw [hfl] at HI3 HHD
                          clear hfl
                          go_wp2_with fail
                          go_region_law (refine step_append_is rfl (.tmp 113) (.tmp 131) rfl w.heap.size _ acc (HOA.out _) (HBS.out _) _ 3 3 [(t : Int) + 1, 9, inf] rfl HI3.out (by have := HLA.out; omega) rfl rfl ?_; intro v6 W6 o6 g6 x6; have HO6 := hide o6; have HG6 := hide (own_grown (HOA.out _) (HBS.out _) (HBA.out _) g6); clear o6 g6 x6)
                          all_goals
                            go_wp2
                            go_meet
                            case rel => exact ⟨by rw [if_pos trivial, HHD.out]; exact HO6, HG6⟩
              case rest =>
                obtain ⟨HO5, HB5⟩ := hcut
                clear HO2 HBW
                obtain ⟨X, hX⟩ : ∃ X, (if nw = true then headN rela (AN + 1) p else []) = X := ⟨_, rfl⟩
                have HX3 : Hid (X.length ≤ 3) := by
                  rw [Hid, ← hX]; split
                  · simp [headN]
                  · simp
                rw [hX] at HO5 HNX
                clear hX
                obtain ⟨oa, oc, hvo⟩ := HO5.out.form
                obtain ⟨L, hL⟩ : ∃ x, (acc ++ X).length = x := ⟨_, rfl⟩
                rw [hL] at hvo
                subst hvo
                have HLN : Hid ((acc ++ X).length ≤ 6000) := by rw [Hid, List.length_append]; have := HAL.out; have := HX3.out; have := hi5; omega
                clear hL
                have hil' : i < l.length := by rw [HN.out]; exact hlt
                obtain ⟨x0, x1, x2, x3, x4⟩ := HRC.out wc HB5.out i hil'
                rw [HPQ.out] at x0 x1 x2 x3 x4
                have hU1 : IntKind.i64.wrap (IntKind.u64.wrap ((p.pl : Int) - (pp : Int))) = stepR pp p := u_step p.pl pp
                have hU2 : wrap64 (IntKind.u64.wrap ((p.pl : Int) - (pp : Int))) = stepR pp p := by rw [← hU1, i64_w64]; rfl
                have HI1 := hide (ints1 wc (stepR pp p))
                have HO6 : Hid (∀ o, OwnI (wc.alloc o) w.heap.size (.slice oa L oc) (acc ++ X)) := fun o => HO5.out.below (below1 _ _)
                have HBS : Hid (∀ o, w.heap.size ≤ (wc.alloc o).heap.size) := fun o => Nat.le_trans HB5.out.size (below1 wc o).size
                have HB6 : Hid (∀ o, Below w.heap.size w (wc.alloc o)) := fun o => HB5.out.trans ((below1 wc o).mono HB5.out.size)
                generalize hst : stepR pp p = st at *
                have HST2 := hide hst
                clear hst y0 y1 y2 y3 y4
                go_wp2_with (at_builtin; refine append_is rfl _ _ rfl w.heap.size _ _ (acc ++ X) (HO6.out _) (HBS.out _) wc.heap.size 1 1 [st] rfl HI1.out (by have := HLN.out; omega) rfl rfl ?_)
                intro v5 w5 o5 g5 _
                have HB7 := hide (own_grown (HO6.out _) (HBS.out _) (HB6.out _) g5)
                have HO7 : Hid (OwnI w5 w.heap.size v5 (acc ++ (X ++ [st]))) := by unfold Hid; simpa using o5
                obtain ⟨a5, c5, hv5⟩ := o5.form
                obtain ⟨L5, hL5⟩ : ∃ x, (acc ++ X ++ [st]).length = x := ⟨_, rfl⟩
                first
                  | rw [hL5] at hv5
                  | (have e5 : (acc ++ (X ++ [st])).length = L5 := by rw [← hL5, List.append_assoc]
                     rw [e5] at hv5)
                subst hv5
                clear hL5 o5 g5 x0 x1 x2 x3 x4
                obtain ⟨x0, x1, x2, x3, x4⟩ := HRC.out w5 HB7.out i hil'
                rw [HPQ.out] at x0 x1 x2 x3 x4
                cases rela with
                | false =>
                  have HAZ := hide (HAD0.out rfl)
                  have HGN := hide (HNX.out w5 (.slice a5 L5 c5) (X ++ [st]) (by rw [← HST2.out]; rfl) HO7.out HB7.out)
                  go_wp2
                  go_roundw
                  case rel => exact ⟨i + 1, _, by omega, by go_num, by rw [HPS.out]; rfl, by rw [HAZ.out]; rfl, HGN⟩
                  case measure => simp [intOf]; omega
                | true =>
                  have HAE := hide (HAD.out rfl)
                  obtain ⟨dd, hdd⟩ : ∃ x, w64 (p.add - ad) = x := ⟨_, rfl⟩
                  have hdd2 : wrap64 (p.add - ad) = dd := hdd
                  have HDD := hide hdd
                  have HI2 := hide (ints1 w5 dd)
                  have HO8 : Hid (∀ o, OwnI (w5.alloc o) w.heap.size (.slice a5 L5 c5) (acc ++ (X ++ [st]))) := fun o => HO7.out.below (below1 _ _)
                  have HBS2 : Hid (∀ o, w.heap.size ≤ (w5.alloc o).heap.size) := fun o => Nat.le_trans HB7.out.size (below1 w5 o).size
                  have HB8 : Hid (∀ o, Below w.heap.size w (w5.alloc o)) := fun o => HB7.out.trans ((below1 w5 o).mono HB7.out.size)
                  have HLM : Hid ((acc ++ (X ++ [st])).length ≤ 6001) := by have := HLN.out; unfold Hid; simp only [List.length_append, List.length_cons, List.length_nil] at this ⊢; omega
                  clear hdd
                  go_wp2_with (at_builtin; refine append_is rfl _ _ rfl w.heap.size _ _ (acc ++ (X ++ [st])) (HO8.out _) (HBS2.out _) w5.heap.size 1 1 [dd] rfl HI2.out (by have := HLM.out; omega) rfl rfl ?_)
                  intro v9 w9 o9 g9 _
                  have HB9 := hide (own_grown (HO8.out _) (HBS2.out _) (HB8.out _) g9)
                  have HO9 : Hid (OwnI w9 w.heap.size v9 (acc ++ (X ++ [st, dd]))) := by unfold Hid; simpa using o9
                  have HGN := hide (HNX.out w9 v9 (X ++ [st, dd]) (by rw [← HST2.out, ← HDD.out, HAE.out]; rfl) HO9.out HB9.out)
                  clear o9 g9 x0 x1 x2 x3 x4
                  obtain ⟨x0, x1, x2, x3, x4⟩ := HRC.out w9 HB9.out i hil'
                  rw [HPQ.out] at x0 x1 x2 x3 x4
                  go_wp2
                  go_roundw
                  case rel => exact ⟨i + 1, _, by omega, by go_num, by rw [HPS.out]; rfl, by rw [HPS.out]; rfl, HGN⟩
                  case measure => simp [intOf]; omega
      · as_aux_lemma =>
        obtain ⟨oa, oc, hvo⟩ := HG.out.own.form
        obtain ⟨L, hL⟩ : ∃ x, acc.length = x := ⟨_, rfl⟩
        have HL := hide hL
        subst hvo
        have hAll := HALLZ.out (by rw [HN.out]; have := HC1.out; omega) (by have := HG.out.all; rw [List.take_of_length_le (by rw [HN.out]; omega)] at this; exact this)
        have hans := HG.out.ans
        rw [List.drop_of_length_le (by rw [HN.out]; omega)] at hans
        simp only [goN, List.append_nil] at hans
        have HRG : Hid (∀ x ∈ acc, i64r x) := by rw [Hid, hans]; exact goN_r rela l (by rw [HN.out]; exact hl)
        have HPO : Hid (0 < L) := by rw [Hid, ← hL, hans]; simp
        rw [← hans] at hAll
        have HLL : Hid (L ≤ 3000) := by rw [Hid, ← hL]; have := HG.out.len; have := HC1.out; omega
        have HALL := hide hAll
        have HBG := hide HG.out.bel
        have HAR0 := HG.out.own.arg
        rw [hL] at HAR0 ⊢
        have HARG : Hid (∀ W, Below wr.heap.size wr W → ArgI W wr.heap.size (.slice oa L oc) acc) := fun W hW => HAR0.move (fun k hk => hW.block k hk)
        have hcv := conv_magic wr
        have HBM : Hid (Bw (wr.alloc magicO) wr.heap.size (.slice (some ⟨wr.heap.size, 0, none⟩) 4 4) [65, 80, 83, 50]) := .inr ⟨wr.heap.size, rfl, rfl, Nat.le_refl _, heap_alloc_new _ _⟩
        have HBB : Hid (Below wr.heap.size wr (wr.alloc magicO)) := below1 _ _
        have hltI : ¬ (i : Int) < (n : Int) := by omega
        have hltN : decide (i < n) = false := decide_eq_false hlt
        clear hAll hans HAR0 hL HG HALLZ HBADZ HNO HA
        go_wp2_with fail
        go_loopw [13, 14] (fun v13 v14 wx => ∃ k : Nat, k ≤ L ∧ v14 = .int .i64 (k : Int) ∧ Hid (Bw wx wr.heap.size v13 ([65, 80, 83, 50] ++ lebs (acc.take k))) ∧ Hid (0 < k → Own wx wr.heap.size v13 ([65, 80, 83, 50] ++ lebs (acc.take k))) ∧ Hid (Below wr.heap.size wr wx)) (fun _ v14 _ => L - (intOf v14).toNat)
        case atStart => exact ⟨0, by omega, rfl, by simpa [lebs] using HBM, fun e => absurd e (by omega), HBB⟩
        case round =>
          obtain ⟨k, hk, rfl, HBk, HOk, HBe⟩ := hrel
          obtain ⟨ba, bn, bc, hvb⟩ := HBk.out.slice
          subst hvb
          by_cases hkl : k < L
          · have hkI : (k : Int) < (L : Int) := by omega
            have HK1 : Hid (k + 1 ≤ L) := hkl
            have hkA : k < acc.length := by rw [HL.out]; exact hkl
            obtain ⟨a', c', e', h1, h2, h3⟩ := HARG.out wr HBe.out
            injection e' with e1 e2 e3
            subst e1 e3
            obtain ⟨gi, oi, hga, _, hcell⟩ : ∃ g o, oa = some ⟨g, o, none⟩ ∧ True ∧ ∀ j (hj : j < acc.length), wr.cell? ⟨g, o + j, none⟩ = some (.int .i64 acc[j]) := by
              rcases h3 with rfl | ⟨g, o, e, _, h5⟩
              · simp at hkA
              · exact ⟨g, o, e, trivial, h5⟩
            subst hga
            have hc := hcell k hkA
            have hx := HRG.out acc[k] (List.getElem_mem hkA)
            have HSN := hide (lebs_snoc acc k hkA)
            have HLC : Hid (([65, 80, 83, 50] ++ lebs (acc.take k)).length + 10 ≤ 1000000) := by
              have h8 := lebs_len (acc.take k)
              rw [List.length_take] at h8
              have := HLL.out
              unfold Hid
              simp only [List.length_append, List.length_cons, List.length_nil]
              omega
            have HSZ := hide HBe.out.size
            generalize acc[k] = x at *
            have hP := ref_PutS x wr hx.1 hx.2
            clear hcell h1 h2 h3 hx e2
            go_wp2_with fail
            refine hP.mono ?_
            rintro e W1 ⟨v1, rfl, ho1, hb1⟩
            obtain ⟨g1, c1, hv1, _, _, _, _, hxc, _⟩ := ho1.form (lebS_ne x)
            subst hv1
            have HXC := hide hxc
            have HPZ : Hid (0 < (lebS 10 x).length) := List.length_pos_iff.2 (lebS_ne x)
            have HB1 := hide (HBe.out.trans (hb1.mono HSZ.out))
            have HBk1 := hide (HBk.out.move (fun q hq => hb1.block q (HBk.out.base q hq).2))
            have HS1 := hide (Nat.le_trans HSZ.out hb1.size)
            have HM1 : Hid ((lebS 10 x).length ≤ 10) := lebS_len 10 x
            obtain ⟨M, hM⟩ : ∃ m, (lebS 10 x).length = m := ⟨_, rfl⟩
            rw [hM] at HPZ HM1
            have HM := hide hM
            clear hP ho1 hb1 hxc HBk HOk HBe
            go_wp2_with (at_builtin; refine append_bw rfl _ _ rfl _ _ _ ([65, 80, 83, 50] ++ lebs (acc.take k)) HBk1.out HS1.out _ M _ (lebS 10 x) HM.out HPZ.out HXC.out (by have := HM1.out; have := HLC.out; omega) rfl rfl ?_)
            intro v9 w9 o9 g9
            have HO9 := hide o9
            have HB9 := hide (HB1.out.grown g9 HS1.out (fun q hq => (HBk1.out.base q hq).1))
            clear o9 g9
            have hk5 : (k : Int) ≤ 3000 := by have := HLL.out; omega
            go_wp2
            go_roundw
            case rel => exact ⟨k + 1, HK1.out, by go_num, .inl (by rw [HSN.out, ← List.append_assoc]; exact HO9.out), fun _ => (by rw [HSN.out, ← List.append_assoc]; exact HO9.out), HB9⟩
            case measure => have := HK1.out; simp [intOf]; omega
          · have hkI : ¬ (k : Int) < (L : Int) := by omega
            have hE := HOk.out (by have := HPO.out; omega)
            rw [List.take_of_length_le (by rw [HL.out]; omega)] at hE
            have HEN : Hid (EncIs w O (.returned (.tuple #[.slice ba bn bc, .int .i64 0])) wr) := by rw [Hid, HALL.out]; exact ⟨_, rfl, hE.lowR HBG.out.size⟩
            have HBN := hide (HBG.out.trans (HBe.out.mono HBG.out.size))
            clear hE
            go_wp2
            go_ret2
            exact ⟨HEN.out, HBN.out⟩
end Go.Proofs.Ytiicmakeoidiaaa
