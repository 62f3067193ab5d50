
/-
  Layer 14 (aps), the reference: Decode of bytes that begin as a list does.
-/
import Derived.Test.YthbikbeedopbcaaApS
set_option linter.unusedVariables false
namespace Go.Proofs.Ythbikbeedopbcaa
open Go.RowKit Go.PlainAid
theorem i64r_zero : i64r 0 := ⟨by decide, by decide⟩
theorem bad_dec {N : List Int} {fine rela : Bool} (h : (startT N).bad = true) : decN N fine rela = none := by
  unfold decN
  split
  · rfl
  · exact fin_bad _ _ _ _ _ h
theorem rd_takeB (w wr : World) (X : Nat) (vN vo : Value) (s : Ts) (rela b : Bool) (hb : s.bad = b) (h : RD w wr X vN vo s rela) :
    Calls Try.prog 19 #[.agg #[vN, .bool b]] wr fun e w' => (∃ a n c, e = .returned (.tuple #[.agg #[.slice a n c, .bool s.tl.bad], .int .i64 s.hd]) ∧ RD w ((w'.setCell ⟨X, 0, none⟩ (.slice a n c)).setCell ⟨X, 1, none⟩ (.bool s.tl.bad)) X (.slice a n c) vo s.tl rela) ∧ RD w w' X vN vo s rela := by
  rw [← hb]; exact rd_take w wr X vN vo s rela h
theorem RD.push {w wr W w5 : World} {X : Nat} {vN vo v5 : Value} {s s' : Ts} {rela : Bool} {e : Rl} (h : RD w wr X vN vo s rela) (hb : Below wr.heap.size wr W) (o5 : OwnR w5 (X + 1) v5 (s.out ++ [e])) (hb5 : Below (X + 1) W w5) (h1 : s'.N = s.N) (h2 : s'.bad = s.bad) (h3 : s'.out = s.out ++ [e]) (hg : s'.good rela) : RD w w5 X vN v5 s' rela := by
  have hw := h.below hb
  have hlo := h.lo
  refine ⟨by rw [h2, hb5.block X (by omega)]; exact hw.c, by rw [h1]; exact hw.arg.move (fun k hk => hb5.block k (by omega)), by rw [h3]; exact o5, ?_, h.lo, hg⟩
  exact hw.bel.trans ⟨hb5.os, hb5.tape, hb5.output, hb5.size, fun k hk => hb5.block k (by omega)⟩
theorem head4 {l : List UInt8} (h : l.take 4 = [65, 80, 83, 50]) : ∃ t, l = 65 :: 80 :: 83 :: 50 :: t := by
  match l, h with
  | b0 :: b1 :: b2 :: b3 :: t, h => simp at h; obtain ⟨rfl, rfl, rfl, rfl⟩ := h; exact ⟨t, rfl⟩
  | [], h => simp at h
  | [_], h => simp at h
  | [_, _], h => simp at h
  | [_, _, _], h => simp at h
set_option maxHeartbeats 4000000 in
set_option maxRecDepth 20000 in
theorem ref14_body (w : World) (v : Value) (l : List UInt8) (h : Arg w v l) (rela : Bool) (hl : l.length ≤ 20000) (hP : l.take 4 = [65, 80, 83, 50]) :
    Calls Try.prog 7 #[v, .bool rela] w fun e w' => ApsIs w (apsZ l rela) e w' ∧ Below w.heap.size w w' := by
  have HZ : Hid (apsZ l rela = decN (numsZ (l.drop 4)).1 (numsZ (l.drop 4)).2 rela) := by unfold Hid apsZ; rw [if_pos hP]
  obtain ⟨O, hO⟩ : ∃ O, apsZ l rela = O := ⟨_, rfl⟩
  rw [hO] at HZ ⊢
  clear hO
  have HNO : Hid (∀ w', O = none → ApsIs w O (.returned (.tuple #[.slice none 0 0, .int .i64 140])) w') := fun w' e => by rw [e]; rfl
  obtain ⟨t, rfl⟩ := head4 hP
  obtain ⟨g, o, cap, rfl, hc1, hc2, hc⟩ := h.cells (by simp)
  have hDR := h.drop 4 (by simp)
  have y0 := hc 0 (by simp)
  have y1 := hc 1 (by simp)
  have y2 := hc 2 (by simp)
  have y3 := hc 3 (by simp)
  have y0' : w.cell? ⟨g, o, none⟩ = some (.int .u8 65) := y0
  have y1' : w.cell? ⟨g, o + 1, none⟩ = some (.int .u8 80) := y1
  have y2' : w.cell? ⟨g, o + 2, none⟩ = some (.int .u8 83) := y2
  have y3' : w.cell? ⟨g, o + 3, none⟩ = some (.int .u8 50) := y3
  have ht : (65 :: 80 :: 83 :: 50 :: t).drop 4 = t := rfl
  rw [ht] at HZ hDR
  have htl : t.length ≤ 20000 := by simp only [List.length_cons] at hl; omega
  obtain ⟨n, hn⟩ : ∃ n, ((65 : UInt8) :: 80 :: 83 :: 50 :: t).length = n := ⟨_, rfl⟩
  have hn4 : n = t.length + 4 := by rw [← hn]; simp
  have HTE : Hid (cap = 4 → t = []) := fun e => List.length_eq_zero_iff.1 (by omega)
  rw [hn] at hc1 hDR ⊢
  have hge : 4 ≤ n := by omega
  have dl : decide ((n : Int) < 4) = false := decide_eq_false (by omega)
  have i0 : (0 : Int) < (n : Int) := by omega
  have i1 : (1 : Int) < (n : Int) := by omega
  have i2 : (2 : Int) < (n : Int) := by omega
  have i3 : (3 : Int) < (n : Int) := by omega
  have i4 : (4 : Int) ≤ (n : Int) := by omega
  have i5 : (4 : Int) ≤ (cap : Int) := by omega
  have hcap : cap ≤ 9223372036854775807 := by unfold maxLen at hc2; omega
  have hNb := ref14_numbers w _ t hDR (by omega)
  have HNG := hide (fun e => ref14_numbers w (.slice (some ⟨g, o, none⟩) 0 0) t (by rw [HTE.out e]; exact Arg.gone rfl) (by omega))
  obtain ⟨N, hN⟩ : ∃ N, (numsZ t).1 = N := ⟨_, rfl⟩
  obtain ⟨fine, hfine⟩ : ∃ f, (numsZ t).2 = f := ⟨_, rfl⟩
  have HNR : Hid (∀ x ∈ N, i64r x) := by rw [← hN]; exact numsF_bd _ _
  have HNI : Hid (∀ e w', NumsIs w t e w' → ∃ v, e = .returned (.tuple #[v, .bool fine]) ∧ OwnI w' w.heap.size v N) := fun e w' hh => by unfold NumsIs at hh; rw [hN, hfine] at hh; exact hh
  rw [hN, hfine] at HZ
  clear h hc y0 y1 y2 y3 ht hl hP hn hc1 hc2 htl hn4 hN hfine
  go_enter Try.func7, Try.ntmps7
  go_upto_region 3 with fail
  go_cut [6, 7] from 20 (fun v6 v7 wx => v7 = .bool fine ∧ Hid (OwnI wx w.heap.size v6 N) ∧ Hid (Below w.heap.size w wx))
  case first => as_aux_lemma =>
    by_cases hc4 : cap = 4
    · have hNg := HNG.out hc4
      clear hNb
      subst hc4
      have hn4 : n = 4 := by
        have : t = [] := HTE.out rfl
        subst this
        obtain ⟨_, _, e, _⟩ := hDR
        injection e with _ e _
        simp at e
        omega
      subst hn4
      go_wp2_with fail
      refine hNg.mono ?_
      rintro e w1 ⟨hE, hb1⟩
      obtain ⟨v1, rfl, hown⟩ := HNI.out e w1 hE
      have HO := hide hown
      have HB := hide hb1
      clear hE hown hb1 hNg
      go_wp2
      go_meet
      case rel => exact ⟨rfl, HO, HB⟩
    · clear hDR
      go_wp2_with fail
      refine hNb.mono ?_
      rintro e w1 ⟨hE, hb1⟩
      obtain ⟨v1, rfl, hown⟩ := HNI.out e w1 hE
      have HO := hide hown
      have HB := hide hb1
      clear hE hown hb1 hNb
      go_wp2
      go_meet
      case rel => exact ⟨rfl, HO, HB⟩
  case rest =>
    obtain ⟨rfl, HO, HB⟩ := hcut
    clear hNb HNG HNI HTE hDR y0' y1' y2' y3' dl i0 i1 i2 i3 i4 i5 hge
    obtain ⟨na, nc, hv6⟩ := HO.out.form
    obtain ⟨nN, hnN⟩ : ∃ nN, N.length = nN := ⟨_, rfl⟩
    rw [hnN] at hv6
    have HR0 : Hid (RD w (wc.alloc (.cells #[.slice na nN nc, .bool false] 52)) wc.heap.size (.slice na nN nc) (.slice none 0 0) (Ts.mk N false 0 0 []) rela) := by
      have ha := HO.out.arg
      rw [hv6] at ha
      exact ⟨heap_alloc_new _ _, ha.move (fun k hk => (below1 wc _).block k hk), OwnR.nil _ _, HB.out.trans ((below1 wc _).mono HB.out.size), HB.out.size, ⟨HNR.out, i64r_zero, i64r_zero, fun _ => rfl, fun r hr => by simp at hr⟩⟩
    subst hv6
    obtain ⟨s0, hs0⟩ : ∃ s0, Ts.mk N false 0 0 [] = s0 := ⟨_, rfl⟩
    rw [hs0] at HR0
    have HS0 : Hid (s0 = Ts.mk N false 0 0 []) := hs0.symm
    have HB0 : Hid (s0.bad = false) := by rw [Hid, ← hs0]
    have HR := HR0
    have hTk := rd_takeB _ _ _ _ _ _ _ false HB0.out HR.out
    clear HR0 hnN HO HB hs0
    go_wp2_with fail
    refine hTk.mono ?_
    clear hTk
    generalize wc.heap.size = X at *
    generalize wc.alloc (.cells #[.slice na nN nc, .bool false] 52) = w1 at *
    rintro e w2 ⟨⟨a2, n2, c2, rfl, hR2⟩, hR1⟩
    obtain ⟨p0, p1, p2, p3⟩ := hR1.cells
    obtain ⟨q0, q1, q2, q3⟩ := hR2.cells
    rw [HB0.out] at p1
    have HRn := hide hR2
    clear HR hR2 hR1
    have HR := HRn
    clear HRn
    go_wp2_with fail
    generalize (w2.setCell ⟨X, 0, none⟩ (.slice a2 n2 c2)).setCell ⟨X, 1, none⟩ (.bool s0.tl.bad) = w3 at *
    clear p0 p1 p2 p3 q0 q1 q2 q3
    refine (rd_takeB _ _ _ _ _ _ _ _ rfl HR.out).mono ?_
    rintro e w2 ⟨⟨a2, n2, c2, rfl, hR2⟩, hR1⟩
    obtain ⟨p0, p1, p2, p3⟩ := hR1.cells
    obtain ⟨q0, q1, q2, q3⟩ := hR2.cells
    have HRn := hide hR2
    clear HR hR2 hR1
    have HR := HRn
    clear HRn
    have HG0 : Hid (startT N = s0.tl.tl.setPl s0.tl.hd) := by rw [HS0.out]; rfl
    have HM0 : Hid (N.headD 0 = s0.hd) := by rw [HS0.out]; rfl
    obtain ⟨m, hm⟩ : ∃ m, s0.hd = m := ⟨_, rfl⟩
    have HZ2 : Hid (O = if m < 0 ∨ 512 < m then none else finT fine (runT rela m 513 (startT N))) := by
      rw [Hid, HZ.out]; unfold decN; rw [HM0.out, hm]
    have HZB : Hid ((startT N).bad = true → O = none) := fun e => by rw [HZ.out]; exact bad_dec e
    have hbb : (startT N).bad = s0.tl.tl.bad := by rw [HG0.out]; rfl
    rw [hm]
    obtain ⟨bb, hbd⟩ : ∃ bb, s0.tl.tl.bad = bb := ⟨_, rfl⟩
    rw [hbb, hbd] at HZB
    rw [hbd]
    rw [hbd] at q0 q1 q2 q3
    have HBB : Hid ((startT N).bad = bb) := by rw [Hid, hbb, hbd]
    have HRX : Hid (RD w ((w2.setCell ⟨X, 0, none⟩ (.slice a2 n2 c2)).setCell ⟨X, 1, none⟩ (.bool bb)) X (.slice a2 n2 c2) (.slice none 0 0) s0.tl.tl rela) := by rw [← hbd]; exact HR.out
    have HRS : Hid (RD w ((w2.setCell ⟨X, 0, none⟩ (.slice a2 n2 c2)).setCell ⟨X, 1, none⟩ (.bool bb)) X (.slice a2 n2 c2) (.slice none 0 0) (startT N) rela) := HRX.out.with (by rw [HG0.out]; rfl) (by rw [HG0.out]; rfl) (by rw [HG0.out]; rfl) (startT_good rela HNR.out)
    have HPL : Hid (s0.tl.hd = (startT N).pl) := by rw [HG0.out]; rfl
    have HAD : Hid ((startT N).add = 0 ∧ (startT N).out = []) := ⟨rfl, rfl⟩
    rw [HPL.out]
    generalize startT N = s1 at *
    clear HR HRX hbd hbb hm HM0 HG0 HZ HS0 HB0 HPL
    cases bb with
    | true =>
      have HF := hide (HNO.out ((w2.setCell ⟨X, 0, none⟩ (.slice a2 n2 c2)).setCell ⟨X, 1, none⟩ (.bool true)) (HZB.out rfl))
      have HBF := hide HRS.out.bel
      go_wp2
      go_ret2
      exact ⟨HF.out, HBF.out⟩
    | false =>
      by_cases c1 : m < 0
      · have d1 : decide (m < 0) = true := decide_eq_true c1
        have HF := hide (HNO.out ((w2.setCell ⟨X, 0, none⟩ (.slice a2 n2 c2)).setCell ⟨X, 1, none⟩ (.bool false)) (by rw [HZ2.out, if_pos (.inl c1)]))
        have HBF := hide HRS.out.bel
        clear c1
        go_wp2
        go_ret2
        exact ⟨HF.out, HBF.out⟩
      have d1 : decide (m < 0) = false := decide_eq_false c1
      by_cases c2' : 512 < m
      · have d2 : decide (512 < m) = true := decide_eq_true c2'
        have HF := hide (HNO.out ((w2.setCell ⟨X, 0, none⟩ (.slice a2 n2 c2)).setCell ⟨X, 1, none⟩ (.bool false)) (by rw [HZ2.out, if_pos (.inr c2')]))
        have HBF := hide HRS.out.bel
        clear c1 c2'
        go_wp2
        go_ret2
        exact ⟨HF.out, HBF.out⟩
      have d2 : decide (512 < m) = false := decide_eq_false c2'
      have hZ3 := HZ2.out
      rw [if_neg (by omega)] at hZ3
      have HM5 : Hid (m ≤ 512) := by unfold Hid; omega
      have HM0 : Hid (0 ≤ m) := by unfold Hid; omega
      have HRL : Hid (RL w ((w2.setCell ⟨X, 0, none⟩ (.slice a2 n2 c2)).setCell ⟨X, 1, none⟩ (.bool false)) X (.slice a2 n2 c2) (.slice none 0 0) s1 rela fine m 513 O) :=
        ⟨HRS.out, HBB.out, by rw [HAD.out.2]; simp; omega, by rw [HAD.out.2]; simp; omega, hZ3⟩
      clear c1 c2' hZ3 HZ2 HZB HRS HNR HBB
      go_wp2_with fail
      generalize (w2.setCell ⟨X, 0, none⟩ (.slice a2 n2 c2)).setCell ⟨X, 1, none⟩ (.bool false) = w3 at *
      clear p0 p1 p2 p3 q0 q1 q2 q3 d1 d2
      go_loopw [10, 11, 12, 13, 14, 15, 16, 17, 18, 19] (fun v10 v11 v12 _ _ _ _ _ _ _ wr => ∃ (s : Ts) (vN : Value) (k : Nat), v10 = .int .i64 s.pl ∧ v12 = .int .i64 s.add ∧ Hid (RL w wr X vN v11 s rela fine m k O)) (fun _ v11 _ _ _ _ _ _ _ _ _ => 512 - slenR v11)
      case atStart => exact ⟨s1, _, 513, rfl, by rw [HAD.out.1], HRL⟩
      case round =>
        obtain ⟨s, vN, k, rfl, rfl, HL⟩ := hrel
        obtain ⟨oa, oc, hvo⟩ := HL.out.rd.own.form
        obtain ⟨L, hL⟩ : ∃ L, s.out.length = L := ⟨_, rfl⟩
        rw [hL] at hvo
        subst hvo
        have HLe := hide hL
        have HR := hide HL.out.rd
        obtain ⟨x1, x2, x3, hsl⟩ := HR.out.sl
        subst hsl
        obtain ⟨r0, r1, r2, r3⟩ := HR.out.cells
        clear hL
        by_cases hlt : (L : Int) < m
        · have hlt2 : (s.out.length : Int) < m := by rw [HLe.out]; exact hlt
          obtain ⟨k', hk'⟩ : ∃ k', k = k' + 1 := ⟨k - 1, by have := HL.out.fuel; omega⟩
          subst hk'
          have HBADX := hide (fun (hb : s.tl.tl.bad = true) => fin_next_bad rela fine m k' s hlt2 hb)
          have HNOX := hide (fun hn => fin_next_no rela fine m k' s hlt2 hn)
          have HNEX := hide (fun hn => run_next rela m k' s hlt2 hn)
          rw [HLe.out] at HNOX HNEX
          have HANS := hide HL.out.ans
          have HFU := hide HL.out.fuel
          have hL5 : (L : Int) ≤ 512 := by have := HM5.out; omega
          have hm5 := HM5.out
          have hm0 := HM0.out
          clear hlt2 HL
          go_wp2_with fail
          refine (rd_takeB _ _ _ _ _ _ _ _ rfl HR.out).mono ?_
          rintro e w2 ⟨⟨a2, n2, c2, rfl, hR2⟩, hR1⟩
          obtain ⟨p0, p1, p2, p3⟩ := hR1.cells
          obtain ⟨q0, q1, q2, q3⟩ := hR2.cells
          have HRn := hide hR2
          clear HR hR2 hR1
          have HR := HRn
          clear HRn
          clear r0 r1 r2 r3
          go_wp2_with fail
          generalize (w2.setCell ⟨X, 0, none⟩ (.slice a2 n2 c2)).setCell ⟨X, 1, none⟩ (.bool s.tl.bad) = w4 at *
          clear p0 p1 p2 p3 q0 q1 q2 q3
          refine (rd_takeB _ _ _ _ _ _ _ _ rfl HR.out).mono ?_
          rintro e w2 ⟨⟨a2, n2, c2, rfl, hR2⟩, hR1⟩
          obtain ⟨p0, p1, p2, p3⟩ := hR1.cells
          obtain ⟨q0, q1, q2, q3⟩ := hR2.cells
          have HRn := hide hR2
          clear HR hR2 hR1
          have HR := HRn
          clear HRn
          go_upto_region 15 with fail
          generalize (w2.setCell ⟨X, 0, none⟩ (.slice a2 n2 c2)).setCell ⟨X, 1, none⟩ (.bool s.tl.tl.bad) = w5 at *
          clear p0 p1 p2 p3
          obtain ⟨sz, hsz⟩ : ∃ x, s.hd = x := ⟨_, rfl⟩
          obtain ⟨f, hf⟩ : ∃ x, s.tl.hd = x := ⟨_, rfl⟩
          obtain ⟨s2, hs2⟩ : ∃ x, s.tl.tl = x := ⟨_, rfl⟩
          have HS2 : Hid (s2.out.length = L) := by rw [Hid, ← hs2]; exact HLe.out
          have HPS : Hid (s2.pl = s.pl ∧ s2.add = s.add) := by rw [Hid, ← hs2]; exact ⟨rfl, rfl⟩
          rw [hsz, hf] at HNOX
          rw [hsz, hf, hs2] at HNEX
          rw [hs2] at HBADX HR q1
          rw [hsz, hf]
          clear hsz hf hs2
          go_cut [118] from 75 to 209 (fun v118 wx => v118 = .bool (s2.bad || grpNoB rela (m - (L : Int)) sz f) ∧ ∃ v3, Hid (RD w wx X v3 (.slice oa L oc) s2 rela))
          case first => as_aux_lemma =>
            obtain ⟨bd, hbd⟩ : ∃ b, s2.bad = b := ⟨_, rfl⟩
            rw [hbd] at q1
            have HBX := hide hbd
            clear hbd
            have HDF : Hid (∀ b, grpNo rela (m - (L : Int)) sz f → b = true → Value.bool b = .bool (bd || grpNoB rela (m - (L : Int)) sz f)) := fun b hn e => by rw [e, (grpNoB_iff _ _ _ _).2 hn, Bool.or_true]
            cases bd with
            | true =>
              go_wp2
              go_meet
              case rel => exact ⟨by rw [HBX.out]; rfl, _, HR⟩
            | false =>
              by_cases c1 : sz < 1
              · have d1 : decide (sz < 1) = true := decide_eq_true c1
                have HF := hide (HDF.out true (.inl c1) rfl)
                clear c1
                go_wp2
                go_meet
                case rel => exact ⟨by rw [HBX.out]; exact HF.out, _, HR⟩
              have d1 : decide (sz < 1) = false := decide_eq_false c1
              by_cases c2' : m - (L : Int) < sz
              · have d2 : decide (m - (L : Int) < sz) = true := decide_eq_true c2'
                have HF := hide (HDF.out true (.inr (.inl c2')) rfl)
                clear c1 c2'
                go_wp2
                go_meet
                case rel => exact ⟨by rw [HBX.out]; exact HF.out, _, HR⟩
              have d2 : decide (m - (L : Int) < sz) = false := decide_eq_false c2'
              by_cases c3 : f < 0
              · have d3 : decide (f < 0) = true := decide_eq_true c3
                have HF := hide (HDF.out true (.inr (.inr (.inl c3))) rfl)
                clear c1 c2' c3
                go_wp2
                go_meet
                case rel => exact ⟨by rw [HBX.out]; exact HF.out, _, HR⟩
              have d3 : decide (f < 0) = false := decide_eq_false c3
              by_cases c4 : 15 < f
              · have d4 : decide (15 < f) = true := decide_eq_true c4
                have HF := hide (HDF.out true (.inr (.inr (.inr (.inl c4)))) rfl)
                clear c1 c2' c3 c4
                go_wp2
                go_meet
                case rel => exact ⟨by rw [HBX.out]; exact HF.out, _, HR⟩
              have d4 : decide (15 < f) = false := decide_eq_false c4
              have HH := hide (fun W => ref14_has W f 8 (by omega) (by omega) (by simp))
              have HCC : Hid (¬ (fb f 8 = true ∧ rela = false) → Value.bool false = .bool (false || grpNoB rela (m - (L : Int)) sz f)) := fun hn => by
                have : grpNoB rela (m - (L : Int)) sz f = false := by
                  cases hh : grpNoB rela (m - (L : Int)) sz f with
                  | false => rfl
                  | true =>
                    rcases (grpNoB_iff _ _ _ _).1 hh with e | e | e | e | e
                    · exact absurd e c1
                    · exact absurd e c2'
                    · exact absurd e c3
                    · exact absurd e c4
                    · exact absurd e hn
                rw [this]; rfl
              clear c1 c2' c3 c4
              obtain ⟨b8, hb8⟩ : ∃ b, fb f 8 = b := ⟨_, rfl⟩
              rw [hb8] at HH HCC
              have HE8 := hide hb8
              clear hb8
              cases b8 with
              | false =>
                have HF := hide (HCC.out (fun e => by cases e.1))
                go_wp2_with (go_at_call 20; refine (HH.out _).mono ?_; rintro e w9 ⟨rfl, hw9⟩; rw [← hw9]; clear hw9)
                go_meet
                case rel => exact ⟨by rw [HBX.out]; exact HF.out, _, HR⟩
              | true =>
                cases rela with
                | false =>
                  have HF := hide (HDF.out true (.inr (.inr (.inr (.inr ⟨HE8.out, rfl⟩)))) rfl)
                  go_wp2_with (go_at_call 20; refine (HH.out _).mono ?_; rintro e w9 ⟨rfl, hw9⟩; rw [← hw9]; clear hw9)
                  go_meet
                  case rel => exact ⟨by rw [HBX.out]; exact HF.out, _, HR⟩
                | true =>
                  have HF := hide (HCC.out (fun e => by cases e.2))
                  go_wp2_with (go_at_call 20; refine (HH.out _).mono ?_; rintro e w9 ⟨rfl, hw9⟩; rw [← hw9]; clear hw9)
                  go_meet
                  case rel => exact ⟨by rw [HBX.out]; exact HF.out, _, HR⟩
          case rest =>
            obtain ⟨rfl, v3, HRn⟩ := hcut
            clear HR q0 q1 q2 q3
            have HR := HRn
            clear HRn
            obtain ⟨bd, hbd⟩ : ∃ b, s2.bad = b := ⟨_, rfl⟩
            rw [hbd] at HBADX ⊢
            by_cases hN : bd = true ∨ grpNo rela (m - (L : Int)) sz f
            · have hb : (bd || grpNoB rela (m - (L : Int)) sz f) = true := by
                rcases hN with e | e
                · rw [e]; rfl
                · rw [(grpNoB_iff _ _ _ _).2 e, Bool.or_true]
              have hO : O = none := by
                rw [HANS.out]
                rcases hN with e | e
                · exact HBADX.out e
                · exact HNOX.out e
              have HF := hide (HNO.out wc hO)
              have HBF := hide HR.out.bel
              rw [hb]
              clear hN hb hO
              go_wp2
              go_ret2
              exact ⟨HF.out, HBF.out⟩
            · have hbf : bd = false := by cases bd with | false => rfl | true => exact absurd (.inl rfl) hN
              have hgn : ¬ grpNo rela (m - (L : Int)) sz f := fun e => hN (.inr e)
              have hgb : grpNoB rela (m - (L : Int)) sz f = false := by
                cases hh : grpNoB rela (m - (L : Int)) sz f with
                | false => rfl
                | true => exact absurd ((grpNoB_iff _ _ _ _).1 hh) hgn
              rw [hgb, hbf]
              have hf0 : 0 ≤ f := Classical.byContradiction fun c => hgn (.inr (.inr (.inl (by omega))))
              have hf1 : f ≤ 15 := Classical.byContradiction fun c => hgn (.inr (.inr (.inr (.inl (by omega)))))
              have hz1 : 1 ≤ sz := Classical.byContradiction fun c => hgn (.inl (by omega))
              have hzl : sz ≤ m - (L : Int) := Classical.byContradiction fun c => hgn (.inr (.inl (by omega)))
              have HANS2 : Hid (O = finT fine (runT rela m k' (grpIn rela f sz.toNat s2))) := by rw [Hid, HANS.out, HNEX.out hgn]
              have HFL := hide (no_flag hgn)
              have HH := hide (fun W b hb => ref14_has W f b hf0 hf1 hb)
              have HZ1 := hide hz1
              have HZL := hide hzl
              clear hN hbf hgn hgb hbd HBADX HNOX HNEX HANS hf0 hf1 hz1 hzl
              have HSA : Hid (s2.good rela) := HR.out.good
              obtain ⟨b2, hb2⟩ : ∃ b, fb f 2 = b := ⟨_, rfl⟩
              obtain ⟨b1, hb1⟩ : ∃ b, fb f 1 = b := ⟨_, rfl⟩
              obtain ⟨b8, hb8⟩ : ∃ b, fb f 8 = b := ⟨_, rfl⟩
              obtain ⟨b4, hb4⟩ : ∃ b, fb f 4 = b := ⟨_, rfl⟩
              have H2 := hide (fun W => HH.out W 2 (by simp))
              have H1 := hide (fun W => HH.out W 1 (by simp))
              have H8 := hide (fun W => HH.out W 8 (by simp))
              have H4 := hide (fun W => HH.out W 4 (by simp))
              rw [hb2] at H2
              rw [hb1] at H1
              rw [hb8] at H8
              rw [hb4] at H4
              have HGI : Hid (grpIn rela f sz.toNat s2 = relN rela f (tkN b2 0 s2) (tkN b1 0 (tkS b2 s2)) sz.toNat (if b8 = true then tkA b4 (tkS b1 (tkS b2 s2)) else (tkS b1 (tkS b2 s2)).setAdd 0)) := by
                unfold Hid grpIn grpC; rw [hb8, hb2, hb1, hb4]
              rw [HGI.out] at HANS2
              have HRT : Hid (∀ st inf x, relT rela f st inf x = relD rela (tkN (!b2) st x) (tkN (!b1) inf (tkS (!b2) x)) (tkA (b8 && !b4) (tkS (!b1) (tkS (!b2) x)))) := fun st inf x => by
                unfold relT; rw [hb8, hb2, hb1, hb4]
              rw [hb8] at HFL
              clear hb2 hb1 hb8 hb4 HH HGI
              obtain ⟨x1, x2, x3, hsl⟩ := HR.out.sl
              subst hsl
              obtain ⟨r0, r1, r2, r3⟩ := HR.out.cells
              go_upto_if 120 with (go_at_call 20; refine (H2.out _).mono ?_; rintro e w9 ⟨rfl, hw9⟩; rw [← hw9]; clear hw9)
              go_cut [15] from 119 to 209 (fun vq wx => vq = .int .i64 (tkN b2 0 s2) ∧ ∃ v3, Hid (RD w wx X v3 (.slice oa L oc) (tkS b2 s2) rela))
              case first => as_aux_lemma =>
                cases b2 with
                | false =>
                  go_wp2
                  go_meet
                  case rel => exact ⟨rfl, _, HR⟩
                | true =>
                  go_wp2_with fail
                  refine (rd_takeB _ _ _ _ _ _ _ _ rfl HR.out).mono ?_
                  rintro e w2 ⟨⟨a2, n2, c2, rfl, hR2⟩, hR1⟩
                  obtain ⟨p0, p1, p2, p3⟩ := hR1.cells
                  obtain ⟨q0, q1, q2, q3⟩ := hR2.cells
                  have HRn := hide hR2
                  clear HR hR2 hR1
                  have HR := HRn
                  clear HRn
                  go_wp2
                  go_meet
                  case rel => exact ⟨rfl, _, HR⟩
              case rest =>
                obtain ⟨rfl, v3, HRn⟩ := hcut
                clear HR r0 r1 r2 r3
                have HR := HRn
                clear HRn
                obtain ⟨s3, hs3⟩ : ∃ x, tkS b2 s2 = x := ⟨_, rfl⟩
                obtain ⟨st, hst⟩ : ∃ x, tkN b2 0 s2 = x := ⟨_, rfl⟩
                rw [hs3, hst] at HANS2
                rw [hs3] at HR
                rw [hst]
                have HP3 : Hid (s3.pl = s2.pl ∧ s3.add = s2.add ∧ s3.out = s2.out) := by rw [Hid, ← hs3]; unfold tkS; split <;> exact ⟨rfl, rfl, rfl⟩
                clear hs3 hst
                obtain ⟨x1, x2, x3, hsl⟩ := HR.out.sl
                subst hsl
                obtain ⟨r0, r1, r2, r3⟩ := HR.out.cells
                go_upto_if 127 with (go_at_call 20; refine (H1.out _).mono ?_; rintro e w9 ⟨rfl, hw9⟩; rw [← hw9]; clear hw9)
                go_cut [16] from 119 to 209 (fun vq wx => vq = .int .i64 (tkN b1 0 s3) ∧ ∃ v3, Hid (RD w wx X v3 (.slice oa L oc) (tkS b1 s3) rela))
                case first => as_aux_lemma =>
                  cases b1 with
                  | false =>
                    go_wp2
                    go_meet
                    case rel => exact ⟨rfl, _, HR⟩
                  | true =>
                    go_wp2_with fail
                    refine (rd_takeB _ _ _ _ _ _ _ _ rfl HR.out).mono ?_
                    rintro e w2 ⟨⟨a2, n2, c2, rfl, hR2⟩, hR1⟩
                    obtain ⟨p0, p1, p2, p3⟩ := hR1.cells
                    obtain ⟨q0, q1, q2, q3⟩ := hR2.cells
                    have HRn := hide hR2
                    clear HR hR2 hR1
                    have HR := HRn
                    clear HRn
                    go_wp2
                    go_meet
                    case rel => exact ⟨rfl, _, HR⟩
                case rest =>
                  obtain ⟨rfl, v3, HRn⟩ := hcut
                  clear HR r0 r1 r2 r3
                  have HR := HRn
                  clear HRn
                  obtain ⟨s4, hs4⟩ : ∃ x, tkS b1 s3 = x := ⟨_, rfl⟩
                  obtain ⟨inf, hinf⟩ : ∃ x, tkN b1 0 s3 = x := ⟨_, rfl⟩
                  rw [hs4, hinf] at HANS2
                  rw [hs4] at HR
                  rw [hinf]
                  have HP4 : Hid (s4.pl = s2.pl ∧ s4.add = s2.add ∧ s4.out = s2.out) := by
                    rw [Hid, ← hs4]; unfold tkS; split <;> exact HP3.out
                  clear hs4 hinf
                  have HS24 : Hid (s.pl = s4.pl ∧ s.add = s4.add) := ⟨HPS.out.1.symm.trans HP4.out.1.symm |>.trans rfl, HPS.out.2.symm.trans HP4.out.2.1.symm |>.trans rfl⟩
                  rw [HS24.out.1, HS24.out.2]
                  have HO4 : Hid (s4.out.length = L) := by rw [Hid, HP4.out.2.2]; exact HS2.out
                  clear HP3 HP4 HS24
                  obtain ⟨x1, x2, x3, hsl⟩ := HR.out.sl
                  subst hsl
                  obtain ⟨r0, r1, r2, r3⟩ := HR.out.cells
                  go_upto_region 22 with fail
                  go_cut [138] from 119 to 209 (fun vq wx => vq = .bool (b8 && b4) ∧ Hid (wx = wc))
                  case first => as_aux_lemma =>
                    cases b8 with
                    | false =>
                      go_wp2_with (go_at_call 20; refine (H8.out _).mono ?_; rintro e w9 ⟨rfl, hw9⟩; rw [← hw9]; clear hw9)
                      go_meet
                      case rel => exact ⟨rfl, rfl⟩
                    | true =>
                      go_wp2_with (first | (go_at_call 20; refine (H8.out _).mono ?_; rintro e w9 ⟨rfl, hw9⟩; rw [← hw9]; clear hw9) | (go_at_call 20; refine (H4.out _).mono ?_; rintro e w9 ⟨rfl, hw9⟩; rw [← hw9]; clear hw9))
                      go_meet
                      case rel => exact ⟨rfl, rfl⟩
                  case rest =>
                    obtain ⟨rfl, hE⟩ := hcut
                    have hE2 := hE.out
                    subst hE2
                    clear hE
                    have HB84 : Hid ((b8 && b4) = true → rela = true) := fun e => HFL.out (by cases b8 <;> simp_all)
                    obtain ⟨bq, hbq⟩ : ∃ b, (b8 && b4) = b := ⟨_, rfl⟩
                    rw [hbq] at HB84 ⊢
                    have HBQ := hide hbq
                    clear hbq
                    go_upto_if 138 with fail
                    go_cut [12, 17] from 139 to 209 (fun vq _ wx => vq = .int .i64 (tkA bq s4).add ∧ ∃ v3, Hid (RD w wx X v3 (.slice oa L oc) (tkA bq s4) rela))
                    case first => as_aux_lemma =>
                      cases bq with
                      | false =>
                        go_wp2
                        go_meet
                        case rel => exact ⟨rfl, _, HR⟩
                      | true =>
                        have HG4 := hide HR.out.good
                        go_wp2_with fail
                        refine (rd_takeB _ _ _ _ _ _ _ _ rfl HR.out).mono ?_
                        rintro e w2 ⟨⟨a2, n2, c2, rfl, hR2⟩, hR1⟩
                        obtain ⟨p0, p1, p2, p3⟩ := hR1.cells
                        obtain ⟨q0, q1, q2, q3⟩ := hR2.cells
                        have HRn := hide hR2
                        clear HR hR2 hR1
                        have HR := HRn
                        clear HRn
                        have HRz := hide (HR.out.with (s' := tkA true s4) rfl rfl rfl (HG4.out.tkA true (fun _ => HB84.out (by first | rfl | trivial))))
                        go_wp2
                        go_meet
                        case rel => exact ⟨rfl, _, HRz⟩
                    case rest =>
                      obtain ⟨rfl, v3, HRn⟩ := hcut
                      clear HR r0 r1 r2 r3
                      have HR := HRn
                      clear HRn
                      obtain ⟨x1, x2, x3, hsl⟩ := HR.out.sl
                      subst hsl
                      obtain ⟨r0, r1, r2, r3⟩ := HR.out.cells
                      go_upto_if 149 with (go_at_call 20; refine (H8.out _).mono ?_; rintro e w9 ⟨rfl, hw9⟩; rw [← hw9]; clear hw9)
                      go_cut [12] from 147 to 209 (fun vq wx => vq = .int .i64 (if b8 = true then tkA b4 s4 else s4.setAdd 0).add ∧ ∃ v3, Hid (RD w wx X v3 (.slice oa L oc) (if b8 = true then tkA b4 s4 else s4.setAdd 0) rela))
                      case first => as_aux_lemma =>
                        have hq := HBQ.out
                        cases b8 with
                        | false =>
                          have hq2 : bq = false := hq.symm
                          subst hq2
                          have HG4 := hide HR.out.good
                          have HRz := hide (HR.out.with (s' := s4.setAdd 0) rfl rfl rfl ⟨HG4.out.num, i64r_zero, HG4.out.pl, fun _ => rfl, HG4.out.out⟩)
                          clear hq HBQ
                          go_wp2
                          go_meet
                          case rel => exact ⟨rfl, _, HRz⟩
                        | true =>
                          have hq2 : bq = b4 := hq.symm
                          subst hq2
                          clear hq HBQ
                          go_wp2
                          go_meet
                          case rel => exact ⟨rfl, _, HR⟩
                      case rest =>
                        obtain ⟨rfl, v3, HRn⟩ := hcut
                        clear HR r0 r1 r2 r3
                        have HR := HRn
                        clear HRn
                        obtain ⟨s6, hs6⟩ : ∃ x, (if b8 = true then tkA b4 s4 else s4.setAdd 0) = x := ⟨_, rfl⟩
                        rw [hs6] at HANS2 HR ⊢
                        have HP6 : Hid (s6.pl = s4.pl ∧ s6.out.length = L) := by
                          rw [Hid, ← hs6]
                          split
                          · unfold tkA; split <;> exact ⟨rfl, HO4.out⟩
                          · exact ⟨rfl, HO4.out⟩
                        rw [← HP6.out.1]
                        have HF8 : Hid ((b8 && !b4) = true → rela = true) := fun e => HFL.out (by cases b8 <;> simp_all)
                        have HF8' := hide HFL.out
                        clear hs6 HBQ HB84
                        obtain ⟨M, hM⟩ : ∃ M : Nat, sz = M := ⟨sz.toNat, by have := HZ1.out; omega⟩
                        subst hM
                        have hM5 : M ≤ 512 := by have := HZL.out; have := HM5.out; omega
                        have HM55 := hide hM5
                        rw [Int.toNat_natCast] at HANS2
                        clear hM5
                        go_wp2_with fail
                        go_loopw [10, 11, 12, 15, 16, 17, 18, 19] (fun v10 v11 v12 v15 v16 _ v18 _ wr => ∃ (i : Nat) (sx : Ts) (v3 : Value), i ≤ M ∧ v18 = .int .i64 (i : Int) ∧ v10 = .int .i64 sx.pl ∧ v12 = .int .i64 sx.add ∧ Hid (b2 = true → v15 = .int .i64 st) ∧ Hid (b1 = true → v16 = .int .i64 inf) ∧ Hid (sx = relN rela f st inf i s6) ∧ Hid (RD w wr X v3 v11 sx rela)) (fun _ _ _ _ _ _ v18 _ _ => M - (intOf v18).toNat)
                        case atStart => exact ⟨0, s6, v3, by omega, rfl, rfl, rfl, fun _ => rfl, fun _ => rfl, rfl, HR⟩
                        case round =>
                          obtain ⟨i, sx, v4, hi, rfl, rfl, rfl, H15, H16, HSX, HRn⟩ := hrel
                          clear HR
                          have HR := HRn
                          clear HRn
                          obtain ⟨ob, od, hvo⟩ := HR.out.own.form
                          obtain ⟨L2, hL2⟩ : ∃ x, sx.out.length = x := ⟨_, rfl⟩
                          rw [hL2] at hvo
                          subst hvo
                          have HL2 := hide hL2
                          clear hL2
                          obtain ⟨x1, x2, x3, hsl⟩ := HR.out.sl
                          subst hsl
                          obtain ⟨r0, r1, r2, r3⟩ := HR.out.cells
                          by_cases hin : i < M
                          · have hinI : (i : Int) < (M : Int) := by omega
                            have hi5 : (i : Int) ≤ 512 := by have := HM55.out; omega
                            have HSLen : Hid (sx.out.length ≤ 1024) := by
                              rw [Hid, HSX.out, relN_len, HP6.out.2]; have := HM55.out; have := HM5.out; have := hL5; omega
                            go_upto_if 157 with (go_at_call 20; refine (H2.out _).mono ?_; rintro e w9 ⟨rfl, hw9⟩; rw [← hw9]; clear hw9)
                            go_cut [15] from 150 to 207 (fun vq wx => vq = .int .i64 (tkN (!b2) st sx) ∧ ∃ v3, Hid (RD w wx X v3 (.slice ob L2 od) (tkS (!b2) sx) rela))
                            case first => as_aux_lemma =>
                              cases b2 with
                              | true =>
                                go_wp2
                                go_meet
                                case rel => exact ⟨H15.out (by first | rfl | trivial), _, HR⟩
                              | false =>
                                go_wp2_with fail
                                refine (rd_takeB _ _ _ _ _ _ _ _ rfl HR.out).mono ?_
                                rintro e w2 ⟨⟨a2, n2, c2, rfl, hR2⟩, hR1⟩
                                obtain ⟨p0, p1, p2, p3⟩ := hR1.cells
                                obtain ⟨q0, q1, q2, q3⟩ := hR2.cells
                                have HRn := hide hR2
                                clear HR hR2 hR1
                                have HR := HRn
                                clear HRn
                                go_wp2
                                go_meet
                                case rel => exact ⟨rfl, _, HR⟩
                            case rest =>
                              obtain ⟨rfl, v5, HRn⟩ := hcut
                              clear HR r0 r1 r2 r3
                              have HR := HRn
                              clear HRn
                              obtain ⟨z1, hz1⟩ : ∃ x, tkS (!b2) sx = x := ⟨_, rfl⟩
                              obtain ⟨y1, hy1⟩ : ∃ x, tkN (!b2) st sx = x := ⟨_, rfl⟩
                              have HRT1 := hide (HRT.out st inf sx)
                              have HY1 : Hid (b2 = true → y1 = st) := fun e => by rw [← hy1, e]; rfl
                              have HPZ1 : Hid (z1.pl = sx.pl ∧ z1.add = sx.add ∧ z1.out = sx.out) := by rw [Hid, ← hz1]; unfold tkS; split <;> exact ⟨rfl, rfl, rfl⟩
                              rw [hz1, hy1] at HRT1
                              rw [hz1] at HR
                              rw [hy1]
                              clear hz1 hy1 H15
                              obtain ⟨x1, x2, x3, hsl⟩ := HR.out.sl
                              subst hsl
                              obtain ⟨r0, r1, r2, r3⟩ := HR.out.cells
                              go_upto_if 165 with (go_at_call 20; refine (H1.out _).mono ?_; rintro e w9 ⟨rfl, hw9⟩; rw [← hw9]; clear hw9)
                              go_cut [16] from 150 to 207 (fun vq wx => vq = .int .i64 (tkN (!b1) inf z1) ∧ ∃ v3, Hid (RD w wx X v3 (.slice ob L2 od) (tkS (!b1) z1) rela))
                              case first => as_aux_lemma =>
                                cases b1 with
                                | true =>
                                  go_wp2
                                  go_meet
                                  case rel => exact ⟨H16.out (by first | rfl | trivial), _, HR⟩
                                | false =>
                                  go_wp2_with fail
                                  refine (rd_takeB _ _ _ _ _ _ _ _ rfl HR.out).mono ?_
                                  rintro e w2 ⟨⟨a2, n2, c2, rfl, hR2⟩, hR1⟩
                                  obtain ⟨p0, p1, p2, p3⟩ := hR1.cells
                                  obtain ⟨q0, q1, q2, q3⟩ := hR2.cells
                                  have HRn := hide hR2
                                  clear HR hR2 hR1
                                  have HR := HRn
                                  clear HRn
                                  go_wp2
                                  go_meet
                                  case rel => exact ⟨rfl, _, HR⟩
                              case rest =>
                                obtain ⟨rfl, v5, HRn⟩ := hcut
                                clear HR r0 r1 r2 r3
                                have HR := HRn
                                clear HRn
                                obtain ⟨z2, hz2⟩ : ∃ x, tkS (!b1) z1 = x := ⟨_, rfl⟩
                                obtain ⟨y2, hy2⟩ : ∃ x, tkN (!b1) inf z1 = x := ⟨_, rfl⟩
                                have HY2 : Hid (b1 = true → y2 = inf) := fun e => by rw [← hy2, e]; rfl
                                have HPZ2 : Hid (z2.pl = sx.pl ∧ z2.add = sx.add ∧ z2.out = sx.out) := by rw [Hid, ← hz2]; unfold tkS; split <;> exact HPZ1.out
                                rw [hz2, hy2] at HRT1
                                rw [hz2] at HR
                                rw [hy2]
                                clear hz2 hy2 H16 HPZ1
                                obtain ⟨x1, x2, x3, hsl⟩ := HR.out.sl
                                subst hsl
                                obtain ⟨r0, r1, r2, r3⟩ := HR.out.cells
                                go_upto_region 34 with fail
                                go_cut [177] from 150 to 207 (fun vq wx => vq = .bool (b8 && !b4) ∧ Hid (wx = wc))
                                case first => as_aux_lemma =>
                                  cases b8 with
                                  | false =>
                                    go_wp2_with (go_at_call 20; refine (H8.out _).mono ?_; rintro e w9 ⟨rfl, hw9⟩; rw [← hw9]; clear hw9)
                                    go_meet
                                    case rel => exact ⟨rfl, rfl⟩
                                  | true =>
                                    go_wp2_with (first | (go_at_call 20; refine (H8.out _).mono ?_; rintro e w9 ⟨rfl, hw9⟩; rw [← hw9]; clear hw9) | (go_at_call 20; refine (H4.out _).mono ?_; rintro e w9 ⟨rfl, hw9⟩; rw [← hw9]; clear hw9))
                                    go_meet
                                    case rel => exact ⟨rfl, rfl⟩
                                case rest =>
                                  obtain ⟨rfl, hE⟩ := hcut
                                  have hE2 := hE.out
                                  subst hE2
                                  clear hE
                                  obtain ⟨bz, hbz⟩ : ∃ b, (b8 && !b4) = b := ⟨_, rfl⟩
                                  have HBZ : Hid (bz = true → rela = true) := by rw [← hbz]; exact HF8
                                  rw [hbz] at HRT1 ⊢
                                  clear hbz
                                  rw [← HPZ2.out.2.1]
                                  go_upto_if 177 with fail
                                  go_cut [12, 17] from 150 to 207 (fun vq _ wx => vq = .int .i64 (tkA bz z2).add ∧ ∃ v3, Hid (RD w wx X v3 (.slice ob L2 od) (tkA bz z2) rela))
                                  case first => as_aux_lemma =>
                                    cases bz with
                                    | false =>
                                      go_wp2
                                      go_meet
                                      case rel => exact ⟨rfl, _, HR⟩
                                    | true =>
                                      have HG4 := hide HR.out.good
                                      go_wp2_with fail
                                      refine (rd_takeB _ _ _ _ _ _ _ _ rfl HR.out).mono ?_
                                      rintro e w2 ⟨⟨a2, n2, c2, rfl, hR2⟩, hR1⟩
                                      obtain ⟨p0, p1, p2, p3⟩ := hR1.cells
                                      obtain ⟨q0, q1, q2, q3⟩ := hR2.cells
                                      have HRn := hide hR2
                                      clear HR hR2 hR1
                                      have HR := HRn
                                      clear HRn
                                      have HRz := hide (HR.out.with (s' := tkA true z2) rfl rfl rfl (HG4.out.tkA true (fun _ => HBZ.out (by first | rfl | trivial))))
                                      go_wp2
                                      go_meet
                                      case rel => exact ⟨rfl, _, HRz⟩
                                  case rest =>
                                    obtain ⟨rfl, v6, HRn⟩ := hcut
                                    clear HR r0 r1 r2 r3
                                    have HR := HRn
                                    clear HRn
                                    obtain ⟨z3, hz3⟩ : ∃ x, tkA bz z2 = x := ⟨_, rfl⟩
                                    have HPZ3 : Hid (z3.pl = sx.pl ∧ z3.out = sx.out) := by rw [Hid, ← hz3]; unfold tkA; split <;> exact ⟨HPZ2.out.1, HPZ2.out.2.2⟩
                                    rw [hz3] at HR HRT1 ⊢
                                    clear hz3 HPZ2
                                    obtain ⟨P, hP⟩ : ∃ p, w64 (z3.pl + y1) = p := ⟨_, rfl⟩
                                    have hRT2 : relT rela f st inf sx = ⟨z3.N, z3.bad, P, z3.add, z3.out ++ [mkR rela P y2 z3.add]⟩ := by rw [HRT1.out, ← hP]; rfl
                                    have HRT2 := hide hRT2
                                    have hP2 : wrap64 (sx.pl + y1) = P := by rw [← HPZ3.out.1]; exact hP
                                    have hP3 : IntKind.i64.wrap (sx.pl + y1) = P := by rw [i64_w64]; exact hP2
                                    have HGD : Hid ((relT rela f st inf sx).good rela) := by
                                      rw [hRT2]
                                      refine ⟨HR.out.good.num, HR.out.good.add, by rw [← hP]; exact w64_bd _, HR.out.good.no, fun r hr => ?_⟩
                                      simp only [List.mem_append, List.mem_singleton] at hr
                                      rcases hr with hr | rfl
                                      · exact HR.out.good.out r hr
                                      · exact ⟨mkR_ok _ _ _ _ HR.out.good.add, rfl, HR.out.good.no⟩
                                    have e1 : IntKind.u64.wrap P = ((us P : Nat) : Int) := (us_is P).symm
                                    have e2 : IntKind.u64.wrap y2 = ((us y2 : Nat) : Int) := (us_is y2).symm
                                    have e3 : ((us y2 : Nat) : Int) % 4294967296 = ((lowT y2 : Nat) : Int) := by unfold lowT; omega
                                    have e4 : ((us y2 : Nat) : Int) / 4294967296 = ((highT y2 : Nat) : Int) := by unfold highT; omega
                                    have e5 : IntKind.u32.wrap ((lowT y2 : Nat) : Int) = ((lowT y2 : Nat) : Int) := by rw [IntKind.wrap_u32]; unfold lowT; omega
                                    have e6 : IntKind.u32.wrap ((highT y2 : Nat) : Int) = ((highT y2 : Nat) : Int) := by have := us_lt y2; rw [IntKind.wrap_u32]; unfold highT; omega
                                    have e7 : ((us y2 : Nat) : Int) ≤ 18446744073709551615 := by have := us_lt y2; omega
                                    have HOW : Hid (∀ o, OwnR (wc.alloc o) (X + 1) (.slice ob L2 od) z3.out) := fun o => HR.out.own.stay (below1 _ _)
                                    have HXS : Hid (∀ o, X + 1 ≤ (wc.alloc o).heap.size) := fun o => by have := HR.out.size; have := (below1 wc o).size; omega
                                    have HLE3 : Hid (z3.out.length ≤ 1000000) := by rw [Hid, HPZ3.out.2]; have := HSLen.out; omega
                                    have HPU := hide (fun W5 v9 o hO hB => RD.push (w5 := W5) (v5 := v9) (s' := relT rela f st inf sx) (e := mkR rela P y2 z3.add) HR.out (below1 wc o) hO hB (by rw [hRT2]) (by rw [hRT2]) (by rw [hRT2]) HGD.out)
                                    have HNOA : Hid (rela = false → z3.add = 0) := HR.out.good.no
                                    clear hRT2 hP HGD HRT1
                                    cases rela with
                                    | true =>
                                      go_wp2_with (at_builtin; refine append_rl rfl _ _ rfl (X + 1) _ _ z3.out (HOW.out _) (mkR true P y2 z3.add) rfl _ (by simp) rfl HLE3.out (HXS.out _) ?_)
                                      intro v9 w9 o9 hb9
                                      have HRN := hide (HPU.out w9 v9 _ o9 hb9)
                                      clear o9 hb9
                                      go_wp2
                                      go_roundw
                                      case rel => exact ⟨i + 1, relT true f st inf sx, v6, by omega, by go_num, by rw [HRT2.out], by rw [HRT2.out], fun e => by rw [HY1.out e], fun e => by rw [HY2.out e], by rw [Hid, HSX.out]; rfl, HRN⟩
                                      case measure => simp [intOf]; omega
                                    | false =>
                                      have h0 := HNOA.out rfl
                                      rw [h0] at HPU HRT2 ⊢
                                      go_wp2_with (at_builtin; refine append_rl rfl _ _ rfl (X + 1) _ _ z3.out (HOW.out _) (mkR false P y2 0) rfl _ (by simp) rfl HLE3.out (HXS.out _) ?_)
                                      intro v9 w9 o9 hb9
                                      have HRN := hide (HPU.out w9 v9 _ o9 hb9)
                                      clear o9 hb9
                                      go_wp2
                                      go_roundw
                                      case rel => exact ⟨i + 1, relT false f st inf sx, v6, by omega, by go_num, by rw [HRT2.out], by rw [HRT2.out], fun e => by rw [HY1.out e], fun e => by rw [HY2.out e], by rw [Hid, HSX.out]; rfl, HRN⟩
                                      case measure => simp [intOf]; omega
                          · have hinN : decide (i < M) = false := decide_eq_false hin
                            have hinI : decide ((i : Int) < (M : Int)) = false := decide_eq_false (by omega)
                            have hiM : i = M := by omega
                            rw [hiM] at HSX
                            have HLM : Hid (L2 = L + M) := by rw [Hid, ← HL2.out, HSX.out, relN_len, HP6.out.2]
                            have HA3 : Hid (O = finT fine (runT rela m k' sx)) := by rw [HSX.out]; exact HANS2.out
                            clear hin hiM HSX
                            obtain ⟨bx, hbx⟩ : ∃ b, sx.bad = b := ⟨_, rfl⟩
                            rw [hbx] at r1
                            cases bx with
                            | true =>
                              have HF := hide (HNO.out wr (by rw [HA3.out]; exact fin_bad _ _ _ _ _ hbx))
                              have HBF := hide HR.out.bel
                              clear hbx
                              go_wp2
                              go_ret2
                              exact ⟨HF.out, HBF.out⟩
                            | false =>
                              have HRL2 : Hid (RL w wr X (.slice x1 x2 x3) (.slice ob L2 od) sx rela fine m k' O) :=
                                ⟨HR.out, hbx, by rw [HL2.out]; have := HLM.out; have := HFU.out; have := HLe.out; have := HZ1.out; omega, by rw [HL2.out]; have := HLM.out; have := HZL.out; omega, HA3.out⟩
                              have hms : L2 ≤ 512 ∧ L < L2 := by have := HLM.out; have := HZL.out; have := HZ1.out; omega
                              clear hbx
                              go_wp2
                              go_roundw
                              case rel => exact ⟨sx, _, k', rfl, rfl, HRL2⟩
                              case measure => simp [slenR]; omega
        · have hltN : decide ((L : Int) < m) = false := decide_eq_false hlt
          have hend : runT rela m k s = some s := run_end rela m k s (by rw [HLe.out]; omega)
          have hans := HL.out.ans
          rw [hend] at hans
          have HANS := hide hans
          have HOKB := hide HL.out.ok
          have HBE := hide HR.out.bel
          have HYS : Hid (O = some s.out → ApsIs w O (.returned (.tuple #[.slice oa L oc, .int .i64 0])) wr) := fun e => by
            rw [e]; exact ⟨_, rfl, HR.out.own.low (by have := HR.out.lo; omega)⟩
          have hx2 : x2 = s.N.length := by
            obtain ⟨a', cap', e, _⟩ := HR.out.arg
            injection e with _ e _
          have HX2 := hide hx2
          clear hend hans hlt HL hx2
          by_cases hc : 0 < x2
          · have hcI : (0 : Int) < (x2 : Int) := by omega
            have HF := hide (HNO.out wr (by
              rw [HANS.out]
              have : s.N.isEmpty = false := by
                cases hh : s.N with
                | nil => have := HX2.out; rw [hh] at this; simp at this; omega
                | cons y ys => rfl
              unfold finT
              rw [Option.bind_some, if_pos (.inr (.inl this))]))
            clear hc
            go_wp2
            go_ret2
            exact ⟨HF.out, HBE.out⟩
          · have hcI : decide ((0 : Int) < (x2 : Int)) = false := decide_eq_false (by omega)
            have hcN : decide (0 < x2) = false := decide_eq_false hc
            have hemp : s.N.isEmpty = true := by
              rw [List.isEmpty_iff]; exact List.length_eq_zero_iff.1 (by have := HX2.out; omega)
            cases fine with
            | false =>
              have HF := hide (HNO.out wr (by rw [HANS.out]; unfold finT; rw [Option.bind_some, if_pos (.inr (.inr rfl))]))
              clear hc hemp
              go_wp2
              go_ret2
              exact ⟨HF.out, HBE.out⟩
            | true =>
              have HF := hide (HYS.out (by
                rw [HANS.out]; unfold finT
                rw [Option.bind_some, if_neg]
                rintro (h | h | h)
                · rw [HOKB.out] at h; cases h
                · rw [hemp] at h; cases h
                · cases h))
              clear hc hemp
              go_wp2
              go_ret2
              exact ⟨HF.out, HBE.out⟩
end Go.Proofs.Ythbikbeedopbcaa
