
/-
  Layer 13 (relr): Encode.
-/
import Derived.Test.YtkelipoiopkokaaDoorRrH
set_option linter.unusedVariables false
namespace Go.Proofs.YtkelipoiopkokaaDoor
open Go.RowKit Go.PlainAid Go.Sort
theorem relrE_no {l : List Nat} (h : ¬ (l.length ≤ 512 ∧ fitP 0 l = true)) : relrE l = none := by unfold relrE; rw [if_neg h]
theorem relrE_yes {l : List Nat} (h : l.length ≤ 512) (h2 : fitP 0 l = true) : relrE l = some (flatW (encW l)) := by unfold relrE; rw [if_pos ⟨h, h2⟩]
/-- How many words there are at most, told of a part of them. -/
theorem part_len {l dn rest : List Nat} (h : dn ++ rest = encW l) (hl : l.length ≤ 512) : dn.length ≤ 512 := by
  have h1 := encW_len l
  rw [← h, List.length_append] at h1
  omega
theorem flat_ok {l dn rest : List Nat} (h : dn ++ rest = encW l) (hl : l.length ≤ 512) : (flatW dn).length ≤ 900000000 := by
  have := part_len h hl
  rw [flatW_len]; omega
set_option maxHeartbeats 4000000 in
set_option maxRecDepth 20000 in
theorem relr_Encode (w : World) (v : Value) (l : List Nat) (h : ArgN w v l) (hl : l.length ≤ 1000000) :
    Calls Tryd.prog 9 #[v] w fun e w' => EnrIs w' w.heap.size (relrE l) e ∧ Below w.heap.size w w' := by
  obtain ⟨a, cap, rfl, p1, p2⟩ := h.form
  have HA := hide h
  have hFit := relr_fit w _ l h
  have HB : Hid (Below w.heap.size w w) := Below.refl _ _
  have HNew := hide (le_New w)
  obtain ⟨O, hO⟩ : ∃ O, relrE l = O := ⟨_, rfl⟩
  have HO := hide hO
  rw [hO]
  clear h hO
  by_cases hlen : 512 < l.length
  · have HF : Hid (O = none) := by rw [Hid, ← HO.out]; exact relrE_no (by omega)
    clear hFit
    go_enter Tryd.func9, Tryd.ntmps9
    go_wp2
    go_ret2
    exact ⟨by rw [HF.out]; rfl, HB.out⟩
  · by_cases hfit : fitP 0 l = true
    · have HF : Hid (O = some (flatW (encW l))) := by rw [Hid, ← HO.out]; exact relrE_yes (by omega) hfit
      rw [hfit] at hFit
      have HFT := hide hfit
      have hl5 : l.length ≤ 512 := by omega
      clear hfit
      go_enter Tryd.func9, Tryd.ntmps9
      go_wp2_with fail
      refine hFit.mono ?_
      rintro e w1 ⟨rfl, rfl⟩
      clear hFit
      go_wp2_with fail
      refine HNew.out.mono ?_
      rintro e w0 ⟨rfl, hbf, hb0, _⟩
      have HG0 : Hid (Bg w0 w.heap.size w.heap.size []) := ⟨_, hbf⟩
      have HB0 := hide hb0
      clear hbf hb0
      go_wp2
      go_loopw [0, 5, 6, 7] (fun v0 _ _ _ wr => ∃ (s dn : List Nat) (n : Nat), s.length ≤ n + 1 ∧ Hid (ArgN w v0 s) ∧ Hid (Bg wr w.heap.size w.heap.size (flatW dn)) ∧ Hid (Below w.heap.size w wr) ∧ Hid (dn ++ encT n s = encW l) ∧ Hid (fitP 0 s = true)) (fun v0 _ _ _ _ => slen v0)
      case atStart => exact ⟨l, [], l.length, by omega, HA, HG0, HB0, rfl, HFT⟩
      case round =>
        obtain ⟨s, dn, n, hsn, HAs, HGs, HBr, HEn, HFs⟩ := hrel
        obtain ⟨va, vc, rfl, c1, c2⟩ := HAs.out.form
        cases hs : s with
        | nil =>
          subst hs
          simp only [List.length_nil] at *
          have HE2 : Hid (encW l = dn) := by have := HEn.out; rw [encT, List.append_nil] at this; exact this.symm
          have HBy := hide (bg_Bytes wr w.heap.size w.heap.size _ HGs.out (by have := flat_ok HEn.out hl5; omega))
          go_wp2_with fail
          refine HBy.out.mono ?_
          rintro e w3 ⟨v', rfl, h1, h2⟩
          have HB3 : Hid (Below w.heap.size w w3) := HBr.out.trans (h2.mono HBr.out.size)
          have HO3 : Hid (Own w3 w.heap.size v' (flatW (encW l))) := by rw [Hid, HE2.out]; exact h1.low HBr.out.size
          clear h1 h2
          go_wp2
          go_ret2
          exact ⟨by rw [HF.out]; exact ⟨_, rfl, HO3.out⟩, HB3.out⟩
        | cons p t =>
          subst hs
          obtain ⟨tl, htl⟩ : ∃ tl, (p :: t).length = tl := ⟨_, rfl⟩
          have htl1 : t.length + 1 ≤ tl := by rw [← htl]; simp
          have htl2 : tl ≤ t.length + 1 := by rw [← htl]; simp
          rw [htl] at hsn c1 HAs ⊢
          have hat := (HAs.out.below HBr.out).at 0 (by simp)
          obtain ⟨g, o, rfl, y0, hp⟩ := hat
          simp only [List.getElem_cons_zero, Nat.add_zero] at y0 hp
          have hfh := fitP_head HFs.out rfl
          have HF2 := hide hfh.2
          have hp2 := hfh.1
          have HE2 : Hid ((dn ++ [p]) ++ encF n (p + 8) t = encW l) := by have := HEn.out; rw [encT] at this; rw [Hid, List.append_assoc]; exact this
          have hP := bg_Put64 wr w.heap.size w.heap.size (flatW dn) p HGs.out HBr.out.size (flat_ok HEn.out hl5) (by omega)
          have htI : (1 : Int) ≤ (tl : Int) := by omega
          have hcI : (tl : Int) ≤ (vc : Int) := by omega
          have HFt : Hid (fitP 0 t = true) := fitP_drop _ _ HFs.out 1
          clear hfh htl HEn
          by_cases hc : vc = 1
          · have HA1 : Hid (ArgN w (.slice (some ⟨g, o, none⟩) (tl - 1) 0) t) := by
              have k := HAs.out.cut0 1 (by simp) (by omega)
              rw [List.drop_one, List.tail_cons] at k
              exact k
            obtain ⟨R0, M0, hRM⟩ : ∃ R M, rowN (p + 8) t 1 0 = (R, M) := ⟨_, _, rfl⟩
            go_wp2_with fail
            refine hP.mono ?_
            rintro e w2 ⟨rfl, hg2, hb2⟩
            have HB2 : Hid (Below w.heap.size w w2) := HBr.out.trans hb2
            have HG2 : Hid (Bg w2 w.heap.size w.heap.size (flatW (dn ++ [p]))) := by rw [Hid, flatW_snoc]; exact hg2
            obtain ⟨g', o', e', y2, _⟩ := (HAs.out.below HB2.out).at 0 (by simp)
            injection e' with e'
            injection e' with e1 e2
            subst e1 e2
            simp only [List.getElem_cons_zero, Nat.add_zero] at y2
            clear hP hg2 hb2 y0
            have hRo := relr_rowOf w2 _ t (HA1.out.below HB2.out) (p + 8) (by omega) R0 M0 hRM
            have e8 : ((p + 8 : Nat) : Int) = (p : Int) + 8 := by omega
            rw [e8] at hRo
            have HRM := hide hRM
            clear hRM e8
            go_wp2_with fail
            refine hRo.mono ?_
            rintro e w3 ⟨rfl, rfl⟩
            clear hRo y2
            go_wp2
            go_loopw [0, 5, 6, 7] (fun v0 v5 v6 v7 wx => ∃ (s dn : List Nat) (n f R M : Nat), s.length ≤ n ∧ s.length < tl ∧ f < 18446744073709551616 ∧ v5 = .int .u64 (f : Nat) ∧ v6 = .int .u64 (R : Nat) ∧ v7 = .int .i64 (M : Nat) ∧ Hid (rowN f s 1 0 = (R, M)) ∧ Hid (ArgN w v0 s) ∧ Hid (Bg wx w.heap.size w.heap.size (flatW dn)) ∧ Hid (Below w.heap.size w wx) ∧ Hid (dn ++ encF n f s = encW l) ∧ Hid (fitP 0 s = true)) (fun v0 _ _ _ _ => slen v0)
            case atStart => exact ⟨t, dn ++ [p], n, p + 8, R0, M0, by omega, by omega, by omega, by go_num, rfl, rfl, HRM, HA1, HG2, HB2, HE2, HFt⟩
            case round =>
              obtain ⟨s, dq, k, f, R, M, hsk, hst, hf, rfl, rfl, rfl, HR, HAx, HGx, HBx, HEx, HFx⟩ := hrel
              obtain ⟨xa, xc, rfl, d1, d2⟩ := HAx.out.form
              by_cases hM : 0 < M
              · have hroom := row_room HFx.out HR.out hM
                obtain ⟨k', hk', hen⟩ := encF_row hsk HR.out hM
                subst hk'
                have HE3 : Hid ((dq ++ [R]) ++ encF k' (f + 504) (s.drop M) = encW l) := by rw [Hid, List.append_assoc]; have := HEx.out; rw [hen] at this; exact this
                have hMs : M ≤ s.length := by have := (rowN_le f s 1 0).2; rw [HR.out] at this; omega
                have hRs : R < 18446744073709551616 := by have := rowN_small f s 1 0 (by omega); rw [HR.out] at this; exact this
                have HFy : Hid (fitP 0 (s.drop M) = true) := fitP_drop _ _ HFx.out M
                have hP := bg_Put64 wr w.heap.size w.heap.size (flatW dq) R HGx.out HBx.out.size (flat_ok HEx.out hl5) (by omega)
                obtain ⟨R1, M1, hRM1⟩ : ∃ R M', rowN (f + 504) (s.drop M) 1 0 = (R, M') := ⟨_, _, rfl⟩
                have hMI : (0 : Int) < (M : Int) := by omega
                have hMI2 : (M : Int) ≤ (s.length : Int) := by omega
                have hcI2 : (s.length : Int) ≤ (xc : Int) := by omega
                have hdl : (s.drop M).length = s.length - M := by simp
                clear hen HEx
                by_cases hxc : xc = M
                · have HA2 : Hid (ArgN w (.slice xa (s.length - M) 0) (s.drop M)) := HAx.out.cut0 M hMs hxc
                  go_wp2_with fail
                  refine hP.mono ?_
                  rintro e w4 ⟨rfl, hg4, hb4⟩
                  have HB4 : Hid (Below w.heap.size w w4) := HBx.out.trans hb4
                  have HG4 : Hid (Bg w4 w.heap.size w.heap.size (flatW (dq ++ [R]))) := by rw [Hid, flatW_snoc]; exact hg4
                  have hRo := relr_rowOf w4 _ (s.drop M) (HA2.out.below HB4.out) (f + 504) (by omega) R1 M1 hRM1
                  have e5 : ((f + 504 : Nat) : Int) = (f : Int) + 504 := by omega
                  rw [e5] at hRo
                  have HRM1 := hide hRM1
                  clear hP hg4 hb4 e5 hRM1
                  go_wp2_with fail
                  refine hRo.mono ?_
                  rintro e w5 ⟨rfl, rfl⟩
                  clear hRo
                  go_wp2
                  go_roundw
                  case rel => exact ⟨s.drop M, dq ++ [R], k', f + 504, R1, M1, by omega, by omega, by omega, by go_num, rfl, rfl, HRM1, HA2, HG4, HB4, HE3, HFy⟩
                  case measure => simp [slen]; omega
                · have HA2 : Hid (ArgN w (.slice (Option.map (fun x => x.add M) xa) (s.length - M) (xc - M)) (s.drop M)) := HAx.out.cut M hMs hxc
                  go_wp2_with fail
                  refine hP.mono ?_
                  rintro e w4 ⟨rfl, hg4, hb4⟩
                  have HB4 : Hid (Below w.heap.size w w4) := HBx.out.trans hb4
                  have HG4 : Hid (Bg w4 w.heap.size w.heap.size (flatW (dq ++ [R]))) := by rw [Hid, flatW_snoc]; exact hg4
                  have hRo := relr_rowOf w4 _ (s.drop M) (HA2.out.below HB4.out) (f + 504) (by omega) R1 M1 hRM1
                  have e5 : ((f + 504 : Nat) : Int) = (f : Int) + 504 := by omega
                  rw [e5] at hRo
                  have HRM1 := hide hRM1
                  clear hP hg4 hb4 e5 hRM1
                  go_wp2_with fail
                  refine hRo.mono ?_
                  rintro e w5 ⟨rfl, rfl⟩
                  clear hRo
                  go_wp2
                  go_roundw
                  case rel => exact ⟨s.drop M, dq ++ [R], k', f + 504, R1, M1, by omega, by omega, by omega, by go_num, rfl, rfl, HRM1, HA2, HG4, HB4, HE3, HFy⟩
                  case measure => simp [slen]; omega
              · have hM0 : M = 0 := by omega
                subst hM0
                obtain ⟨k', hk1, hk2, hen⟩ := encF_stop hsk HR.out
                have HE3 : Hid (dq ++ encT k' s = encW l) := by have := HEx.out; rw [hen] at this; exact this
                clear hen HEx
                go_wp2
                go_roundw
                case rel => exact ⟨s, dq, k', hk1, HAx, HGx, HBx, HE3, HFx⟩
                case measure => simp [slen]; omega
          · have HA1 : Hid (ArgN w (.slice (some ⟨g, o + 1, none⟩) (tl - 1) (vc - 1)) t) := by
              have k := HAs.out.cut 1 (by simp) (by omega)
              rw [List.drop_one, List.tail_cons] at k
              exact k
            obtain ⟨R0, M0, hRM⟩ : ∃ R M, rowN (p + 8) t 1 0 = (R, M) := ⟨_, _, rfl⟩
            go_wp2_with fail
            refine hP.mono ?_
            rintro e w2 ⟨rfl, hg2, hb2⟩
            have HB2 : Hid (Below w.heap.size w w2) := HBr.out.trans hb2
            have HG2 : Hid (Bg w2 w.heap.size w.heap.size (flatW (dn ++ [p]))) := by rw [Hid, flatW_snoc]; exact hg2
            obtain ⟨g', o', e', y2, _⟩ := (HAs.out.below HB2.out).at 0 (by simp)
            injection e' with e'
            injection e' with e1 e2
            subst e1 e2
            simp only [List.getElem_cons_zero, Nat.add_zero] at y2
            clear hP hg2 hb2 y0
            have hRo := relr_rowOf w2 _ t (HA1.out.below HB2.out) (p + 8) (by omega) R0 M0 hRM
            have e8 : ((p + 8 : Nat) : Int) = (p : Int) + 8 := by omega
            rw [e8] at hRo
            have HRM := hide hRM
            clear hRM e8
            go_wp2_with fail
            refine hRo.mono ?_
            rintro e w3 ⟨rfl, rfl⟩
            clear hRo y2
            go_wp2
            go_loopw [0, 5, 6, 7] (fun v0 v5 v6 v7 wx => ∃ (s dn : List Nat) (n f R M : Nat), s.length ≤ n ∧ s.length < tl ∧ f < 18446744073709551616 ∧ v5 = .int .u64 (f : Nat) ∧ v6 = .int .u64 (R : Nat) ∧ v7 = .int .i64 (M : Nat) ∧ Hid (rowN f s 1 0 = (R, M)) ∧ Hid (ArgN w v0 s) ∧ Hid (Bg wx w.heap.size w.heap.size (flatW dn)) ∧ Hid (Below w.heap.size w wx) ∧ Hid (dn ++ encF n f s = encW l) ∧ Hid (fitP 0 s = true)) (fun v0 _ _ _ _ => slen v0)
            case atStart => exact ⟨t, dn ++ [p], n, p + 8, R0, M0, by omega, by omega, by omega, by go_num, rfl, rfl, HRM, HA1, HG2, HB2, HE2, HFt⟩
            case round =>
              obtain ⟨s, dq, k, f, R, M, hsk, hst, hf, rfl, rfl, rfl, HR, HAx, HGx, HBx, HEx, HFx⟩ := hrel
              obtain ⟨xa, xc, rfl, d1, d2⟩ := HAx.out.form
              by_cases hM : 0 < M
              · have hroom := row_room HFx.out HR.out hM
                obtain ⟨k', hk', hen⟩ := encF_row hsk HR.out hM
                subst hk'
                have HE3 : Hid ((dq ++ [R]) ++ encF k' (f + 504) (s.drop M) = encW l) := by rw [Hid, List.append_assoc]; have := HEx.out; rw [hen] at this; exact this
                have hMs : M ≤ s.length := by have := (rowN_le f s 1 0).2; rw [HR.out] at this; omega
                have hRs : R < 18446744073709551616 := by have := rowN_small f s 1 0 (by omega); rw [HR.out] at this; exact this
                have HFy : Hid (fitP 0 (s.drop M) = true) := fitP_drop _ _ HFx.out M
                have hP := bg_Put64 wr w.heap.size w.heap.size (flatW dq) R HGx.out HBx.out.size (flat_ok HEx.out hl5) (by omega)
                obtain ⟨R1, M1, hRM1⟩ : ∃ R M', rowN (f + 504) (s.drop M) 1 0 = (R, M') := ⟨_, _, rfl⟩
                have hMI : (0 : Int) < (M : Int) := by omega
                have hMI2 : (M : Int) ≤ (s.length : Int) := by omega
                have hcI2 : (s.length : Int) ≤ (xc : Int) := by omega
                have hdl : (s.drop M).length = s.length - M := by simp
                clear hen HEx
                by_cases hxc : xc = M
                · have HA2 : Hid (ArgN w (.slice xa (s.length - M) 0) (s.drop M)) := HAx.out.cut0 M hMs hxc
                  go_wp2_with fail
                  refine hP.mono ?_
                  rintro e w4 ⟨rfl, hg4, hb4⟩
                  have HB4 : Hid (Below w.heap.size w w4) := HBx.out.trans hb4
                  have HG4 : Hid (Bg w4 w.heap.size w.heap.size (flatW (dq ++ [R]))) := by rw [Hid, flatW_snoc]; exact hg4
                  have hRo := relr_rowOf w4 _ (s.drop M) (HA2.out.below HB4.out) (f + 504) (by omega) R1 M1 hRM1
                  have e5 : ((f + 504 : Nat) : Int) = (f : Int) + 504 := by omega
                  rw [e5] at hRo
                  have HRM1 := hide hRM1
                  clear hP hg4 hb4 e5 hRM1
                  go_wp2_with fail
                  refine hRo.mono ?_
                  rintro e w5 ⟨rfl, rfl⟩
                  clear hRo
                  go_wp2
                  go_roundw
                  case rel => exact ⟨s.drop M, dq ++ [R], k', f + 504, R1, M1, by omega, by omega, by omega, by go_num, rfl, rfl, HRM1, HA2, HG4, HB4, HE3, HFy⟩
                  case measure => simp [slen]; omega
                · have HA2 : Hid (ArgN w (.slice (Option.map (fun x => x.add M) xa) (s.length - M) (xc - M)) (s.drop M)) := HAx.out.cut M hMs hxc
                  go_wp2_with fail
                  refine hP.mono ?_
                  rintro e w4 ⟨rfl, hg4, hb4⟩
                  have HB4 : Hid (Below w.heap.size w w4) := HBx.out.trans hb4
                  have HG4 : Hid (Bg w4 w.heap.size w.heap.size (flatW (dq ++ [R]))) := by rw [Hid, flatW_snoc]; exact hg4
                  have hRo := relr_rowOf w4 _ (s.drop M) (HA2.out.below HB4.out) (f + 504) (by omega) R1 M1 hRM1
                  have e5 : ((f + 504 : Nat) : Int) = (f : Int) + 504 := by omega
                  rw [e5] at hRo
                  have HRM1 := hide hRM1
                  clear hP hg4 hb4 e5 hRM1
                  go_wp2_with fail
                  refine hRo.mono ?_
                  rintro e w5 ⟨rfl, rfl⟩
                  clear hRo
                  go_wp2
                  go_roundw
                  case rel => exact ⟨s.drop M, dq ++ [R], k', f + 504, R1, M1, by omega, by omega, by omega, by go_num, rfl, rfl, HRM1, HA2, HG4, HB4, HE3, HFy⟩
                  case measure => simp [slen]; omega
              · have hM0 : M = 0 := by omega
                subst hM0
                obtain ⟨k', hk1, hk2, hen⟩ := encF_stop hsk HR.out
                have HE3 : Hid (dq ++ encT k' s = encW l) := by have := HEx.out; rw [hen] at this; exact this
                clear hen HEx
                go_wp2
                go_roundw
                case rel => exact ⟨s, dq, k', hk1, HAx, HGx, HBx, HE3, HFx⟩
                case measure => simp [slen]; omega
    · have HF : Hid (O = none) := by rw [Hid, ← HO.out]; exact relrE_no (fun k => hfit k.2)
      rw [show fitP 0 l = false by simpa using hfit] at hFit
      go_enter Tryd.func9, Tryd.ntmps9
      go_wp2_with fail
      refine hFit.mono ?_
      rintro e w1 ⟨rfl, rfl⟩
      clear hFit
      go_wp2
      go_ret2
      exact ⟨by rw [HF.out]; rfl, HB.out⟩
end Go.Proofs.YtkelipoiopkokaaDoor
