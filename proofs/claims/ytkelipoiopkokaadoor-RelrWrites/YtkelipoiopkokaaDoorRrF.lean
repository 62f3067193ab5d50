
/-
  Layer 13 (relr): the reference's Decode.
-/
import Derived.Test.YtkelipoiopkokaaDoorRrE
set_option linter.unusedVariables false
namespace Go.Proofs.YtkelipoiopkokaaDoor
open Go.RowKit Go.PlainAid Go.Sort
theorem pow_half (r k : Nat) : r / 2 ^ (k + 1) = r / 2 ^ k / 2 := by rw [Nat.pow_succ, Nat.div_div_eq_div_mul]
theorem grow_below {B : Nat} {w wr w' : World} {v : Value} {l : List Nat} (hb : Below B w wr) (ho : OwnN wr B v l) (hs : B ≤ wr.heap.size) (hg : wr.grownBy w' v.ownBlock) : Below B w w' := hb.grown hg hs (fun k hk => (ho.base k hk).1)
set_option maxHeartbeats 4000000 in
set_option maxRecDepth 20000 in
theorem ref13_Decode (w : World) (v : Value) (l : List UInt8) (h : Arg w v l) (hl : l.length ≤ 1000000) :
    Calls Tryd.prog 6 #[v] w fun e w' => RlrIs w' w.heap.size (relrZ l) e ∧ Below w.heap.size w w' := by
  obtain ⟨a, cap, rfl, _⟩ := h.isSlice
  have HU := hide (fun W (hb : Below w.heap.size w W) (p : Nat) (hp : (p : Int) ≤ 18446744073709551615) => ref8_N W _ l (h.below' hb) p 8 hp (by omega) (by omega))
  have HB : Hid (Below w.heap.size w w) := Below.refl _ _
  obtain ⟨O, hO⟩ : ∃ O, relrZ l = O := ⟨_, rfl⟩
  have HO := hide hO
  rw [hO]
  obtain ⟨n, hn⟩ : ∃ n, l.length = n := ⟨_, rfl⟩
  have HN := hide hn
  rw [hn] at hl HU ⊢
  clear h hO hn
  by_cases hbad : n % 8 ≠ 0 ∨ 512 < n / 8
  · have HF : Hid (O = none) := by rw [Hid, ← HO.out]; exact relrZ_no (by rw [HN.out]; exact hbad)
    clear HU
    go_enter Tryd.func6, Tryd.ntmps6
    go_wp2
    all_goals
      go_ret2
      exact ⟨by rw [HF.out]; rfl, HB.out⟩
  · obtain ⟨m, hm⟩ : ∃ m, n = 8 * m := ⟨n / 8, by omega⟩
    have hm5 : m ≤ 512 := by omega
    have HR : Hid (decW [] 0 (wordsOf l m) = O) := by rw [Hid, ← relrZ_yes (by rw [HN.out]; exact hm) hm5]; exact HO.out
    subst hm
    clear hbad
    go_enter Tryd.func6, Tryd.ntmps6
    go_wp2
    go_loopw [4, 5, 6, 7, 8, 9, 10, 11] (fun v4 v5 vi _ _ _ _ _ wr => ∃ (i f : Nat) (acc : List Nat), i ≤ m ∧ vi = .int .i64 ((8 * i : Nat) : Int) ∧ v5 = .int .u64 (f : Nat) ∧ f < 18446744073709551616 ∧ acc.length ≤ 512 ∧ Hid (∀ p ∈ acc, p < 18446744073709551616) ∧ Hid (OwnN wr w.heap.size v4 acc) ∧ Hid (Below w.heap.size w wr) ∧ Hid (decW acc f ((wordsOf l m).drop i) = O)) (fun _ _ vi _ _ _ _ _ _ => 8 * m - (intOf vi).toNat)
    case atStart => exact ⟨0, 0, [], by omega, rfl, rfl, by omega, by simp, by simp [Hid], OwnN.nil _ _, Below.refl _ _, by rw [List.drop_zero]; exact HR⟩
    case round =>
      obtain ⟨i, f, acc, hi, rfl, rfl, hf, hal, HSm, HOw, HBr, HD⟩ := hrel
      have e0 : ((8 * i : Nat) : Int) = 8 * (i : Int) := by omega
      rw [e0]
      by_cases hlt : i < m
      · have hltI : 8 * (i : Int) < 8 * (m : Int) := by omega
        have k0 := HU.out wr HBr.out (8 * i) (by omega)
        rw [e0] at k0
        have hr8 : rd l (8 * i) 8 < 18446744073709551616 := rd8 _ _
        have HDr : Hid (decW acc f (rd l (8 * i) 8 :: (wordsOf l m).drop (i + 1)) = O) := by rw [Hid, ← words_drop l m i hlt]; exact HD.out
        generalize rd l (8 * i) 8 = r at *
        clear HD
        have HNo : Hid (stepD acc f r = none → O = none) := fun hs => by rw [← HDr.out]; unfold decW; rw [hs]
        have HYes : Hid (∀ a' g', stepD acc f r = some (a', g') → decW a' g' ((wordsOf l m).drop (i + 1)) = O) := fun a' g' hs => by
          rw [← HDr.out]
          show _ = (match stepD acc f r with | none => none | some (a, g) => decW a g _)
          rw [hs]
        clear HDr
        have hrI : (r : Int) ≤ 18446744073709551615 := by omega
        obtain ⟨ya, yc, rfl⟩ := HOw.out.isSlice
        by_cases he : r % 2 = 0
        · have m0 : ((r : Int) % 2 == 0) = true := by simp; omega
          have m1 : ((r : Int) % 2 == 1) = false := by simp; omega
          go_wp2_with fail
          refine k0.mono ?_
          rintro e w1 ⟨rfl, rfl⟩
          clear k0
          go_wp2_with (at_builtin; refine append_n rfl _ _ rfl w.heap.size wr _ acc HOw.out r rfl _ (by simp) rfl (by omega) HBr.out.size ?_)
          intro v2 w2 k1 k2 k3
          have HB2 : Hid (Below w.heap.size w w2) := grow_below HBr.out HOw.out HBr.out.size k2
          have HO2 := hide k1
          obtain ⟨a2, c2, hv2⟩ := k1.isSlice
          obtain ⟨nl, hnl⟩ : ∃ nl, (acc ++ [r]).length = nl := ⟨_, rfl⟩
          have hnlA : acc.length + 1 ≤ nl := by rw [← hnl]; simp
          have hnlB : nl ≤ acc.length + 1 := by rw [← hnl]; simp
          rw [hnl] at hv2
          subst hv2
          have hnz : ((nl : Int) == 0) = false := by simp; omega
          clear k1 k2 k3 hnl
          by_cases h8 : r + 8 < 18446744073709551616
          · have hA := ref_Add_yes (r : Int) 8 w2 (by omega) (by omega) (by omega)
            go_wp2_with fail
            refine hA.mono ?_
            rintro e w3 ⟨rfl, hb3⟩
            have HB3 : Hid (Below w.heap.size w w3) := HB2.out.trans (hb3.mono HB2.out.size)
            have HO3 := hide (HO2.out.stay hb3)
            clear hA hb3
            by_cases h5 : acc.length < 512
            · have hs := stepD_even (f := f) he h5 h8
              have HD2 := hide (HYes.out _ _ hs)
              have hk := stepD_ok hr8 HSm.out hs
              have HSm2 := hide hk.2.2
              have hk1 := hk.1
              have h5I : ¬ (512 : Int) < (nl : Int) := by omega
              clear hs hk HNo HYes
              go_wp2
              go_roundw
              case rel => exact ⟨i + 1, r + 8, acc ++ [r], by omega, by go_num, by go_num, h8, hk1, HSm2, HO3, HB3, HD2⟩
              case measure => simp [intOf]; omega
            · have HF := hide (HNo.out (stepD_even_no he (by omega)))
              have h5I : (512 : Int) < (nl : Int) := by omega
              clear HNo HYes
              go_wp2
              go_ret2
              exact ⟨by rw [HF.out]; rfl, HB3.out⟩
          · have hA := ref_Add_no (r : Int) 8 w2 (by omega) (by omega) (by omega) (by omega) (by omega)
            have HF := hide (HNo.out (stepD_even_no he (by omega)))
            clear HNo HYes
            go_wp2_with fail
            refine hA.mono ?_
            rintro e w3 ⟨rfl, hb3⟩
            have HB3 : Hid (Below w.heap.size w w3) := HB2.out.trans (hb3.mono HB2.out.size)
            clear hA hb3
            go_wp2
            go_ret2
            exact ⟨by rw [HF.out]; rfl, HB3.out⟩
        · have he1 : r % 2 = 1 := by omega
          have m0 : ((r : Int) % 2 == 0) = false := by simp; omega
          have m1 : ((r : Int) % 2 == 1) = true := by simp; omega
          by_cases hl0 : acc = []
          · have HF := hide (HNo.out (stepD_odd_no he1 (fun k => k.1 hl0)))
            subst hl0
            simp only [List.length_nil] at *
            clear HNo HYes
            go_wp2_with fail
            refine k0.mono ?_
            rintro e w1 ⟨rfl, rfl⟩
            clear k0
            go_wp2
            go_ret2
            exact ⟨by rw [HF.out]; rfl, HBr.out⟩
          · have hlp : ((acc.length : Int) == 0) = false := by
              have : 0 < acc.length := List.length_pos_iff.2 hl0
              simp; omega
            have HOr := hide HOw.out
            have HBo := hide HBr.out
            go_wp2_with fail
            refine k0.mono ?_
            rintro e w1 ⟨rfl, rfl⟩
            clear k0
            go_wp2
            go_loopw [4, 7, 9] (fun v4 v7 v9 wx => ∃ (k : Nat) (ac : List Nat), k ≤ 63 ∧ v9 = .int .u64 (k : Nat) ∧ v7 = .int .u64 ((r / 2 ^ k : Nat) : Int) ∧ ac.length ≤ acc.length + k ∧ Hid (OwnN wx w.heap.size v4 ac) ∧ Hid (Below w.heap.size w wx) ∧ Hid (ac ++ rowP r f (63 - k) k = acc ++ rowAll r f)) (fun _ _ v9 _ => 63 - (intOf v9).toNat)
            case atStart => exact ⟨0, acc, by omega, rfl, by simp, by omega, HOr.out, HBo.out, rfl⟩
            case round =>
              obtain ⟨k, ac, hk63, rfl, rfl, hacl, HOk, HBk, HRow⟩ := hrel
              obtain ⟨y, hy⟩ : ∃ y, r / 2 ^ k = y := ⟨_, rfl⟩
              have hyr : y ≤ r := by rw [← hy]; exact Nat.div_le_self _ _
              have HY := hide hy
              rw [hy]
              clear hy
              obtain ⟨za, zc, rfl⟩ := HOk.out.isSlice
              by_cases hk : k < 63
              · have hkI : (k : Int) < 63 := by omega
                obtain ⟨y', hy'⟩ : ∃ y', y / 2 = y' := ⟨_, rfl⟩
                have HY' : Hid (r / 2 ^ (k + 1) = y') := by rw [Hid, pow_half, HY.out]; exact hy'
                have q1 : (y : Int) / 2 = (y' : Int) := by omega
                have hy1 : (y' : Int) ≤ 18446744073709551615 := by omega
                by_cases hb : y' % 2 = 1
                · obtain ⟨p, hp⟩ : ∃ p, (f + 8 * k) % 18446744073709551616 = p := ⟨_, rfl⟩
                  have HRow2 : Hid (ac ++ [p] ++ rowP r f (63 - (k + 1)) (k + 1) = acc ++ rowAll r f) := by
                    have := HRow.out
                    rw [show 63 - k = (63 - (k + 1)) + 1 by omega, rowP, HY'.out, if_pos hb, hp, ← List.append_assoc] at this
                    exact this
                  have hpI : IntKind.u64.wrap ((f : Int) + 8 * (k : Int)) = (p : Int) := by rw [IntKind.wrap_u64, ← hp]; omega
                  have q2 : ((y' : Int) % 2 == 1) = true := by simp; omega
                  clear hp hy' hb HRow
                  go_wp2_with (at_builtin; refine append_n rfl _ _ rfl w.heap.size wr _ ac HOk.out p rfl _ (by simp) rfl (by omega) HBk.out.size ?_)
                  intro v2 w2 k1 k2 k3
                  have HB2 : Hid (Below w.heap.size w w2) := grow_below HBk.out HOk.out HBk.out.size k2
                  have HO2 := hide k1
                  clear k1 k2 k3
                  go_wp2
                  go_roundw
                  case rel => exact ⟨k + 1, ac ++ [p], by omega, by go_num, by rw [HY'.out], by simp; omega, HO2, HB2, HRow2⟩
                  case measure => simp [intOf]; omega
                · have HRow2 : Hid (ac ++ rowP r f (63 - (k + 1)) (k + 1) = acc ++ rowAll r f) := by
                    have := HRow.out
                    rw [show 63 - k = (63 - (k + 1)) + 1 by omega, rowP, HY'.out, if_neg hb, List.nil_append] at this
                    exact this
                  have q2 : ((y' : Int) % 2 == 1) = false := by simp; omega
                  clear hy' hb HRow
                  go_wp2
                  go_roundw
                  case rel => exact ⟨k + 1, ac, by omega, by go_num, by rw [HY'.out], by omega, HOk, HBk, HRow2⟩
                  case measure => simp [intOf]; omega
              · have hke : k = 63 := by omega
                subst hke
                have HAll : Hid (ac = acc ++ rowAll r f) := by
                  have := HRow.out
                  rw [show 63 - 63 = 0 from rfl, rowP, List.append_nil] at this
                  exact this
                clear HRow HY
                by_cases h8 : f + 504 < 18446744073709551616
                · have hA := ref_Add_yes (f : Int) 504 wr (by omega) (by omega) (by omega)
                  go_wp2_with fail
                  refine hA.mono ?_
                  rintro e w3 ⟨rfl, hb3⟩
                  have HB3 : Hid (Below w.heap.size w w3) := HBk.out.trans (hb3.mono HBk.out.size)
                  have HO3 := hide (HOk.out.stay hb3)
                  clear hA hb3
                  by_cases h5 : ac.length ≤ 512
                  · have hs := stepD_odd (l := acc) (f := f) (r := r) he1 hl0 h8 (by rw [← HAll.out]; exact h5)
                    rw [← HAll.out] at hs
                    have HD2 := hide (HYes.out _ _ hs)
                    have hk := stepD_ok hr8 HSm.out hs
                    have HSm2 := hide hk.2.2
                    have h5I : ¬ (512 : Int) < (ac.length : Int) := by omega
                    clear hs hk HNo HYes
                    go_wp2
                    go_roundw
                    case rel => exact ⟨i + 1, f + 504, ac, by omega, by go_num, by go_num, h8, h5, HSm2, HO3, HB3, HD2⟩
                    case measure => simp [intOf]; omega
                  · have HF := hide (HNo.out (stepD_odd_no he1 (fun k => h5 (by rw [HAll.out]; exact k.2.2))))
                    have h5I : (512 : Int) < (ac.length : Int) := by omega
                    clear HNo HYes
                    go_wp2
                    go_ret2
                    exact ⟨by rw [HF.out]; rfl, HB3.out⟩
                · have hA := ref_Add_no (f : Int) 504 wr (by omega) (by omega) (by omega) (by omega) (by omega)
                  have HF := hide (HNo.out (stepD_odd_no he1 (fun k => h8 k.2.1)))
                  clear HNo HYes
                  go_wp2_with fail
                  refine hA.mono ?_
                  rintro e w3 ⟨rfl, hb3⟩
                  have HB3 : Hid (Below w.heap.size w w3) := HBk.out.trans (hb3.mono HBk.out.size)
                  clear hA hb3
                  go_wp2
                  go_ret2
                  exact ⟨by rw [HF.out]; rfl, HB3.out⟩
      · have him : i = m := by omega
        subst him
        have HF : Hid (O = some acc) := by
          have := HD.out
          rw [words_end] at this
          exact this.symm
        go_wp2
        go_ret2
        exact ⟨by rw [HF.out]; exact ⟨_, rfl, HOw.out⟩, HBr.out⟩
end Go.Proofs.YtkelipoiopkokaaDoor
