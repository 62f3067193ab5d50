
/-
  Layer 13 (relr): the reference's Encode.
-/
import Derived.Test.YtkelipoiopkokaaDoorRrJ
import Derived.Test.YtkelipoiopkokaaDoorRrN
set_option linter.unusedVariables false
namespace Go.Proofs.YtkelipoiopkokaaDoor
open Go.RowKit Go.PlainAid Go.Sort
theorem or_sum {r x a : Nat} (h : r < 2 ^ (1 + a)) (hx : a ≤ x) : r ||| 2 ^ (1 + x) = r + 2 ^ (1 + x) ∧ r + 2 ^ (1 + x) < 2 ^ (1 + (x + 1)) := by
  have h1 : 2 ^ (1 + a) ≤ 2 ^ (1 + x) := Nat.pow_le_pow_right (by omega) (by omega)
  have h2 := or_add r 1 (1 + x) (by omega)
  rw [Nat.one_mul] at h2
  refine ⟨h2, ?_⟩
  rw [show 1 + (x + 1) = (1 + x) + 1 by omega, Nat.pow_succ]
  omega
theorem pow_le63 {x : Nat} (h : x ≤ 63) : 2 ^ x ≤ 9223372036854775808 := by
  have : 2 ^ x ≤ 2 ^ 63 := Nat.pow_le_pow_right (by omega) h
  have e : (2 : Nat) ^ 63 = 9223372036854775808 := by decide
  omega
/-- How the words go on from a place of the row. -/
def Goes (l : List Nat) (i f : Nat) (dn : List Nat) : Prop := (i = 0 ∧ dn = []) ∨ (0 < i ∧ ∃ n, (l.drop i).length ≤ n ∧ dn ++ encF n f (l.drop i) = encW l)
theorem Goes.row {l : List Nat} {i f : Nat} {dn : List Nat} {R M : Nat} (h : Goes l i f dn) (hi : 0 < i) (hR : rowN f (l.drop i) 1 0 = (R, M)) (hM : 0 < M) : Goes l (i + M) (f + 504) (dn ++ [R]) := by
  rcases h with ⟨h, _⟩ | ⟨_, n, hn, h⟩
  · omega
  · obtain ⟨k, rfl, he⟩ := encF_row hn hR hM
    refine .inr ⟨by omega, k, ?_, ?_⟩
    · rw [List.length_drop] at hn ⊢; omega
    · rw [he, List.drop_drop] at h
      rw [List.append_assoc]; exact h
theorem Goes.one {l : List Nat} {i f : Nat} {dn : List Nat} (h : Goes l i f dn) (hi : i < l.length) (hR : i = 0 ∨ ∃ R, rowN f (l.drop i) 1 0 = (R, 0)) : Goes l (i + 1) (l[i] + 8) (dn ++ [l[i]]) := by
  have hd := List.drop_eq_getElem_cons hi
  rcases h with ⟨rfl, rfl⟩ | ⟨h0, n, hn, h⟩
  · refine .inr ⟨by omega, l.length, by rw [List.length_drop]; omega, ?_⟩
    rw [List.drop_zero] at hd
    have e : encW l = encT l.length (l[0] :: l.drop 1) := by unfold encW; rw [← hd]
    rw [e]
    rfl
  · obtain ⟨R, hR⟩ := hR.resolve_left (by omega)
    rw [hd] at h hn hR
    cases n with
    | zero => rw [List.length_cons] at hn; omega
    | succ n =>
      rw [encF, hR, if_neg (by simp)] at h
      refine .inr ⟨by omega, n, by rw [List.length_cons] at hn; omega, ?_⟩
      rw [List.append_assoc]; exact h
theorem Goes.ends {l : List Nat} {f : Nat} {dn : List Nat} (h : Goes l l.length f dn) : dn = encW l := by
  rcases h with ⟨h, rfl⟩ | ⟨_, n, _, h⟩
  · have : l = [] := List.length_eq_zero_iff.1 h
    subst this; rfl
  · rw [List.drop_length, encF_nil, List.append_nil] at h; exact h
theorem Goes.len {l : List Nat} {i f : Nat} {dn : List Nat} (h : Goes l i f dn) (hl : l.length ≤ 512) : (flatW dn).length ≤ 5000 := by
  rcases h with ⟨_, rfl⟩ | ⟨_, n, _, h⟩
  · simp [flatW]
  · have := part_len h hl
    rw [flatW_len]; omega
set_option maxHeartbeats 8000000 in
set_option maxRecDepth 20000 in
theorem ref13_Encode (w : World) (v : Value) (l : List Nat) (h : ArgN w v l) (hl : l.length ≤ 1000000) :
    Calls Tryd.prog 10 #[v] w fun e w' => EnrIs w' w.heap.size (relrE l) e ∧ Below w.heap.size w w' := by
  obtain ⟨a, cap, rfl, p1, p2⟩ := h.form
  have HA := hide h
  have HB : Hid (Below w.heap.size w w) := Below.refl _ _
  obtain ⟨O, hO⟩ : ∃ O, relrE l = O := ⟨_, rfl⟩
  have HO := hide hO
  rw [hO]
  clear h hO
  by_cases hlen : 512 < l.length
  · have HF : Hid (O = none) := by rw [Hid, ← HO.out]; exact relrE_no (by omega)
    go_enter Tryd.func10, Tryd.ntmps10
    go_wp2
    go_ret2
    exact ⟨by rw [HF.out]; rfl, HB.out⟩
  · have hl5 : l.length ≤ 512 := by omega
    have hcap : (l.length : Int) ≤ (cap : Int) := by omega
    have HNo : Hid (fitP 0 l = false → O = none) := fun k => by rw [← HO.out]; exact relrE_no (fun q => by rw [k] at q; cases q.2)
    have HYes : Hid (fitP 0 l = true → O = some (flatW (encW l))) := fun k => by rw [← HO.out]; exact relrE_yes hl5 k
    go_enter Tryd.func10, Tryd.ntmps10
    go_wp2
    go_loopw [4] (fun vi wr => Hid (Below w.heap.size w wr) ∧ ∃ i least : Nat, i ≤ l.length ∧ vi = .int .i64 (i : Nat) ∧ Hid (fitP least (l.drop i) = fitP 0 l) ∧ ((i = 0 ∧ least = 0) ∨ (0 < i ∧ least = l.getD (i - 1) 0 + 8 ∧ l.getD (i - 1) 0 ≤ 18446744073709551103))) (fun vi _ => l.length - (intOf vi).toNat)
    case atStart => exact ⟨HB, 0, 0, by omega, rfl, rfl, .inl ⟨rfl, rfl⟩⟩
    case round =>
      obtain ⟨HBk, i, least, hi, rfl, HFt, hls⟩ := hrel
      by_cases hlt : i < l.length
      · have hltI : (i : Int) < (l.length : Int) := by omega
        have HAk := hide (HA.out.below HBk.out)
        obtain ⟨g, o, rfl, y0, hp⟩ := HAk.out.at i hlt
        have HF2 : Hid ((decide (l[i] % 2 = 0 ∧ least ≤ l[i] ∧ l[i] ≤ 18446744073709551103) && fitP (l[i] + 8) (l.drop (i + 1))) = fitP 0 l) := by rw [Hid, ← fitP_at l i least hlt]; exact HFt.out
        have gi : l.getD i 0 = l[i] := by simp [List.getD, List.getElem?_eq_getElem hlt]
        have HBad : Hid (¬ (l[i] % 2 = 0 ∧ least ≤ l[i] ∧ l[i] ≤ 18446744073709551103) → O = none) := fun k => HNo.out (by rw [← HF2.out, decide_eq_false k, Bool.false_and])
        have HGo : Hid ((l[i] % 2 = 0 ∧ least ≤ l[i] ∧ l[i] ≤ 18446744073709551103) → fitP (l[i] + 8) (l.drop (i + 1)) = fitP 0 l) := fun k => by rw [← HF2.out, decide_eq_true k, Bool.true_and]
        have HGi : Hid (l.getD (i + 1 - 1) 0 = l[i]) := by rw [Hid, Nat.add_sub_cancel]; exact gi
        have hq : 0 < i → ∃ q, l.getD (i - 1) 0 = q ∧ wr.cell? ⟨g, o + (i - 1), none⟩ = some (.int .u64 (q : Nat)) := fun hi0 => by
          obtain ⟨g', o', e, z0, _⟩ := HAk.out.at (i - 1) (by omega)
          injection e with e
          injection e with e1 e2
          subst e1 e2
          refine ⟨l[i - 1]'(by omega), by simp [List.getD, List.getElem?_eq_getElem (show i - 1 < l.length by omega)], z0⟩
        generalize l[i] = p at *
        clear HF2 HFt gi
        by_cases ho : p % 2 = 1
        · have HF := hide (HBad.out (by omega))
          have m1 : ((p : Int) % 2 == 1) = true := by simp; omega
          clear HBad HGo HNo HYes hls hq
          go_wp2_with fail
          try simp only [List.append_eq, List.cons_append, List.nil_append]
          refine wp_region_quiet_below (by kernel_rfl) (by kernel_rfl) ?_
          have cy := cell_regrown y0
          clear y0
          repeat (go_big_quiet_step (fail))
          refine wpQuiet_nil ?_
          intro _ hw'
          obtain ⟨⟨dq, osq⟩, hw''⟩ := hw'
          subst hw''
          have HB2 := hide (HBk.out.trans ((below_regrown _ dq osq).mono HBk.out.size))
          clear cy
          generalize grow _ _ = w2 at *
          go_wp2
          go_ret2
          exact ⟨by rw [HF.out]; rfl, HB2.out⟩
        · by_cases hbg : 18446744073709551103 < p
          · have HF := hide (HBad.out (by omega))
            have m1 : ((p : Int) % 2 == 1) = false := by simp; omega
            have m2 : decide ((18446744073709551103 : Int) < (p : Int)) = true := by simp; omega
            clear HBad HGo HNo HYes hls hq
            go_wp2_with fail
            try simp only [List.append_eq, List.cons_append, List.nil_append]
            refine wp_region_quiet_below (by kernel_rfl) (by kernel_rfl) ?_
            have cy := cell_regrown y0
            clear y0
            repeat (go_big_quiet_step (fail))
            refine wpQuiet_nil ?_
            intro _ hw'
            obtain ⟨⟨dq, osq⟩, hw''⟩ := hw'
            subst hw''
            have HB2 := hide (HBk.out.trans ((below_regrown _ dq osq).mono HBk.out.size))
            clear cy
            generalize grow _ _ = w2 at *
            go_wp2
            go_ret2
            exact ⟨by rw [HF.out]; rfl, HB2.out⟩
          · have m2 : decide ((18446744073709551103 : Int) < (p : Int)) = false := by simp; omega
            have m1 : ((p : Int) % 2 == 1) = false := by simp; omega
            rcases hls with ⟨hi0, hls1⟩ | ⟨hi0, hls1, hls2⟩
            · have HG2 := hide (HGo.out (by omega))
              have hi0I : decide ((0 : Int) < (i : Int)) = false := by simp; omega
              have hi0J : decide (0 < i) = false := by simp; omega
              clear HBad HGo hq hls1 hi0
              go_wp2_with fail
              try simp only [List.append_eq, List.cons_append, List.nil_append]
              refine wp_region_quiet_below (by kernel_rfl) (by kernel_rfl) ?_
              have cy := cell_regrown y0
              clear y0
              repeat (go_big_quiet_step (fail))
              refine wpQuiet_nil ?_
              intro _ hw'
              obtain ⟨⟨dq, osq⟩, hw''⟩ := hw'
              subst hw''
              have HB2 := hide (HBk.out.trans ((below_regrown _ dq osq).mono HBk.out.size))
              clear cy
              generalize grow _ _ = w2 at *
              go_wp2
              go_roundw
              case rel => exact ⟨HB2, i + 1, p + 8, by omega, by go_num, HG2, .inr ⟨by omega, by rw [HGi.out], by rw [HGi.out]; omega⟩⟩
              case measure => simp [intOf]; omega
            · obtain ⟨q, hq1, z0⟩ := hq hi0
              rw [hq1] at hls1 hls2
              have hi0I : decide ((0 : Int) < (i : Int)) = true := by simp; omega
              have hi0J : decide (0 < i) = true := by simp; omega
              obtain ⟨im, him⟩ : ∃ im, i - 1 = im := ⟨_, rfl⟩
              rw [him] at z0
              have eo : (i : Int) - 1 = (im : Int) := by omega
              have himI : (im : Int) < (l.length : Int) := by omega
              have wi : IntKind.i64.wrap (im : Int) = (im : Int) := by rw [show IntKind.i64.wrap (im : Int) = ((im : Int) + 9223372036854775808) % 18446744073709551616 - 9223372036854775808 by simp [IntKind.wrap, IntKind.bits, IntKind.signed]; omega]; omega
              by_cases hpq : p < q
              · have HF := hide (HBad.out (by omega))
                have m3 : decide ((p : Int) < (q : Int)) = true := by simp; omega
                have m3b : decide (p < q) = true := by simp; omega
                clear HBad HGo HNo HYes hq1 hls1 hls2
                go_wp2_with fail
                try simp only [List.append_eq, List.cons_append, List.nil_append]
                refine wp_region_quiet_below (by kernel_rfl) (by kernel_rfl) ?_
                have cy := cell_regrown y0
                have cz := cell_regrown z0
                clear y0 z0
                repeat (go_big_quiet_step (fail))
                refine wpQuiet_nil ?_
                intro _ hw'
                obtain ⟨⟨dq, osq⟩, hw''⟩ := hw'
                subst hw''
                have HB2 := hide (HBk.out.trans ((below_regrown _ dq osq).mono HBk.out.size))
                clear cy cz
                generalize grow _ _ = w2 at *
                go_wp2
                go_ret2
                exact ⟨by rw [HF.out]; rfl, HB2.out⟩
              · have m3 : decide ((p : Int) < (q : Int)) = false := by simp; omega
                have m3b : decide (p < q) = false := by simp; omega
                obtain ⟨e, he⟩ : ∃ e, p = q + e := ⟨p - q, by omega⟩
                have heI : (p : Int) - (q : Int) = (e : Int) := by omega
                have we : IntKind.u64.wrap (e : Int) = (e : Int) := by rw [IntKind.wrap_u64]; omega
                by_cases h8 : e < 8
                · have HF := hide (HBad.out (by omega))
                  have m4 : decide ((e : Int) < 8) = true := by simp; omega
                  clear HBad HGo HNo HYes hq1 hls1 hls2 he
                  go_wp2_with fail
                  try simp only [List.append_eq, List.cons_append, List.nil_append]
                  refine wp_region_quiet_below (by kernel_rfl) (by kernel_rfl) ?_
                  have cy := cell_regrown y0
                  have cz := cell_regrown z0
                  clear y0 z0
                  repeat (go_big_quiet_step (fail))
                  refine wpQuiet_nil ?_
                  intro _ hw'
                  obtain ⟨⟨dq, osq⟩, hw''⟩ := hw'
                  subst hw''
                  have HB2 := hide (HBk.out.trans ((below_regrown _ dq osq).mono HBk.out.size))
                  clear cy cz
                  generalize grow _ _ = w2 at *
                  go_wp2
                  go_ret2
                  exact ⟨by rw [HF.out]; rfl, HB2.out⟩
                · have m4 : decide ((e : Int) < 8) = false := by simp; omega
                  have HG2 := hide (HGo.out (by omega))
                  have hpb : p ≤ 18446744073709551103 := by omega
                  clear HBad HGo hq1 hls1 hls2 he
                  go_wp2_with fail
                  try simp only [List.append_eq, List.cons_append, List.nil_append]
                  refine wp_region_quiet_below (by kernel_rfl) (by kernel_rfl) ?_
                  have cy := cell_regrown y0
                  have cz := cell_regrown z0
                  clear y0 z0
                  repeat (go_big_quiet_step (fail))
                  refine wpQuiet_nil ?_
                  intro _ hw'
                  obtain ⟨⟨dq, osq⟩, hw''⟩ := hw'
                  subst hw''
                  have HB2 := hide (HBk.out.trans ((below_regrown _ dq osq).mono HBk.out.size))
                  clear cy cz
                  generalize grow _ _ = w2 at *
                  go_wp2
                  go_roundw
                  case rel => exact ⟨HB2, i + 1, p + 8, by omega, by go_num, HG2, .inr ⟨by omega, by rw [HGi.out], by rw [HGi.out]; exact hpb⟩⟩
                  case measure => simp [intOf]; omega
      · have him : i = l.length := by omega
        subst him
        have hfit : fitP 0 l = true := by
          have := HFt.out
          rw [List.drop_length] at this
          exact this.symm
        have HF := hide (HYes.out hfit)
        have HFit := hide hfit
        have hltI : ¬ (l.length : Int) < (l.length : Int) := by omega
        clear HNo HYes HFt hls hfit
        go_wp2
        go_loopw [5, 6, 7, 8, 9, 10, 11, 12] (fun vb vf vi _ _ _ _ _ wr => ∃ (i f : Nat) (dn : List Nat), i ≤ l.length ∧ vi = .int .i64 (i : Nat) ∧ vf = .int .u64 (f : Nat) ∧ f < 18446744073709551616 ∧ Hid (Goes l i f dn) ∧ Hid (Own wr w.heap.size vb (flatW dn)) ∧ Hid (Below w.heap.size w wr)) (fun _ _ vi _ _ _ _ _ _ => l.length - (intOf vi).toNat)
        case atStart => exact ⟨0, 0, [], by omega, rfl, rfl, by omega, .inl ⟨rfl, rfl⟩, Own.nil _ _, HBk.out⟩
        case round =>
          obtain ⟨i, f, dn, hi, rfl, rfl, hf, HG, HOw, HBr⟩ := hrel
          by_cases hlt : i < l.length
          · have hltI : (i : Int) < (l.length : Int) := by omega
            obtain ⟨R, M, hRM⟩ : ∃ R M, rowN f (l.drop i) 1 0 = (R, M) := ⟨_, _, rfl⟩
            have HRM := hide hRM
            have HFd : Hid (fitP 0 (l.drop i) = true) := fitP_drop _ _ HFit.out i
            obtain ⟨u5, hu5⟩ := HOw.out.isSlice
            obtain ⟨u5n, u5c, rfl⟩ := hu5
            have hA := HA.out.below HBr.out
            obtain ⟨g, o, rfl, y0, hp0⟩ := hA.at i hlt
            have HAr := hide hA
            have HOne : Hid ((i = 0 ∨ ∃ R, rowN f (l.drop i) 1 0 = (R, 0)) → Goes l (i + 1) (l[i] + 8) (dn ++ [l[i]])) := fun k => HG.out.one hlt k
            have hpB : l[i] ≤ 18446744073709551103 := by have := (fitP_head HFd.out (List.drop_eq_getElem_cons hlt)).1; exact this
            obtain ⟨p0, hpe⟩ : ∃ p0, l[i] = p0 := ⟨_, rfl⟩
            have HPE := hide hpe
            rw [hpe] at y0 hp0 hpB HOne
            clear hRM hA hpe
            go_wp2
            go_loopw [8, 9, 10, 11, 12] (fun vr vt _ _ _ wx => wx = wr ∧ ∃ t r least a : Nat, i + t ≤ l.length ∧ vt = .int .i64 (t : Nat) ∧ (i = 0 → t = 0) ∧ 1 ≤ r ∧ vr = .int .u64 ((r - 1 : Nat) : Int) ∧ r < 2 ^ (1 + a) ∧ a ≤ 63 ∧ Hid (a * 8 + f ≤ least ∨ a = 0) ∧ Hid (fitP least (l.drop (i + t)) = true) ∧ Hid (rowN f (l.drop (i + t)) r t = (R, M))) (fun _ vt _ _ _ _ => l.length - (intOf vt).toNat)
            case atStart => exact ⟨rfl, 0, 1, 0, 0, by omega, rfl, fun _ => rfl, by omega, rfl, by decide, by omega, .inr rfl, HFd, HRM⟩
            case round =>
              obtain ⟨rfl, t, r, least, a, hit, rfl, ht0, hr1, rfl, hra, ha63, HLs, HFx, HRx⟩ := hrel
              obtain ⟨rm, hrm⟩ : ∃ rm, r - 1 = rm := ⟨_, rfl⟩
              rw [hrm]
              have hpa := pow_le63 ha63
              have hr64 : r ≤ 18446744073709551615 := by
                have : 2 ^ (1 + a) = 2 ^ a * 2 := by rw [Nat.add_comm, Nat.pow_succ]
                omega
              by_cases hi0 : i = 0
              · have htz := ht0 hi0
                have hi0I : decide ((0 : Int) < (i : Int)) = false := by simp; omega
                have hi0J : decide (0 < i) = false := by simp; omega
                have htI : decide ((0 : Int) < (t : Int)) = false := by simp; omega
                have htJ : decide (0 < t) = false := by simp; omega
                have HGn := hide (HOne.out (.inl hi0))
                clear htz hi0 ht0
                have hP := ref_Put wr w.heap.size _ (flatW dn) p0 8 HOw.out HBr.out.size (by have := HG.out.len hl5; omega) (by omega)
                go_wp2_with fail
                refine hP.mono ?_
                rintro e w2 ⟨v2, rfl, o2, gx⟩
                have HB2 : Hid (Below w.heap.size w w2) := HBr.out.grown gx.1 HBr.out.size (fun k hk => (HOw.out.base k hk).1)
                have HO2 : Hid (Own w2 w.heap.size v2 (flatW (dn ++ [p0]))) := by rw [Hid, flatW_snoc]; exact o2
                obtain ⟨g3, o3, e3, y3, _⟩ := (HA.out.below HB2.out).at i hlt
                injection e3 with e3
                injection e3 with e4 e5
                subst e4 e5
                rw [HPE.out] at y3
                have hp8 : (p0 : Int) + 8 ≤ 18446744073709551615 := by omega
                clear hP o2 gx y0
                go_wp2
                go_roundw
                case rel => exact ⟨i + 1, p0 + 8, dn ++ [p0], by omega, by go_num, by go_num, by omega, HGn, HO2, HB2⟩
                case measure => simp [intOf]; omega
              · have hi0I : decide ((0 : Int) < (i : Int)) = true := by simp; omega
                have hi0J : decide (0 < i) = true := by simp; omega
                by_cases hjt : i + t < l.length
                · obtain ⟨j, hj⟩ : ∃ j, i + t = j := ⟨_, rfl⟩
                  have hjI : (i : Int) + (t : Int) = (j : Int) := by omega
                  rw [hj] at hjt HFx HRx
                  have hjlI : decide ((j : Int) < (l.length : Int)) = true := by simp; omega
                  have hjlJ : (j : Int) < (l.length : Int) := by omega
                  obtain ⟨g', o', e', z0, hp⟩ := HAr.out.at j hjt
                  injection e' with e'
                  injection e' with e1 e2
                  subst e1 e2
                  have HR2 : Hid ((if f ≤ l[j] ∧ (l[j] - f) % 8 = 0 ∧ l[j] - f < 504 then rowN f (l.drop (j + 1)) (r ||| 2 ^ (1 + (l[j] - f) / 8)) (t + 1) else (r, t)) = (R, M)) := by rw [Hid, ← rowN_at f l j r t hjt]; exact HRx.out
                  have hfx := fitP_head HFx.out (List.drop_eq_getElem_cons hjt)
                  have hle : least ≤ l[j] := by
                    have := HFx.out
                    rw [List.drop_eq_getElem_cons hjt] at this
                    simp only [fitP, Bool.and_eq_true, decide_eq_true_eq] at this
                    exact this.1.2.1
                  generalize l[j] = p at *
                  have HF3 := hide hfx.2
                  have hpb := hfx.1
                  clear hfx HFx HRx
                  by_cases hin : f ≤ p ∧ (p - f) % 8 = 0 ∧ p - f < 504
                  · obtain ⟨x, hx⟩ : ∃ x, p = f + 8 * x := ⟨(p - f) / 8, by omega⟩
                    have hx63 : x < 63 := by omega
                    have hax : a ≤ x := by rcases HLs.out with k | k <;> omega
                    obtain ⟨hos, hob⟩ := or_sum hra hax
                    have HR3 : Hid (rowN f (l.drop (j + 1)) (r + 2 ^ (1 + x)) (t + 1) = (R, M)) := by
                      have := HR2.out
                      rw [if_pos hin, show (p - f) / 8 = x by omega, hos] at this
                      exact this
                    have m1 : decide ((p : Int) < (f : Int)) = false := by simp; omega
                    have m1b : decide (p < f) = false := by simp; omega
                    obtain ⟨d, hd⟩ : ∃ d, p = f + d := ⟨p - f, by omega⟩
                    have hdI : (p : Int) - (f : Int) = (d : Int) := by omega
                    have m2 : decide ((496 : Int) < (d : Int)) = false := by simp; omega
                    have m2b : decide (496 < d) = false := by simp; omega
                    have wd : IntKind.u64.wrap (d : Int) = (d : Int) := by rw [IntKind.wrap_u64]; omega
                    have m3 : ((d : Int) % 8 != 0) = false := by simp; omega
                    have HX := hide hx
                    have hpI : (p : Int) ≤ 18446744073709551103 := by omega
                    have hxA : f + 8 * x ≤ p := by omega
                    have hxB : p ≤ f + 8 * x := by omega
                    clear hos HR2 hin hd HLs hx
                    go_wp2
                    go_loopw [11, 12] (fun vb vk wy => wy = wr ∧ ∃ s : Nat, s ≤ x ∧ vk = .int .u64 ((f + 8 * s : Nat) : Int) ∧ vb = .int .u64 ((2 ^ (1 + s) : Nat) : Int)) (fun _ vk _ => p - (intOf vk).toNat)
                    case atStart => exact ⟨rfl, 0, by omega, rfl, rfl⟩
                    case round =>
                      obtain ⟨rfl, s, hs, rfl, rfl⟩ := hrel
                      have hps := pow_le63 (x := 1 + s) (by omega)
                      have epw : 2 ^ (1 + (s + 1)) = 2 ^ (1 + s) * 2 := by rw [show 1 + (s + 1) = (1 + s) + 1 by omega, Nat.pow_succ]
                      have EPW := hide epw
                      obtain ⟨ks, hks⟩ : ∃ ks, f + 8 * s = ks := ⟨_, rfl⟩
                      have HKS := hide hks
                      rw [hks]
                      by_cases hsx : s < x
                      · have hps2 := pow_le63 (x := 1 + (s + 1)) (by omega)
                        have hkI : (ks : Int) < (p : Int) := by omega
                        have hkI2 : (ks : Int) + 8 ≤ 18446744073709551615 := by omega
                        generalize 2 ^ (1 + s) = bt at *
                        have hb2 : (bt : Int) * 2 ≤ 18446744073709551615 := by omega
                        clear epw hps2
                        go_wp2
                        go_roundw
                        case rel => exact ⟨by trivial, s + 1, by omega, by rw [show f + 8 * (s + 1) = ks + 8 by have := HKS.out; omega]; go_num, by rw [EPW.out]; go_num⟩
                        case measure => simp [intOf]; omega
                      · have hse : s = x := by omega
                        subst hse
                        have hkI : ¬ (ks : Int) < (p : Int) := by omega
                        have hsum : ((rm : Int) + ((2 ^ (1 + s) : Nat) : Int)) ≤ 18446744073709551615 := by
                          have e2 : 2 ^ (1 + (s + 1)) = 2 ^ (1 + s) * 2 := epw
                          omega
                        have HOB := hide hob
                        generalize hbt : 2 ^ (1 + s) = bt at *
                        clear epw hps
                        go_wp2
                        go_roundw
                        case rel => exact ⟨by trivial, t + 1, r + bt, p + 8, s + 1, by omega, by go_num, fun k => absurd k hi0, by omega, by rw [show r + bt - 1 = rm + bt by omega]; go_num, HOB.out, by omega, .inl (by have := HX.out; omega), by rw [Hid, show i + (t + 1) = j + 1 by omega]; exact HF3.out, by rw [Hid, show i + (t + 1) = j + 1 by omega]; exact HR3.out⟩
                        case measure => simp [intOf]; omega
                  · have hRMe : r = R ∧ t = M := by
                      have := HR2.out
                      rw [if_neg hin] at this
                      injection this with h1 h2; exact ⟨h1, h2⟩
                    obtain ⟨rfl, rfl⟩ := hRMe
                    clear HR2
                    have CASES : (p < f) ∨ (f ≤ p ∧ 496 < p - f) ∨ (f ≤ p ∧ p - f ≤ 496 ∧ (p - f) % 8 ≠ 0) := by omega
                    rcases CASES with k1 | ⟨k1, k2⟩ | ⟨k1, k2, k3⟩
                    · have m1 : decide ((p : Int) < (f : Int)) = true := by simp; omega
                      have m1b : decide (p < f) = true := by simp; omega
                      by_cases ht1 : 0 < t
                      · have hroom := row_room HFd.out HRM.out ht1
                        have HGn : Hid (Goes l (i + t) (f + 504) (dn ++ [r])) := HG.out.row (by omega) HRM.out ht1
                        have ht1I : decide ((0 : Int) < (t : Int)) = true := by simp; omega
                        have ht1J : decide (0 < t) = true := by simp; omega
                        have hP := ref_Put wr w.heap.size _ (flatW dn) r 8 HOw.out HBr.out.size (by have := HG.out.len hl5; omega) (by omega)
                        have hrI : (rm : Int) + 1 = (r : Int) := by omega
                        have hf5 : (f : Int) + 504 ≤ 18446744073709551615 := by omega
                        go_wp2_with fail
                        refine hP.mono ?_
                        rintro e w2 ⟨v2, rfl, o2, gx⟩
                        have HB2 : Hid (Below w.heap.size w w2) := HBr.out.grown gx.1 HBr.out.size (fun k hk => (HOw.out.base k hk).1)
                        have HO2 : Hid (Own w2 w.heap.size v2 (flatW (dn ++ [r]))) := by rw [Hid, flatW_snoc]; exact o2
                        clear hP o2 gx
                        go_wp2
                        go_roundw
                        case rel => exact ⟨i + t, f + 504, dn ++ [r], by omega, by go_num, by go_num, by omega, HGn, HO2, HB2⟩
                        case measure => simp [intOf]; omega
                      · have htz : t = 0 := by omega
                        have htI : decide ((0 : Int) < (t : Int)) = false := by simp; omega
                        have htJ : decide (0 < t) = false := by simp; omega
                        have HGn := hide (HOne.out (.inr ⟨_, by have := HRM.out; rw [htz] at this; exact this⟩))
                        clear htz ht1 ht0
                        have hP := ref_Put wr w.heap.size _ (flatW dn) p0 8 HOw.out HBr.out.size (by have := HG.out.len hl5; omega) (by omega)
                        go_wp2_with fail
                        refine hP.mono ?_
                        rintro e w2 ⟨v2, rfl, o2, gx⟩
                        have HB2 : Hid (Below w.heap.size w w2) := HBr.out.grown gx.1 HBr.out.size (fun k hk => (HOw.out.base k hk).1)
                        have HO2 : Hid (Own w2 w.heap.size v2 (flatW (dn ++ [p0]))) := by rw [Hid, flatW_snoc]; exact o2
                        obtain ⟨g3, o3, e3, y3, _⟩ := (HA.out.below HB2.out).at i hlt
                        injection e3 with e3
                        injection e3 with e4 e5
                        subst e4 e5
                        rw [HPE.out] at y3
                        have hp8 : (p0 : Int) + 8 ≤ 18446744073709551615 := by omega
                        clear hP o2 gx y0
                        go_wp2
                        go_roundw
                        case rel => exact ⟨i + 1, p0 + 8, dn ++ [p0], by omega, by go_num, by go_num, by omega, HGn, HO2, HB2⟩
                        case measure => simp [intOf]; omega
                    · have m1 : decide ((p : Int) < (f : Int)) = false := by simp; omega
                      have m1b : decide (p < f) = false := by simp; omega
                      obtain ⟨d, hd⟩ : ∃ d, p = f + d := ⟨p - f, by omega⟩
                      have hdI : (p : Int) - (f : Int) = (d : Int) := by omega
                      have m2 : decide ((496 : Int) < (d : Int)) = true := by simp; omega
                      have m2b : decide (496 < d) = true := by simp; omega
                      have wd : IntKind.u64.wrap (d : Int) = (d : Int) := by rw [IntKind.wrap_u64]; omega
                      clear hd
                      by_cases ht1 : 0 < t
                      · have hroom := row_room HFd.out HRM.out ht1
                        have HGn : Hid (Goes l (i + t) (f + 504) (dn ++ [r])) := HG.out.row (by omega) HRM.out ht1
                        have ht1I : decide ((0 : Int) < (t : Int)) = true := by simp; omega
                        have ht1J : decide (0 < t) = true := by simp; omega
                        have hP := ref_Put wr w.heap.size _ (flatW dn) r 8 HOw.out HBr.out.size (by have := HG.out.len hl5; omega) (by omega)
                        have hrI : (rm : Int) + 1 = (r : Int) := by omega
                        have hf5 : (f : Int) + 504 ≤ 18446744073709551615 := by omega
                        go_wp2_with fail
                        refine hP.mono ?_
                        rintro e w2 ⟨v2, rfl, o2, gx⟩
                        have HB2 : Hid (Below w.heap.size w w2) := HBr.out.grown gx.1 HBr.out.size (fun k hk => (HOw.out.base k hk).1)
                        have HO2 : Hid (Own w2 w.heap.size v2 (flatW (dn ++ [r]))) := by rw [Hid, flatW_snoc]; exact o2
                        clear hP o2 gx
                        go_wp2
                        go_roundw
                        case rel => exact ⟨i + t, f + 504, dn ++ [r], by omega, by go_num, by go_num, by omega, HGn, HO2, HB2⟩
                        case measure => simp [intOf]; omega
                      · have htz : t = 0 := by omega
                        have htI : decide ((0 : Int) < (t : Int)) = false := by simp; omega
                        have htJ : decide (0 < t) = false := by simp; omega
                        have HGn := hide (HOne.out (.inr ⟨_, by have := HRM.out; rw [htz] at this; exact this⟩))
                        clear htz ht1 ht0
                        have hP := ref_Put wr w.heap.size _ (flatW dn) p0 8 HOw.out HBr.out.size (by have := HG.out.len hl5; omega) (by omega)
                        go_wp2_with fail
                        refine hP.mono ?_
                        rintro e w2 ⟨v2, rfl, o2, gx⟩
                        have HB2 : Hid (Below w.heap.size w w2) := HBr.out.grown gx.1 HBr.out.size (fun k hk => (HOw.out.base k hk).1)
                        have HO2 : Hid (Own w2 w.heap.size v2 (flatW (dn ++ [p0]))) := by rw [Hid, flatW_snoc]; exact o2
                        obtain ⟨g3, o3, e3, y3, _⟩ := (HA.out.below HB2.out).at i hlt
                        injection e3 with e3
                        injection e3 with e4 e5
                        subst e4 e5
                        rw [HPE.out] at y3
                        have hp8 : (p0 : Int) + 8 ≤ 18446744073709551615 := by omega
                        clear hP o2 gx y0
                        go_wp2
                        go_roundw
                        case rel => exact ⟨i + 1, p0 + 8, dn ++ [p0], by omega, by go_num, by go_num, by omega, HGn, HO2, HB2⟩
                        case measure => simp [intOf]; omega
                    · have m1 : decide ((p : Int) < (f : Int)) = false := by simp; omega
                      have m1b : decide (p < f) = false := by simp; omega
                      obtain ⟨d, hd⟩ : ∃ d, p = f + d := ⟨p - f, by omega⟩
                      have hdI : (p : Int) - (f : Int) = (d : Int) := by omega
                      have m2 : decide ((496 : Int) < (d : Int)) = false := by simp; omega
                      have m2b : decide (496 < d) = false := by simp; omega
                      have wd : IntKind.u64.wrap (d : Int) = (d : Int) := by rw [IntKind.wrap_u64]; omega
                      have m3 : ((d : Int) % 8 != 0) = true := by simp; omega
                      clear hd
                      by_cases ht1 : 0 < t
                      · have hroom := row_room HFd.out HRM.out ht1
                        have HGn : Hid (Goes l (i + t) (f + 504) (dn ++ [r])) := HG.out.row (by omega) HRM.out ht1
                        have ht1I : decide ((0 : Int) < (t : Int)) = true := by simp; omega
                        have ht1J : decide (0 < t) = true := by simp; omega
                        have hP := ref_Put wr w.heap.size _ (flatW dn) r 8 HOw.out HBr.out.size (by have := HG.out.len hl5; omega) (by omega)
                        have hrI : (rm : Int) + 1 = (r : Int) := by omega
                        have hf5 : (f : Int) + 504 ≤ 18446744073709551615 := by omega
                        go_wp2_with fail
                        refine hP.mono ?_
                        rintro e w2 ⟨v2, rfl, o2, gx⟩
                        have HB2 : Hid (Below w.heap.size w w2) := HBr.out.grown gx.1 HBr.out.size (fun k hk => (HOw.out.base k hk).1)
                        have HO2 : Hid (Own w2 w.heap.size v2 (flatW (dn ++ [r]))) := by rw [Hid, flatW_snoc]; exact o2
                        clear hP o2 gx
                        go_wp2
                        go_roundw
                        case rel => exact ⟨i + t, f + 504, dn ++ [r], by omega, by go_num, by go_num, by omega, HGn, HO2, HB2⟩
                        case measure => simp [intOf]; omega
                      · have htz : t = 0 := by omega
                        have htI : decide ((0 : Int) < (t : Int)) = false := by simp; omega
                        have htJ : decide (0 < t) = false := by simp; omega
                        have HGn := hide (HOne.out (.inr ⟨_, by have := HRM.out; rw [htz] at this; exact this⟩))
                        clear htz ht1 ht0
                        have hP := ref_Put wr w.heap.size _ (flatW dn) p0 8 HOw.out HBr.out.size (by have := HG.out.len hl5; omega) (by omega)
                        go_wp2_with fail
                        refine hP.mono ?_
                        rintro e w2 ⟨v2, rfl, o2, gx⟩
                        have HB2 : Hid (Below w.heap.size w w2) := HBr.out.grown gx.1 HBr.out.size (fun k hk => (HOw.out.base k hk).1)
                        have HO2 : Hid (Own w2 w.heap.size v2 (flatW (dn ++ [p0]))) := by rw [Hid, flatW_snoc]; exact o2
                        obtain ⟨g3, o3, e3, y3, _⟩ := (HA.out.below HB2.out).at i hlt
                        injection e3 with e3
                        injection e3 with e4 e5
                        subst e4 e5
                        rw [HPE.out] at y3
                        have hp8 : (p0 : Int) + 8 ≤ 18446744073709551615 := by omega
                        clear hP o2 gx y0
                        go_wp2
                        go_roundw
                        case rel => exact ⟨i + 1, p0 + 8, dn ++ [p0], by omega, by go_num, by go_num, by omega, HGn, HO2, HB2⟩
                        case measure => simp [intOf]; omega
                · have hte : i + t = l.length := by omega
                  have hRMe : r = R ∧ t = M := by
                    have := HRx.out
                    rw [hte, rowN_end] at this
                    injection this with h1 h2; exact ⟨h1, h2⟩
                  obtain ⟨rfl, rfl⟩ := hRMe
                  have ht1 : 0 < t := by omega
                  have hjI : decide ((i : Int) + (t : Int) < (l.length : Int)) = false := by simp; omega
                  have hroom := row_room HFd.out HRM.out ht1
                  have HGn : Hid (Goes l (i + t) (f + 504) (dn ++ [r])) := HG.out.row (by omega) HRM.out ht1
                  have ht1I : decide ((0 : Int) < (t : Int)) = true := by simp; omega
                  have ht1J : decide (0 < t) = true := by simp; omega
                  have hP := ref_Put wr w.heap.size _ (flatW dn) r 8 HOw.out HBr.out.size (by have := HG.out.len hl5; omega) (by omega)
                  have hrI : (rm : Int) + 1 = (r : Int) := by omega
                  have hf5 : (f : Int) + 504 ≤ 18446744073709551615 := by omega
                  go_wp2_with fail
                  refine hP.mono ?_
                  rintro e w2 ⟨v2, rfl, o2, gx⟩
                  have HB2 : Hid (Below w.heap.size w w2) := HBr.out.grown gx.1 HBr.out.size (fun k hk => (HOw.out.base k hk).1)
                  have HO2 : Hid (Own w2 w.heap.size v2 (flatW (dn ++ [r]))) := by rw [Hid, flatW_snoc]; exact o2
                  clear hP o2 gx
                  go_wp2
                  go_roundw
                  case rel => exact ⟨i + t, f + 504, dn ++ [r], by omega, by go_num, by go_num, by omega, HGn, HO2, HB2⟩
                  case measure => simp [intOf]; omega
          · have him : i = l.length := by omega
            subst him
            have HE := hide HG.out.ends
            obtain ⟨u5, hu5⟩ := HOw.out.isSlice
            go_wp2
            go_ret2
            exact ⟨by rw [HF.out]; exact ⟨_, rfl, by rw [← HE.out]; exact HOw.out⟩, HBr.out⟩
end Go.Proofs.YtkelipoiopkokaaDoor
