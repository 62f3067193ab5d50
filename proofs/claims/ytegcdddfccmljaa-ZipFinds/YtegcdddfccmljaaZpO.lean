
/-
  Layer 7's reference: List.
-/
import Derived.Test.YtegcdddfccmljaaZpN
set_option linter.unusedVariables false
namespace Go.Proofs.Ytegcdddfccmljaa
open Go.RowKit Go.PlainAid
theorem win_win (l : List UInt8) (f s p q : Nat) (h : p + q ≤ s) : win (win l f s) p q = win l (f + p) q := by
  unfold win
  rw [List.drop_take, List.drop_drop, List.take_take, Nat.min_eq_left (by omega)]
theorem rd_win (l : List UInt8) (f s p k : Nat) (h : p + k ≤ s) (hs : f + s ≤ l.length) : rd (win l f s) p k = rd l (f + p) k := by
  rw [rd_in (by rw [win_len l f s hs]; exact h), rd_in (by omega), win_win l f s p k h]
/-- An entry of the list, told by its place in the whole. -/
theorem entry_in (l : List UInt8) (f s p : Nat) (hp : p ≤ s) (hs : f + s ≤ l.length) : entryAt (win l f s) p =
    if s - p < 46 then none else if rd l (f + p) 4 = 33639248 then
      if s - p < 46 + rd l (f + p + 28) 2 + rd l (f + p + 30) 2 + rd l (f + p + 32) 2 then none else
      some (⟨win l (f + p + 46) (rd l (f + p + 28) 2), rd l (f + p + 10) 2, rd l (f + p + 24) 4, rd l (f + p + 20) 4, rd l (f + p + 42) 4⟩, 46 + rd l (f + p + 28) 2 + rd l (f + p + 30) 2 + rd l (f + p + 32) 2)
    else none := by
  unfold entryAt
  rw [win_len l f s hs]
  by_cases h1 : s - p < 46
  · rw [if_pos h1, if_neg (fun e => by omega)]
  · rw [if_neg h1, rd_win l f s p 4 (by omega) hs]
    by_cases h2 : rd l (f + p) 4 = 33639248
    · rw [if_pos h2, if_pos ⟨by omega, h2⟩, rd_win l f s (p + 28) 2 (by omega) hs, rd_win l f s (p + 30) 2 (by omega) hs, rd_win l f s (p + 32) 2 (by omega) hs, rd_win l f s (p + 10) 2 (by omega) hs, rd_win l f s (p + 24) 4 (by omega) hs, rd_win l f s (p + 20) 4 (by omega) hs, rd_win l f s (p + 42) 4 (by omega) hs]
      simp only [← Nat.add_assoc]
      by_cases h3 : s - p < 46 + rd l (f + p + 28) 2 + rd l (f + p + 30) 2 + rd l (f + p + 32) 2
      · rw [if_pos h3, if_neg (by omega)]
      · rw [if_neg h3, if_pos (by omega), win_win l f s (p + 46) _ (by omega), ← Nat.add_assoc]
    · rw [if_neg h2, if_neg (fun e => h2 e.2)]
theorem built_E (n : ByteArray) (m s u p : Int) : Try.prog.built 33 [(0, .string n), (1, .int .i64 m), (2, .int .u64 s), (3, .int .u64 u), (4, .int .u64 p)] = some #[.string n, .int .i64 m, .int .u64 s, .int .u64 u, .int .u64 p] := by kernel_rfl
theorem build_E {ops : Array Oper} {rest : List Oper} {o : Oper} {a : Act} {Q : Exit → Act → World → Prop} {w : World} (hgd : o.guard = none) (x0 x1 x2 x3 x4 : Operand) (ho : o.op = .build 33 #[(0, x0), (1, x1), (2, x2), (3, x3), (4, x4)])
    (n : ByteArray) (m s u p : Int) (h0 : a.eval x0 = .string n) (h1 : a.eval x1 = .int .i64 m) (h2 : a.eval x2 = .int .u64 s) (h3 : a.eval x3 = .int .u64 u) (h4 : a.eval x4 = .int .u64 p)
    (h : wpList Try.prog ops Q rest (a.put o.dst (.agg #[.string n, .int .i64 m, .int .u64 s, .int .u64 u, .int .u64 p])) w) : wpList Try.prog ops Q (o :: rest) a w := by
  have hr := run_build (P := Try.prog) w 33 #[(0, .string n), (1, .int .i64 m), (2, .int .u64 s), (3, .int .u64 u), (4, .int .u64 p)] _ (built_E n m s u p)
  refine wpList_plain hgd fun _ hK => ?_
  unfold Oper.wp execOp
  simp only [ho, List.map_toArray, List.map_cons, List.map_nil, h0, h1, h2, h3, h4, Sem.run_bind, hr, Result.andThen_ok]
  exact hK _ _ h
/-- What the reference's List answers. -/
def ListsR (w' : World) (B : Nat) (o : Option (List En × Nat)) (e : Ending) : Prop :=
  match o with
  | none => e = .returned (.tuple #[.slice none 0 0, .int .u64 0, .int .i64 70])
  | some (es, f) => ∃ v, e = .returned (.tuple #[v, .int .u64 f, .int .i64 0]) ∧ OwnE w' 33 B v es
set_option maxHeartbeats 8000000 in
set_option maxRecDepth 20000 in
theorem ref_List (w : World) (v : Value) (l : List UInt8) (h : Arg w v l) (hl : l.length ≤ 263144) :
    Calls Try.prog 8 #[v] w fun e w' => ListsR w' w.heap.size (readZ l) e ∧ Below w.heap.size w w' := by
  have HA : Hid (Arg w v l) := h
  obtain ⟨a, cap, rfl, hlc, hcm, hl12⟩ := h.isSlice
  have HBR : Hid (Below w.heap.size w w) := Below.refl _ _
  have hF := ref_Last w _ l h (by omega)
  obtain ⟨O, hO⟩ : ∃ O, readZ l = O := ⟨_, rfl⟩
  have HO : Hid (readZ l = O) := hO
  rw [hO]
  clear hO
  obtain ⟨n, hn⟩ : ∃ n, l.length = n := ⟨_, rfl⟩
  have HN : Hid (l.length = n) := hn
  have hcap : cap ≤ 9223372036854775807 := by unfold maxLen at hcm; omega
  rw [hn] at hlc hl12 hl hF ⊢ HA
  clear hn hcm h
  by_cases hbig : 262144 < n
  · have hbI : (262144 : Int) < (n : Int) := by omega
    have HV : Hid (O = none) := by rw [Hid, ← HO.out, readZ, if_pos (by rw [HN.out]; exact hbig)]
    clear HO
    cases hLO : lastOf l with
    | none =>
      rw [hLO] at hF
      simp only [lastW] at hF
      clear hLO
      go_enter Try.func8, Try.ntmps8
      go_wp2_with fail
      refine hF.mono ?_
      rintro e w1 ⟨rfl, rfl⟩
      go_wp2
      go_ret3
      exact ⟨by rw [HV.out]; rfl, HBR.out⟩
    | some p =>
      rw [hLO] at hF
      simp only [lastW] at hF
      clear hLO
      go_enter Try.func8, Try.ntmps8
      go_wp2_with fail
      refine hF.mono ?_
      rintro e w1 ⟨rfl, rfl⟩
      go_wp2
      go_ret3
      exact ⟨by rw [HV.out]; rfl, HBR.out⟩
  have hbD : decide ((262144 : Int) < (n : Int)) = false := decide_eq_false (by omega)
  have hnI : (n : Int) < 300000 := by omega
  have hOe := HO.out
  rw [readZ, if_neg (by rw [HN.out]; exact hbig)] at hOe
  clear HO
  cases hLO : lastOf l with
  | none =>
    rw [hLO] at hF hOe
    simp only [lastW] at hF hOe
    subst hOe
    clear hLO
    go_enter Try.func8, Try.ntmps8
    go_wp2_with fail
    refine hF.mono ?_
    rintro e w1 ⟨rfl, rfl⟩
    go_wp2
    go_ret3
    exact ⟨rfl, HBR.out⟩
  | some p =>
    have hp22 := lastOf_is hLO
    rw [HN.out] at hp22
    rw [hLO] at hF hOe
    simp only [lastW] at hF hOe
    clear hLO
    have h4 := ref_n w _ l HA.out (p + 4) 2 (by omega) (by omega) (by omega)
    have h6 := ref_n w _ l HA.out (p + 6) 2 (by omega) (by omega) (by omega)
    have h8 := ref_n w _ l HA.out (p + 8) 2 (by omega) (by omega) (by omega)
    have h10 := ref_n w _ l HA.out (p + 10) 2 (by omega) (by omega) (by omega)
    have h12 := ref_n w _ l HA.out (p + 12) 4 (by omega) (by omega) (by omega)
    have h16 := ref_n w _ l HA.out (p + 16) 4 (by omega) (by omega) (by omega)
    have b10 := rd2 l (p + 10)
    have b12 := rd4 l (p + 12)
    have b16 := rd4 l (p + 16)
    generalize rd l (p + 4) 2 = q4 at *
    generalize rd l (p + 6) 2 = q6 at *
    generalize rd l (p + 8) 2 = q8 at *
    generalize rd l (p + 10) 2 = m at *
    generalize rd l (p + 12) 4 = s at *
    generalize rd l (p + 16) 4 = f at *
    have hpI : (p : Int) + 22 ≤ (n : Int) := by omega
    have hsI : (s : Int) < 4294967296 := by omega
    have hfI : (f : Int) < 4294967296 := by omega
    have HOE := hide hOe
    clear hOe
    rcases (Decidable.em (q4 = 0)).symm with c4 | c4
    · have HV : Hid (O = none) := by rw [Hid, ← HOE.out, if_neg (fun e => c4 e.1)]
      have hb : ((q4 : Int) != 0) = true := by simp; omega
      clear HOE
      go_enter Try.func8, Try.ntmps8
      go_wp2_with fail
      refine hF.mono ?_
      rintro e w1 ⟨rfl, rfl⟩
      go_wp2_with fail
      refine h10.mono ?_
      rintro e w1 ⟨rfl, rfl⟩
      go_wp2_with fail
      refine h12.mono ?_
      rintro e w1 ⟨rfl, rfl⟩
      go_wp2_with fail
      refine h16.mono ?_
      rintro e w1 ⟨rfl, rfl⟩
      go_wp2_with fail
      refine h4.mono ?_
      rintro e w1 ⟨rfl, rfl⟩
      go_wp2
      go_ret3
      exact ⟨by rw [HV.out]; rfl, HBR.out⟩
    subst c4
    rcases (Decidable.em (q6 = 0)).symm with c6 | c6
    · have HV : Hid (O = none) := by rw [Hid, ← HOE.out, if_neg (fun e => c6 e.2)]
      have hb : ((q6 : Int) != 0) = true := by simp; omega
      clear HOE
      go_enter Try.func8, Try.ntmps8
      go_wp2_with fail
      refine hF.mono ?_
      rintro e w1 ⟨rfl, rfl⟩
      go_wp2_with fail
      refine h10.mono ?_
      rintro e w1 ⟨rfl, rfl⟩
      go_wp2_with fail
      refine h12.mono ?_
      rintro e w1 ⟨rfl, rfl⟩
      go_wp2_with fail
      refine h16.mono ?_
      rintro e w1 ⟨rfl, rfl⟩
      go_wp2_with fail
      refine h4.mono ?_
      rintro e w1 ⟨rfl, rfl⟩
      go_wp2_with fail
      refine h6.mono ?_
      rintro e w1 ⟨rfl, rfl⟩
      go_wp2
      go_ret3
      exact ⟨by rw [HV.out]; rfl, HBR.out⟩
    subst c6
    have hOe := HOE.out
    rw [if_pos ⟨rfl, rfl⟩] at hOe
    rcases (Decidable.em (q8 = m)).symm with c8 | c8
    · have HV : Hid (O = none) := by rw [Hid, ← hOe, if_neg (fun e => c8 e.1)]
      have hb : ((q8 : Int) != (m : Int)) = true := by simp; omega
      clear HOE hOe
      go_enter Try.func8, Try.ntmps8
      go_wp2_with fail
      refine hF.mono ?_
      rintro e w1 ⟨rfl, rfl⟩
      go_wp2_with fail
      refine h10.mono ?_
      rintro e w1 ⟨rfl, rfl⟩
      go_wp2_with fail
      refine h12.mono ?_
      rintro e w1 ⟨rfl, rfl⟩
      go_wp2_with fail
      refine h16.mono ?_
      rintro e w1 ⟨rfl, rfl⟩
      go_wp2_with fail
      refine h4.mono ?_
      rintro e w1 ⟨rfl, rfl⟩
      go_wp2_with fail
      refine h6.mono ?_
      rintro e w1 ⟨rfl, rfl⟩
      go_wp2_with fail
      refine h8.mono ?_
      rintro e w1 ⟨rfl, rfl⟩
      go_wp2
      go_ret3
      exact ⟨by rw [HV.out]; rfl, HBR.out⟩
    subst c8
    have hb8 : ((q8 : Int) != (q8 : Int)) = false := by simp
    rcases (Decidable.em (f + s ≤ p)).symm with cfs | cfs
    · have HV : Hid (O = none) := by rw [Hid, ← hOe, if_neg (fun e => cfs e.2)]
      have hb : decide ((p : Int) < (f : Int) + (s : Int)) = true := decide_eq_true (by omega)
      clear HOE hOe
      go_enter Try.func8, Try.ntmps8
      go_wp2_with fail
      refine hF.mono ?_
      rintro e w1 ⟨rfl, rfl⟩
      go_wp2_with fail
      refine h10.mono ?_
      rintro e w1 ⟨rfl, rfl⟩
      go_wp2_with fail
      refine h12.mono ?_
      rintro e w1 ⟨rfl, rfl⟩
      go_wp2_with fail
      refine h16.mono ?_
      rintro e w1 ⟨rfl, rfl⟩
      go_wp2_with fail
      refine h4.mono ?_
      rintro e w1 ⟨rfl, rfl⟩
      go_wp2_with fail
      refine h6.mono ?_
      rintro e w1 ⟨rfl, rfl⟩
      go_wp2_with fail
      refine h8.mono ?_
      rintro e w1 ⟨rfl, rfl⟩
      go_wp2
      go_ret3
      exact ⟨by rw [HV.out]; rfl, HBR.out⟩
    rw [if_pos ⟨rfl, cfs⟩] at hOe
    have hb : decide ((p : Int) < (f : Int) + (s : Int)) = false := decide_eq_false (by omega)
    have hin : f + s ≤ l.length := by rw [HN.out]; omega
    have HIN := hide hin
    obtain ⟨E, hE⟩ : ∃ E, entries (win l f s) q8 0 = E := ⟨_, rfl⟩
    rw [hE] at hOe
    have HOE2 := hide hOe
    have HE : Hid (E = (entries (win l f s) (q8 - 0) 0).map ([] ++ ·)) := by rw [Hid, Nat.sub_zero, hE]; cases E <;> simp
    have hfs : (f : Int) + (s : Int) ≤ 300000 := by omega
    have hfs2 : f + s ≤ n := by omega
    clear HOE hOe hE hin
    go_enter Try.func8, Try.ntmps8
    go_wp2_with fail
    refine hF.mono ?_
    rintro e w1 ⟨rfl, rfl⟩
    go_wp2_with fail
    refine h10.mono ?_
    rintro e w1 ⟨rfl, rfl⟩
    go_wp2_with fail
    refine h12.mono ?_
    rintro e w1 ⟨rfl, rfl⟩
    go_wp2_with fail
    refine h16.mono ?_
    rintro e w1 ⟨rfl, rfl⟩
    go_wp2_with fail
    refine h4.mono ?_
    rintro e w1 ⟨rfl, rfl⟩
    go_wp2_with fail
    refine h6.mono ?_
    rintro e w1 ⟨rfl, rfl⟩
    go_wp2_with fail
    refine h8.mono ?_
    rintro e w1 ⟨rfl, rfl⟩
    clear hF h10 h12 h16 h4 h6 h8
    go_wp2
    go_loopw [11, 12, 13, 14, 15, 16] (fun v11 v12 v13 _ _ _ wr => ∃ (i t H : Nat) (acc : List En), i ≤ q8 ∧ v13 = .int .u64 i ∧ v12 = .int .u64 H ∧ Hid (H = f + t) ∧ t ≤ s ∧ Hid (acc.length = i) ∧ Hid (OwnE wr 33 w.heap.size v11 acc) ∧ Hid (Below w.heap.size w wr) ∧ Hid (E = (entries (win l f s) (q8 - i) t).map (acc ++ ·)))
      (fun _ _ v13 _ _ _ _ => q8 - (intOf v13).toNat)
    case atStart => exact ⟨0, 0, f, [], by omega, rfl, rfl, rfl, by omega, rfl, OwnE.nil _ _ _, HBR, HE⟩
    case round =>
      obtain ⟨i, t, H, acc, hi, rfl, rfl, HH, ht, HAC, HOW, HB, HR⟩ := hrel
      by_cases hlt : i < q8
      · have hltI : (i : Int) < (q8 : Int) := by omega
        have hA := HA.out.below HB.out rfl
        have hHe := HH.out
        have r28 := ref_n wr _ l hA (H + 28) 2 (by omega) (by omega) (by omega)
        have r30 := ref_n wr _ l hA (H + 30) 2 (by omega) (by omega) (by omega)
        have r32 := ref_n wr _ l hA (H + 32) 2 (by omega) (by omega) (by omega)
        have r0 := ref_n wr _ l hA H 4 (by omega) (by omega) (by omega)
        have r10 := ref_n wr _ l hA (H + 10) 2 (by omega) (by omega) (by omega)
        have r24 := ref_n wr _ l hA (H + 24) 4 (by omega) (by omega) (by omega)
        have r20 := ref_n wr _ l hA (H + 20) 4 (by omega) (by omega) (by omega)
        have r42 := ref_n wr _ l hA (H + 42) 4 (by omega) (by omega) (by omega)
        have hstep := HR.out
        rw [show q8 - i = (q8 - i - 1) + 1 by omega, entries, entry_in l f s t ht HIN.out, ← hHe] at hstep
        have b28 := rd2 l (H + 28)
        have b30 := rd2 l (H + 30)
        have b32 := rd2 l (H + 32)
        have z10 := rd2 l (H + 10)
        obtain ⟨X, hX⟩ : ∃ X, win l (H + 46) (rd l (H + 28) 2) = X := ⟨_, rfl⟩
        rw [hX] at hstep
        generalize hq28 : rd l (H + 28) 2 = q28 at *
        generalize rd l (H + 30) 2 = q30 at *
        generalize rd l (H + 32) 2 = q32 at *
        generalize rd l H 4 = q0 at *
        generalize rd l (H + 10) 2 = q10 at *
        generalize rd l (H + 24) 4 = q24 at *
        generalize rd l (H + 20) 4 = q20 at *
        generalize rd l (H + 42) 4 = q42 at *
        have HX := hide hX
        clear hX hq28
        obtain ⟨L, hL⟩ : ∃ L, s - t = L := ⟨_, rfl⟩
        rw [hL] at hstep
        have hleft : (f : Int) + (s : Int) - (H : Int) = (L : Int) := by omega
        have hHI : (H : Int) ≤ (f : Int) + (s : Int) := by omega
        have hHn : (H : Int) ≤ 300000 := by omega
        have HL := hide hL
        have HA2 := hide hA
        have HHE := hide hHe
        have i28 : (q28 : Int) < 65536 := by omega
        have i30 : (q30 : Int) < 65536 := by omega
        have i32 : (q32 : Int) < 65536 := by omega
        have i10 : (q10 : Int) < 65536 := by omega
        clear hL hA hHe HR
        rcases (Decidable.em (L < 46)) with cL | cL
        · rw [if_pos cL] at hstep
          simp only [Option.map_none] at hstep
          subst hstep
          have hO2 := HOE2.out
          simp only [Option.map_none] at hO2
          subst hO2
          have hd : decide ((L : Int) < 46) = true := decide_eq_true (by omega)
          have hd2 : (L : Int) < 46 := by omega
          go_wp2_with fail
          refine r28.mono ?_
          rintro e w1 ⟨rfl, rfl⟩
          go_wp2_with fail
          refine r30.mono ?_
          rintro e w1 ⟨rfl, rfl⟩
          go_wp2_with fail
          refine r32.mono ?_
          rintro e w1 ⟨rfl, rfl⟩
          go_wp2
          go_ret3
          exact ⟨rfl, HB.out⟩
        rw [if_neg cL] at hstep
        have hd : decide ((L : Int) < 46) = false := decide_eq_false (by omega)
        rcases (Decidable.em (q0 = 33639248)).symm with c0 | c0
        · rw [if_neg c0] at hstep
          simp only [Option.map_none] at hstep
          subst hstep
          have hO2 := HOE2.out
          simp only [Option.map_none] at hO2
          subst hO2
          have hb0 : ((q0 : Int) != 33639248) = true := by simp; omega
          go_wp2_with fail
          refine r28.mono ?_
          rintro e w1 ⟨rfl, rfl⟩
          go_wp2_with fail
          refine r30.mono ?_
          rintro e w1 ⟨rfl, rfl⟩
          go_wp2_with fail
          refine r32.mono ?_
          rintro e w1 ⟨rfl, rfl⟩
          go_wp2_with fail
          refine r0.mono ?_
          rintro e w1 ⟨rfl, rfl⟩
          go_wp2
          go_ret3
          exact ⟨rfl, HB.out⟩
        subst c0
        rw [if_pos rfl] at hstep
        rcases (Decidable.em (L < 46 + q28 + q30 + q32)) with cG | cG
        · rw [if_pos cG] at hstep
          simp only [Option.map_none] at hstep
          subst hstep
          have hO2 := HOE2.out
          simp only [Option.map_none] at hO2
          subst hO2
          have hd3 : decide ((L : Int) < 46 + (q28 : Int) + (q30 : Int) + (q32 : Int)) = true := decide_eq_true (by omega)
          go_wp2_with fail
          refine r28.mono ?_
          rintro e w1 ⟨rfl, rfl⟩
          go_wp2_with fail
          refine r30.mono ?_
          rintro e w1 ⟨rfl, rfl⟩
          go_wp2_with fail
          refine r32.mono ?_
          rintro e w1 ⟨rfl, rfl⟩
          go_wp2_with fail
          refine r0.mono ?_
          rintro e w1 ⟨rfl, rfl⟩
          go_wp2
          go_ret3
          exact ⟨rfl, HB.out⟩
        rw [if_neg cG] at hstep
        have hd3 : decide ((L : Int) < 46 + (q28 : Int) + (q30 : Int) + (q32 : Int)) = false := decide_eq_false (by omega)
        have hHc : (H : Int) + 46 + (q28 : Int) ≤ (cap : Int) := by have := HHE.out; have := HL.out; omega
        have hHin : H + 46 + q28 ≤ l.length := by have := HHE.out; have := HL.out; rw [HN.out]; omega
        have HST := hide hstep
        clear hstep
        have HR2 : Hid (E = (entries (win l f s) (q8 - (i + 1)) (t + (46 + q28 + q30 + q32))).map ((acc ++ [⟨X, q10, q24, q20, q42⟩]) ++ ·)) := by
          rw [Hid, HST.out, show q8 - (i + 1) = q8 - i - 1 by omega]
          simp only [Option.map_map]
          congr 1
          funext x
          simp
        clear HST
        by_cases hcp : cap = H + 46
        · subst hcp
          have tx : (convert 22 9 (.slice a q28 0)).run Try.prog wr = .ok (.string ⟨X.toArray⟩) wr := by
            have e := HA2.out
            rw [← HN.out] at e
            rw [← HX.out]
            exact (e.cut0 (H + 46) q28 hHin rfl).text
          go_wp2_with fail
          refine r28.mono ?_
          rintro e w1 ⟨rfl, rfl⟩
          go_wp2_with fail
          refine r30.mono ?_
          rintro e w1 ⟨rfl, rfl⟩
          go_wp2_with fail
          refine r32.mono ?_
          rintro e w1 ⟨rfl, rfl⟩
          go_wp2_with fail
          refine r0.mono ?_
          rintro e w1 ⟨rfl, rfl⟩
          go_wp2_with fail
          refine r28.mono ?_
          rintro e w1 ⟨rfl, rfl⟩
          go_wp2_with fail
          refine r10.mono ?_
          rintro e w1 ⟨rfl, rfl⟩
          go_wp2_with fail
          refine r24.mono ?_
          rintro e w1 ⟨rfl, rfl⟩
          go_wp2_with fail
          refine r20.mono ?_
          rintro e w1 ⟨rfl, rfl⟩
          go_wp2_with fail
          refine r42.mono ?_
          rintro e w1 ⟨rfl, rfl⟩
          clear r28 r30 r32 r0 r10 r24 r20 r42 tx
          go_wp2_with (first | (at_builtin; refine append_enR rfl _ _ rfl w.heap.size wr _ acc HOW.out ⟨X, q10, q24, q20, q42⟩ rfl _ rfl rfl (by have := HAC.out; omega) HB.out.size ?_) | (refine build_E rfl _ _ _ _ _ rfl ⟨X.toArray⟩ q10 q24 q20 q42 rfl rfl rfl rfl rfl ?_))
          intro v' w3 h1 h2
          have HB3 : Hid (Below w.heap.size w w3) := HB.out.trans h2
          have HOW3 := hide h1
          have hHL := hide cG
          clear h1 h2 hleft hd hd3 hHc hHI hb cL cG
          go_wp2
          go_roundw
          case rel => exact ⟨i + 1, t + (46 + q28 + q30 + q32), H + (46 + q28 + q30 + q32), acc ++ [⟨X, q10, q24, q20, q42⟩], by omega, by go_num, by go_num, by rw [Hid, HHE.out, Nat.add_assoc], by have := HL.out; have := hHL.out; omega, by rw [Hid, List.length_append, HAC.out]; rfl, HOW3, HB3, HR2⟩
          case measure => simp [intOf]; omega
        · obtain ⟨g, o, rfl⟩ : ∃ g o, a = some ⟨g, o, none⟩ := by
            have e := HA2.out
            rw [← HN.out] at e
            obtain ⟨g, o, c', e2, _⟩ := e.cells (by omega)
            injection e2 with e1
            exact ⟨g, o, e1⟩
          have ad : (Addr.add ⟨g, o, none⟩ (H + 46)) = ⟨g, o + (H + 46), none⟩ := add_at _ _ _
          have tx : (convert 22 9 (.slice (some ⟨g, o + (H + 46), none⟩) q28 (cap - (H + 46)))).run Try.prog wr = .ok (.string ⟨X.toArray⟩) wr := by
            have e := HA2.out
            rw [← HN.out] at e
            rw [← HX.out]
            have q := e.cut (H + 46) q28 hHin hcp
            simp only [Option.map_some, ad] at q
            exact q.text
          go_wp2_with fail
          refine r28.mono ?_
          rintro e w1 ⟨rfl, rfl⟩
          go_wp2_with fail
          refine r30.mono ?_
          rintro e w1 ⟨rfl, rfl⟩
          go_wp2_with fail
          refine r32.mono ?_
          rintro e w1 ⟨rfl, rfl⟩
          go_wp2_with fail
          refine r0.mono ?_
          rintro e w1 ⟨rfl, rfl⟩
          go_wp2_with fail
          refine r28.mono ?_
          rintro e w1 ⟨rfl, rfl⟩
          go_wp2_with fail
          refine r10.mono ?_
          rintro e w1 ⟨rfl, rfl⟩
          go_wp2_with fail
          refine r24.mono ?_
          rintro e w1 ⟨rfl, rfl⟩
          go_wp2_with fail
          refine r20.mono ?_
          rintro e w1 ⟨rfl, rfl⟩
          go_wp2_with fail
          refine r42.mono ?_
          rintro e w1 ⟨rfl, rfl⟩
          clear r28 r30 r32 r0 r10 r24 r20 r42 tx
          go_wp2_with (first | (at_builtin; refine append_enR rfl _ _ rfl w.heap.size wr _ acc HOW.out ⟨X, q10, q24, q20, q42⟩ rfl _ rfl rfl (by have := HAC.out; omega) HB.out.size ?_) | (refine build_E rfl _ _ _ _ _ rfl ⟨X.toArray⟩ q10 q24 q20 q42 rfl rfl rfl rfl rfl ?_))
          intro v' w3 h1 h2
          have HB3 : Hid (Below w.heap.size w w3) := HB.out.trans h2
          have HOW3 := hide h1
          have hHL := hide cG
          clear h1 h2 hleft hd hd3 hHc hHI hb cL cG
          go_wp2
          go_roundw
          case rel => exact ⟨i + 1, t + (46 + q28 + q30 + q32), H + (46 + q28 + q30 + q32), acc ++ [⟨X, q10, q24, q20, q42⟩], by omega, by go_num, by go_num, by rw [Hid, HHE.out, Nat.add_assoc], by have := HL.out; have := hHL.out; omega, by rw [Hid, List.length_append, HAC.out]; rfl, HOW3, HB3, HR2⟩
          case measure => simp [intOf]; omega
      · have him : i = q8 := by omega
        subst him
        have hO := HR.out
        rw [Nat.sub_self, entries, win_len l f s HIN.out] at hO
        have hHe := HH.out
        by_cases hts : t = s
        · subst hts
          rw [if_pos rfl] at hO
          simp only [Option.map_some, List.append_nil] at hO
          subst hO
          have hO2 := HOE2.out
          simp only [Option.map_some] at hO2
          subst hO2
          have hb9 : ((H : Int) != (f : Int) + (t : Int)) = false := by simp; omega
          clear HR hHe hb
          go_wp2
          go_ret3
          exact ⟨⟨_, rfl, HOW.out⟩, HB.out⟩
        · rw [if_neg hts] at hO
          simp only [Option.map_none] at hO
          subst hO
          have hO2 := HOE2.out
          simp only [Option.map_none] at hO2
          subst hO2
          have hb9 : ((H : Int) != (f : Int) + (s : Int)) = true := by simp; omega
          clear HR hHe hts hb hp22 b12 b16 hpI cfs hfs2 ht b10 hb8 hbD hbig hl hl12 hi hlt
          go_wp2
          go_ret3
          exact ⟨rfl, HB.out⟩
end Go.Proofs.Ytegcdddfccmljaa
