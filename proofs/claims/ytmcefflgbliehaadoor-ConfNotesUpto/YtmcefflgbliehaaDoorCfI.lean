
/-
  Layer 18 (conf): take.
-/
import Derived.Test.YtmcefflgbliehaaDoorCfH
set_option linter.unusedVariables false
namespace Go.Proofs.YtmcefflgbliehaaDoor
open Go.RowKit Go.PlainAid Go.Sort
def begC (ss : List Sc) (l : List UInt8) : Bool := Lib.hasSuffix l [93] && nameC (Lib.trimSuffix l [93]) && !(ss.any (isS (Lib.trimSuffix l [93])))
/-- The last part is told a property. -/
def tellS (ss : List Sc) (t : Td) (n : Int) : List Sc :=
  match ss.getLast? with
  | none => ss
  | some x => ss.dropLast ++ [⟨x.name, tellC x.props t n⟩]
/-- What a line does, and its error. -/
def takeC (F : Cf) (l : List UInt8) (n : Int) : Cf × Int :=
  if plainC l = false then (F, 180)
  else if saidC l = [] then (F, 0)
  else if Lib.hasPrefix (saidC l) [91] = true then
    if begC F.secs (Lib.trimPrefix (saidC l) [91]) = true then (⟨F.dirs, F.secs ++ [⟨Lib.trimSuffix (Lib.trimPrefix (saidC l) [91]) [93], []⟩]⟩, 0) else (F, 181)
  else if readB (saidC l) = false then (F, 180)
  else if F.secs = [] then
    if folB (readT (saidC l)) = true then (⟨folD F.dirs (readT (saidC l)) n, F.secs⟩, 0) else (F, 180)
  else (⟨F.dirs, tellS F.secs (readT (saidC l)) n⟩, 0)
theorem take_1 {F : Cf} {l : List UInt8} {n : Int} (h1 : plainC l = false) : takeC F l n = (F, 180) := by unfold takeC; rw [if_pos h1]
theorem take_2 {F : Cf} {l : List UInt8} {n : Int} (h1 : plainC l = true) (h2 : saidC l = []) : takeC F l n = (F, 0) := by unfold takeC; rw [if_neg (by rw [h1]; simp), if_pos h2]
theorem take_3 {F : Cf} {l : List UInt8} {n : Int} (h1 : plainC l = true) (h2 : ¬ saidC l = []) (h3 : Lib.hasPrefix (saidC l) [91] = true) :
    takeC F l n = if begC F.secs (Lib.trimPrefix (saidC l) [91]) = true then (⟨F.dirs, F.secs ++ [⟨Lib.trimSuffix (Lib.trimPrefix (saidC l) [91]) [93], []⟩]⟩, 0) else (F, 181) := by
  unfold takeC; rw [if_neg (by rw [h1]; simp), if_neg h2, if_pos h3]
theorem take_4 {F : Cf} {l : List UInt8} {n : Int} (h1 : plainC l = true) (h2 : ¬ saidC l = []) (h3 : Lib.hasPrefix (saidC l) [91] = false) (h4 : readB (saidC l) = false) : takeC F l n = (F, 180) := by
  unfold takeC; rw [if_neg (by rw [h1]; simp), if_neg h2, if_neg (by rw [h3]; simp), if_pos h4]
theorem take_5 {F : Cf} {l : List UInt8} {n : Int} (h1 : plainC l = true) (h2 : ¬ saidC l = []) (h3 : Lib.hasPrefix (saidC l) [91] = false) (h4 : readB (saidC l) = true) (h5 : F.secs = []) :
    takeC F l n = if folB (readT (saidC l)) = true then (⟨folD F.dirs (readT (saidC l)) n, F.secs⟩, 0) else (F, 180) := by
  unfold takeC; rw [if_neg (by rw [h1]; simp), if_neg h2, if_neg (by rw [h3]; simp), if_neg (by rw [h4]; simp), if_pos h5]
theorem take_6 {F : Cf} {l : List UInt8} {n : Int} (h1 : plainC l = true) (h2 : ¬ saidC l = []) (h3 : Lib.hasPrefix (saidC l) [91] = false) (h4 : readB (saidC l) = true) (h5 : ¬ F.secs = []) :
    takeC F l n = (⟨F.dirs, tellS F.secs (readT (saidC l)) n⟩, 0) := by
  unfold takeC; rw [if_neg (by rw [h1]; simp), if_neg h2, if_neg (by rw [h3]; simp), if_neg (by rw [h4]; simp), if_neg h5]
theorem beg_sc (ss : List Sx) (l : List UInt8) : begC (ss.map Sx.sc) l = begB ss l := by
  unfold begC begB
  rw [List.any_map]
  rfl
theorem tellS_last (A : List Sx) (x : Sx) (t : Td) (n : Int) (pv' : Value) : (A ++ [(⟨x.name, pv', tellC x.props t n⟩ : Sx)]).map Sx.sc = tellS ((A ++ [x]).map Sx.sc) t n := by
  unfold tellS
  simp [Sx.sc]
theorem tn_plain (l : List UInt8) (w : World) (hl : l.length ≤ 1000000000) : Calls Tryd.prog 40 #[.string (tx l)] w fun e w' => e = .returned (.bool (plainC l)) ∧ w = w' := by
  have := conf_plain (tx l) w (by rw [tx_size]; exact hl)
  rw [data_tx] at this
  exact this.mono fun e w' ⟨h1, h2⟩ => ⟨h1, h2.symm⟩
theorem said_len (l : List UInt8) : (saidC l).length ≤ l.length := Nat.le_trans (trim_len _) (cut_len l [35]).1
theorem pref_len (l p : List UInt8) : (Lib.trimPrefix l p).length ≤ l.length := by
  unfold Lib.trimPrefix
  split <;> simp
theorem empty_of {l : List UInt8} (h : ¬ l = []) : l.isEmpty = false := by
  cases l with
  | nil => exact absurd rfl h
  | cons a b => rfl
theorem StepF.after {W W1 W' : World} {B f N : Nat} {dv sv : Value} {ss : List Sx} {ds' : List Pr} {ss' : List Sx} (hb : Below W.heap.size W W1) (h : StepF W1 W' B f dv sv ss ds' ss' N) : StepF W W' B f dv sv ss ds' ss' N := by
  obtain ⟨dv', sv', h1, h2, h3⟩ := h
  have hs := hb.size
  refine ⟨dv', sv', h1, ⟨h2.os.trans hb.os, h2.tape.trans hb.tape, h2.output.trans hb.output, Nat.le_trans hs h2.size, fun k hk hf => ?_⟩, fun k hk => ?_⟩
  · rw [h2.block k (Nat.lt_of_lt_of_le hk hs) hf, hb.block k hk]
  · rcases h3 k hk with e | e
    · exact .inl e
    · exact .inr (Nat.le_trans hs e)
/-- What take's contract says of its step. -/
def TakeTo (W w' : World) (B f N : Nat) (dv sv : Value) (ss : List Sx) (F' : Cf) : Prop := ∃ ss' : List Sx, ss'.map Sx.sc = F'.secs ∧ StepF W w' B f dv sv ss F'.dirs ss' (N + 1)
set_option maxHeartbeats 4000000 in
set_option maxRecDepth 20000 in
theorem conf_take (W : World) (hm : Mx W) (B f N : Nat) (dv sv : Value) (F : Cf) (ss : List Sx) (h : FileAt W B f dv sv F.dirs ss N) (hF : ss.map Sx.sc = F.secs) (hN : N ≤ 50000) (hB : B ≤ W.heap.size) (l : List UInt8) (hl : l.length ≤ 100000) (n : Int) :
    Calls Tryd.prog 23 #[.pointer (some ⟨f, 0, none⟩), .string (tx l), .int .i64 n] W fun e w' => e = .returned (.int .i64 (takeC F l n).2) ∧ TakeTo W w' B f N dv sv ss (takeC F l n).1 := by
  have hPl := fun w => tn_plain l w (by omega)
  have HI : Hid (∀ W1, Below W.heap.size W W1 → TakeTo W W1 B f N dv sv ss F) := fun W1 hb => ⟨ss, hF, h.idle hb⟩
  have H := hide h
  have HM := hide hm
  have HF := hide hF
  obtain ⟨T, hT⟩ : ∃ T, takeC F l n = T := ⟨_, rfl⟩
  rw [hT]
  have HTK : Hid (T = takeC F l n) := hT.symm
  clear hT h hm hF
  cases hp : plainC l with
  | false =>
    rw [hp] at hPl
    have HT : Hid (T = (F, 180)) := HTK.out.trans (take_1 hp)
    rw [HT.out]
    clear HTK HT hp
    unfold tx at *
    go_enter Tryd.func23, Tryd.ntmps23
    go_wp2_with (go_at_call 40; refine (hPl _).mono ?_; rintro e w1 ⟨rfl, rfl⟩)
    go_ret
    exact ⟨rfl, HI.out _ (Below.refl _ _)⟩
  | true =>
    rw [hp] at hPl
    have HA : Hid (saidC l = [] → T = (F, 0)) := fun h => HTK.out.trans (take_2 hp h)
    have HB : Hid (¬ saidC l = [] → Lib.hasPrefix (saidC l) [91] = true → T = if begC F.secs (Lib.trimPrefix (saidC l) [91]) = true then (⟨F.dirs, F.secs ++ [⟨Lib.trimSuffix (Lib.trimPrefix (saidC l) [91]) [93], []⟩]⟩, 0) else (F, 181)) := fun h h3 => HTK.out.trans (take_3 hp h h3)
    have HC : Hid (¬ saidC l = [] → Lib.hasPrefix (saidC l) [91] = false → readB (saidC l) = false → T = (F, 180)) := fun h h3 h4 => HTK.out.trans (take_4 hp h h3 h4)
    have HD : Hid (¬ saidC l = [] → Lib.hasPrefix (saidC l) [91] = false → readB (saidC l) = true → F.secs = [] → T = if folB (readT (saidC l)) = true then (⟨folD F.dirs (readT (saidC l)) n, F.secs⟩, 0) else (F, 180)) := fun h h3 h4 h5 => HTK.out.trans (take_5 hp h h3 h4 h5)
    have HE : Hid (¬ saidC l = [] → Lib.hasPrefix (saidC l) [91] = false → readB (saidC l) = true → ¬ F.secs = [] → T = (⟨F.dirs, tellS F.secs (readT (saidC l)) n⟩, 0)) := fun h h3 h4 h5 => HTK.out.trans (take_6 hp h h3 h4 h5)
    have hC := lib_Cut l [35] W HM.out (by omega)
    have hcl := (cut_len l [35]).1
    have hsl := said_len l
    have hsd : saidC l = trimC (Lib.cut l [35]).1 := rfl
    generalize (Lib.cut l [35]).1 = c1 at *
    generalize (Lib.cut l [35]).2.1 = c2 at *
    generalize (Lib.cut l [35]).2.2 = c3 at *
    have hTr := fun w => lib_Trim c1 w (by omega)
    rw [← hsd] at hTr
    generalize saidC l = s at *
    clear HTK hp hsd
    by_cases hs0 : s = []
    · subst hs0
      have HT : Hid (T = (F, 0)) := HA.out rfl
      rw [HT.out]
      clear HA HB HC HD HE HT
      unfold tx at *
      go_enter Tryd.func23, Tryd.ntmps23
      go_wp2_with (go_at_call 40; refine (hPl _).mono ?_; rintro e w1 ⟨rfl, rfl⟩)
      refine hC.mono ?_
      rintro e w1 ⟨rfl, hb1⟩
      go_wp2_with fail
      refine (hTr w1).mono ?_
      rintro e w2 ⟨rfl, hb2⟩
      go_wp2
      go_ret
      exact ⟨rfl, HI.out _ (hb1.trans (hb2.mono hb1.size))⟩
    · have hse := empty_of hs0
      have hCP := fun w => lib_CutPrefix s [91] w
      cases hpre : Lib.hasPrefix s [91] with
      | true =>
        rw [hpre] at hCP
        have hpl := pref_len s [91]
        have HTK2 := hide (HB.out hs0 hpre)
        generalize Lib.trimPrefix s [91] = i at *
        have hBg := fun w (hh : FileAt w B f dv sv F.dirs ss N) (hw : B ≤ w.heap.size) => conf_begin w B f N dv sv F.dirs ss hh hN hw i (by omega)
        have HZ : Hid (T.2 = (if begB ss i then 0 else 181) ∧ T.1.dirs = F.dirs ∧ (begS ss i).map Sx.sc = T.1.secs) := by
          have h1 := HTK2.out
          have h2 := beg_sc ss i
          rw [HF.out] at h2
          rw [h2] at h1
          cases hb : begB ss i with
          | true =>
            rw [hb, if_pos rfl] at h1
            rw [begin_yes ss i hb, List.map_append, HF.out, h1]
            exact ⟨rfl, rfl, rfl⟩
          | false =>
            rw [hb, if_neg (by simp)] at h1
            rw [begin_no ss i hb, HF.out, h1]
            exact ⟨rfl, rfl, rfl⟩
        generalize (if begB ss i then (0 : Int) else 181) = E at *
        clear HTK2 hpre HA HB HC HD HE
        unfold tx at *
        go_enter Tryd.func23, Tryd.ntmps23
        go_wp2_with (go_at_call 40; refine (hPl _).mono ?_; rintro e w1 ⟨rfl, rfl⟩)
        refine hC.mono ?_
        rintro e w1 ⟨rfl, hb1⟩
        go_wp2_with fail
        refine (hTr w1).mono ?_
        rintro e w2 ⟨rfl, hb2⟩
        have HB2 := hide (hb1.trans (hb2.mono hb1.size))
        clear hb1 hb2 hC hTr
        go_wp2_with (go_at_call 42; refine (hCP _).mono ?_; rintro e w1 ⟨rfl, rfl⟩)
        refine (hBg w2 (H.out.stay HB2.out) (Nat.le_trans hB HB2.out.size)).mono ?_
        rintro e w3 ⟨rfl, hst⟩
        have HST := hide hst
        clear hst hBg
        go_wp2
        go_ret
        refine ⟨by rw [HZ.out.1]; rfl, _, HZ.out.2.2, ?_⟩
        rw [HZ.out.2.1]
        exact HST.out.after HB2.out
      | false =>
        rw [hpre] at hCP
        generalize Lib.trimPrefix s [91] = i at *
        have hR := fun w hm => conf_read s w hm (by omega)
        cases hrb : readB s with
        | false =>
          have HT : Hid (T = (F, 180)) := HC.out hs0 hpre hrb
          rw [hrb] at hR
          rw [HT.out]
          clear HA HB HC HD HE HT hpre hrb
          unfold Td.cells at hR
          generalize readE s = t at *
          obtain ⟨tn, tv, ta⟩ := t
          simp only [] at hR
          unfold tx at *
          go_enter Tryd.func23, Tryd.ntmps23
          go_wp2_with (go_at_call 40; refine (hPl _).mono ?_; rintro e w1 ⟨rfl, rfl⟩)
          refine hC.mono ?_
          rintro e w1 ⟨rfl, hb1⟩
          go_wp2_with fail
          refine (hTr w1).mono ?_
          rintro e w2 ⟨rfl, hb2⟩
          have HB2 := hide (hb1.trans (hb2.mono hb1.size))
          clear hb1 hb2 hC hTr
          go_wp2_with (go_at_call 42; refine (hCP _).mono ?_; rintro e w1 ⟨rfl, rfl⟩)
          refine (hR w2 (HM.out.below HB2.out)).mono ?_
          rintro e w3 ⟨rfl, hb3⟩
          have HB3 := hide (HB2.out.trans (hb3.mono HB2.out.size))
          clear hb3 hR
          go_wp2
          go_ret
          exact ⟨rfl, HI.out _ (HB3.out.alloc HB3.out.size _)⟩
        | true =>
          have HD2 := hide (HD.out hs0 hpre hrb)
          have HE2 := hide (HE.out hs0 hpre hrb)
          have hre : readE s = readT s := by
            unfold readE
            rw [if_pos]
            unfold readB at hrb
            cases h : (Lib.cut s [61]).2.2
            · rw [h] at hrb; cases hrb
            · rfl
          have htl : (readT s).name.length ≤ 100000 ∧ (readT s).value.length ≤ 100000 := by
            have a1 := cut_len s [61]
            have a2 := suff_len (Lib.cut s [61]).1 [43]
            have a3 := trim_len (Lib.trimSuffix (Lib.cut s [61]).1 [43])
            have a4 := trim_len (Lib.cut s [61]).2.1
            unfold readT
            exact ⟨by simp only []; omega, by simp only []; omega⟩
          rw [hrb, hre] at hR
          generalize readT s = t at *
          clear HA HB HC HD HE hpre hrb hre
          rcases List.eq_nil_or_concat ss with hss | ⟨A, x, hss⟩
          · subst hss
            obtain ⟨sa, sc, hsv⟩ := row_form H.out.secs
            subst hsv
            have hFo := fun w hm (hh : FileAt w B f dv (.slice sa ([] : List Sx).length sc) F.dirs [] N) (hw : B ≤ w.heap.size) => conf_folder w hm B f N dv _ F.dirs [] hh hN hw t htl n
            have hFs : F.secs = [] := HF.out.symm
            have HT := hide (HD2.out hFs)
            have HZ : Hid (T.2 = (if folB t then 0 else 180) ∧ T.1.dirs = folD F.dirs t n ∧ T.1.secs = []) := by
              have h1 := HT.out
              cases hb : folB t with
              | true =>
                rw [hb, if_pos rfl] at h1
                rw [h1]
                exact ⟨rfl, rfl, hFs⟩
              | false =>
                rw [hb, if_neg (by simp)] at h1
                rw [h1]
                exact ⟨rfl, by unfold folD; rw [hb]; rfl, hFs⟩
            generalize (if folB t then (0 : Int) else 180) = E at *
            clear HT HD2 HE2
            obtain ⟨tn, tv, ta⟩ := t
            unfold Td.cells at *
            simp only [] at hR hFo htl
            have HTL := hide htl
            clear htl
            unfold tx at *
            go_enter Tryd.func23, Tryd.ntmps23
            go_wp2_with (go_at_call 40; refine (hPl _).mono ?_; rintro e w1 ⟨rfl, rfl⟩)
            refine hC.mono ?_
            rintro e w1 ⟨rfl, hb1⟩
            go_wp2_with fail
            refine (hTr w1).mono ?_
            rintro e w2 ⟨rfl, hb2⟩
            have HB2 := hide (hb1.trans (hb2.mono hb1.size))
            clear hb1 hb2 hC hTr
            go_wp2_with (go_at_call 42; refine (hCP _).mono ?_; rintro e w1 ⟨rfl, rfl⟩)
            refine (hR w2 (HM.out.below HB2.out)).mono ?_
            rintro e w3 ⟨rfl, hb3⟩
            have HB3 := hide (HB2.out.trans (hb3.mono HB2.out.size))
            clear hb3 hR
            have HB4 := hide (fun o => HB3.out.alloc HB3.out.size o)
            have d1 := fun o => (H.out.stay (HB4.out o)).c1
            go_wp2_with fail
            refine (hFo _ (HM.out.below (HB4.out _)) (H.out.stay (HB4.out _)) (Nat.le_trans hB (HB4.out _).size)).mono ?_
            rintro e w5 ⟨rfl, hst⟩
            have HST := hide (hst.after (HB4.out _))
            clear hst d1 hFo
            go_wp2
            go_ret
            refine ⟨by rw [HZ.out.1]; rfl, [], HZ.out.2.2.symm, ?_⟩
            rw [HZ.out.2.1]
            exact HST.out
          · rw [List.concat_eq_append] at hss
            subst hss
            obtain ⟨b, c, hsv, hk1, hk2⟩ := row_pos H.out.secs (by simp)
            rw [List.length_append, List.length_singleton] at hsv
            subst hsv
            have hFs : ¬ F.secs = [] := by rw [← HF.out]; simp
            have HT := hide (HE2.out hFs)
            have HZ : Hid (T.2 = 0 ∧ T.1.dirs = F.dirs ∧ ∀ pv', (A ++ [(⟨x.name, pv', tellC x.props t n⟩ : Sx)]).map Sx.sc = T.1.secs) := by
              rw [HT.out]
              refine ⟨rfl, rfl, fun pv' => ?_⟩
              rw [tellS_last, HF.out]
            have hTe := fun w (hh : FileAt w B f dv (.slice (some ⟨b, 0, none⟩) (A.length + 1) c) F.dirs (A ++ [x]) N) (hw : B ≤ w.heap.size) => conf_tell w B f N dv F.dirs A x b c hh hN hw t htl n
            have hk3 : A.length + 1 ≤ c := by simpa using hk1
            have hk4 : c ≤ 9223372036854775807 := by unfold maxLen at hk2; omega
            have hAl : A.length ≤ 50000 := by have := H.out.sm.2.1; simp at this; omega
            clear HT HD2 HE2 hk1 hk2
            obtain ⟨tn, tv, ta⟩ := t
            unfold Td.cells at *
            simp only [] at hR hTe htl
            have HTL := hide htl
            clear htl
            unfold tx at *
            go_enter Tryd.func23, Tryd.ntmps23
            go_wp2_with (go_at_call 40; refine (hPl _).mono ?_; rintro e w1 ⟨rfl, rfl⟩)
            refine hC.mono ?_
            rintro e w1 ⟨rfl, hb1⟩
            go_wp2_with fail
            refine (hTr w1).mono ?_
            rintro e w2 ⟨rfl, hb2⟩
            have HB2 := hide (hb1.trans (hb2.mono hb1.size))
            clear hb1 hb2 hC hTr
            go_wp2_with (go_at_call 42; refine (hCP _).mono ?_; rintro e w1 ⟨rfl, rfl⟩)
            refine (hR w2 (HM.out.below HB2.out)).mono ?_
            rintro e w3 ⟨rfl, hb3⟩
            have HB3 := hide (HB2.out.trans (hb3.mono HB2.out.size))
            clear hb3 hR
            have HB4 := hide (fun o => HB3.out.alloc HB3.out.size o)
            have d1 := fun o => (H.out.stay (HB4.out o)).c1
            go_wp2_with fail
            generalize hW4 : w3.alloc (.cells #[.string ⟨tn.toArray⟩, .string ⟨tv.toArray⟩, .bool ta] 97) = W4 at *
            have HB5 : Hid (Below W.heap.size W W4) := by rw [Hid, ← hW4]; exact HB4.out _
            have HX5 : Hid (W4.heap[w3.heap.size]? = some (.cells #[.string ⟨tn.toArray⟩, .string ⟨tv.toArray⟩, .bool ta] 97 (0, 0))) := by rw [Hid, ← hW4]; exact block_new _ _
            have H5 := hide (H.out.stay HB5.out)
            clear d1 HB4 hW4
            have e1 : W4.drew.cell? ⟨f, 1, none⟩ = some (.slice (some ⟨b, 0, none⟩) (A.length + 1) c) := H5.out.c1
            have e2 : W4.drew.cell? ⟨w3.heap.size, 0, none⟩ = some (.string ⟨tn.toArray⟩) := cells_of_block (w := W4.drew) HX5.out 0 _ rfl
            have e3 : W4.drew.cell? ⟨w3.heap.size, 1, none⟩ = some (.string ⟨tv.toArray⟩) := cells_of_block (w := W4.drew) HX5.out 1 _ rfl
            have e4 : W4.drew.cell? ⟨w3.heap.size, 2, none⟩ = some (.bool ta) := cells_of_block (w := W4.drew) HX5.out 2 _ rfl
            have hw : IntKind.i64.wrap (A.length : Int) = (A.length : Int) := by rw [wrap_i64_is]; omega
            have hA0 : (0 : Int) ≤ (A.length : Int) ∧ (A.length : Int) < (A.length : Int) + 1 := ⟨by omega, by omega⟩
            have hT4 := hTe W4.drew (H5.out.stay (Below.refl _ _).drew) (Nat.le_trans hB HB5.out.size)
            have HD5 : Hid (Below W.heap.size W W4.drew) := HB5.out.drew
            go_region_law (go_simp; refine hT4.mono ?_; rintro e w6 ⟨rfl, pv6, hst⟩; have HST := hide (hst.after HD5.out); clear hst)
            all_goals
              clear e1 e2 e3 e4 hw hA0
              go_wp2
              go_ret
              refine ⟨by rw [HZ.out.1]; rfl, _, HZ.out.2.2 pv6, ?_⟩
              rw [HZ.out.2.1]
              exact HST.out
end Go.Proofs.YtmcefflgbliehaaDoor
