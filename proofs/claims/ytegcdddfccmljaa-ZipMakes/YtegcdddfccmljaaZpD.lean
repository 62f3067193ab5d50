
/-
  Layer 7 (zip): read and List keep their contracts.
-/
import Derived.Test.YtegcdddfccmljaaZpC
import Derived.BigQuiet
set_option linter.unusedVariables false
namespace Go.Proofs.Ytegcdddfccmljaa
open Go.RowKit Go.PlainAid
/-- An archive's entries, and where its list begins. -/
def readZ (l : List UInt8) : Option (List En × Nat) :=
  if 262144 < l.length then none else
  match lastOf l with
  | none => none
  | some p =>
    if rd l (p + 4) 2 = 0 ∧ rd l (p + 6) 2 = 0 then
      if rd l (p + 8) 2 = rd l (p + 10) 2 ∧ rd l (p + 16) 4 + rd l (p + 12) 4 ≤ p then
        (entries (win l (rd l (p + 16) 4) (rd l (p + 12) 4)) (rd l (p + 8) 2) 0).map fun es => (es, rd l (p + 16) 4)
      else none
    else none
/-- What read answers. -/
def ReadsZ (w' : World) (B : Nat) (l : List UInt8) (o : Option (List En × Nat)) (e : Ending) : Prop :=
  match o with
  | none => e = .returned (.tuple #[.slice none 0 0, .slice none 0 0, .int .i64 70])
  | some (es, f) => ∃ v v2, e = .returned (.tuple #[v, v2, .int .i64 0]) ∧ OwnE w' 32 B v es ∧ Arg w' v2 (win l 0 f) ∧ f ≤ l.length ∧ l.length ≤ 262144
theorem Arg.ahead {w : World} {a : Option Addr} {cap : Nat} {l : List UInt8} (h : Arg w (.slice a l.length cap) l) (f : Nat) (hf : f ≤ l.length) : Arg w (.slice a f cap) (win l 0 f) := by
  obtain ⟨a', cap', he, h1, h2, h3, h4⟩ := h
  injection he with e1 e2 e3
  subst e1 e3
  have hw := win_len l 0 f (by omega)
  refine ⟨a, cap, by rw [hw], by omega, h2, by omega, ?_⟩
  rcases h4 with ⟨e, rfl, ec⟩ | ⟨x, e, hc⟩
  · refine .inl ⟨e, ?_, ec⟩
    simp [win]
  · refine .inr ⟨x, e, fun j hj => ?_⟩
    rw [hw] at hj
    rw [hc j (by omega)]
    simp [win]
set_option maxHeartbeats 4000000 in
set_option maxRecDepth 20000 in
theorem zip_read (w : World) (v : Value) (l : List UInt8) (h : Arg w v l) :
    Calls Try.prog 16 #[v] w fun e w' => ReadsZ w' w.heap.size l (readZ l) e ∧ Below w.heap.size w w' := by
  have HA : Hid (Arg w v l) := h
  obtain ⟨a, cap, rfl, hlc, hcm, hl12⟩ := h.isSlice
  have HBR : Hid (Below w.heap.size w w) := Below.refl _ _
  obtain ⟨O, hO⟩ : ∃ O, readZ l = O := ⟨_, rfl⟩
  have HO : Hid (readZ l = O) := hO
  rw [hO]
  clear hO
  obtain ⟨n, hn⟩ : ∃ n, l.length = n := ⟨_, rfl⟩
  have HN : Hid (l.length = n) := hn
  have hcap : cap ≤ 9223372036854775807 := by unfold maxLen at hcm; omega
  rw [hn] at hlc hl12 ⊢ HA
  clear hn hcm
  by_cases hbig : 262144 < n
  · have hbI : (262144 : Int) < (n : Int) := by omega
    have HV : Hid (O = none) := by rw [Hid, ← HO.out, readZ, if_pos (by rw [HN.out]; exact hbig)]
    clear h HO
    go_enter Try.func16, Try.ntmps16
    go_wp2
    go_ret3
    exact ⟨by rw [HV.out]; rfl, HBR.out⟩
  have hbI : ¬ (262144 : Int) < (n : Int) := by omega
  have hF := zip_findLast w _ l HA.out (by rw [HN.out]; omega)
  have hOe := HO.out
  rw [readZ, if_neg (by rw [HN.out]; exact hbig)] at hOe
  clear h HO
  cases hLO : lastOf l with
  | none =>
    rw [hLO] at hF hOe
    simp only [lastV] at hF hOe
    subst hOe
    go_enter Try.func16, Try.ntmps16
    go_wp2_with fail
    refine hF.mono ?_
    rintro e w1 ⟨rfl, rfl⟩
    go_wp2
    go_ret3
    exact ⟨rfl, HBR.out⟩
  | some p =>
    have hp22 := lastOf_is hLO
    rw [HN.out] at hp22
    rw [hLO] at hF hOe
    simp only [lastV] at hF hOe
    clear hLO
    have h4 := zip_two w _ l HA.out (p + 4) (by omega)
    have h6 := zip_two w _ l HA.out (p + 6) (by omega)
    have h8 := zip_two w _ l HA.out (p + 8) (by omega)
    have h10 := zip_two w _ l HA.out (p + 10) (by omega)
    have h12 := zip_four w _ l HA.out (p + 12) (by omega)
    have h16 := zip_four w _ l HA.out (p + 16) (by omega)
    have b8 := rd2 l (p + 8)
    have b12 := rd4 l (p + 12)
    have b16 := rd4 l (p + 16)
    generalize rd l (p + 4) 2 = q4 at *
    generalize rd l (p + 6) 2 = q6 at *
    generalize rd l (p + 8) 2 = q8 at *
    generalize rd l (p + 10) 2 = q10 at *
    generalize rd l (p + 12) 4 = s at *
    generalize rd l (p + 16) 4 = f at *
    have hpI : (p : Int) + 22 ≤ (n : Int) := by omega
    have HOE := hide hOe
    clear hOe
    rcases (Decidable.em (q4 = 0)).symm with c4 | c4
    · have HV : Hid (O = none) := by rw [Hid, ← HOE.out, if_neg (fun e => c4 e.1)]
      have hb : ((q4 : Int) != 0) = true := by simp; omega
      clear HOE
      go_enter Try.func16, Try.ntmps16
      go_wp2_with fail
      refine hF.mono ?_
      rintro e w1 ⟨rfl, rfl⟩
      go_wp2_with fail
      refine h4.mono ?_
      rintro e w1 ⟨rfl, rfl⟩
      go_wp2
      go_ret3
      exact ⟨by rw [HV.out]; rfl, HBR.out⟩
    subst c4
    rcases (Decidable.em (q6 = 0)).symm with c6 | c6
    · have HV : Hid (O = none) := by rw [Hid, ← HOE.out, if_neg (fun e => c6 e.2)]
      have hb : ((q6 : Int) != 0) = true := by simp; omega
      clear HOE
      go_enter Try.func16, Try.ntmps16
      go_wp2_with fail
      refine hF.mono ?_
      rintro e w1 ⟨rfl, rfl⟩
      go_wp2_with fail
      refine h4.mono ?_
      rintro e w1 ⟨rfl, rfl⟩
      go_wp2_with fail
      refine h6.mono ?_
      rintro e w1 ⟨rfl, rfl⟩
      go_wp2
      go_ret3
      exact ⟨by rw [HV.out]; rfl, HBR.out⟩
    subst c6
    have hOe := HOE.out
    rw [if_pos ⟨rfl, rfl⟩] at hOe
    rcases (Decidable.em (q8 = q10)).symm with c8 | c8
    · have HV : Hid (O = none) := by rw [Hid, ← hOe, if_neg (fun e => c8 e.1)]
      have hb : ((q8 : Int) != (q10 : Int)) = true := by simp; omega
      clear HOE hOe
      go_enter Try.func16, Try.ntmps16
      go_wp2_with fail
      refine hF.mono ?_
      rintro e w1 ⟨rfl, rfl⟩
      go_wp2_with fail
      refine h4.mono ?_
      rintro e w1 ⟨rfl, rfl⟩
      go_wp2_with fail
      refine h6.mono ?_
      rintro e w1 ⟨rfl, rfl⟩
      go_wp2_with fail
      refine h8.mono ?_
      rintro e w1 ⟨rfl, rfl⟩
      go_wp2_with fail
      refine h10.mono ?_
      rintro e w1 ⟨rfl, rfl⟩
      go_wp2_with fail
      refine h12.mono ?_
      rintro e w1 ⟨rfl, rfl⟩
      go_wp2_with fail
      refine h16.mono ?_
      rintro e w1 ⟨rfl, rfl⟩
      go_wp2
      go_ret3
      exact ⟨by rw [HV.out]; rfl, HBR.out⟩
    subst c8
    have hb8 : ((q8 : Int) != (q8 : Int)) = false := by simp
    have hIn := num_Inside (f : Int) (s : Int) 0 (p : Int) w (by omega) (by omega) (by omega) (by omega) (by omega) (by omega)
    rcases (Decidable.em (f + s ≤ p)).symm with cfs | cfs
    · have HV : Hid (O = none) := by rw [Hid, ← hOe, if_neg (fun e => cfs e.2)]
      rw [show inB (f : Int) (s : Int) 0 (p : Int) = false by unfold inB; simp; omega] at hIn
      clear HOE hOe
      go_enter Try.func16, Try.ntmps16
      go_wp2_with fail
      refine hF.mono ?_
      rintro e w1 ⟨rfl, rfl⟩
      go_wp2_with fail
      refine h4.mono ?_
      rintro e w1 ⟨rfl, rfl⟩
      go_wp2_with fail
      refine h6.mono ?_
      rintro e w1 ⟨rfl, rfl⟩
      go_wp2_with fail
      refine h8.mono ?_
      rintro e w1 ⟨rfl, rfl⟩
      go_wp2_with fail
      refine h10.mono ?_
      rintro e w1 ⟨rfl, rfl⟩
      go_wp2_with fail
      refine h12.mono ?_
      rintro e w1 ⟨rfl, rfl⟩
      go_wp2_with fail
      refine h16.mono ?_
      rintro e w1 ⟨rfl, rfl⟩
      go_wp2_with fail
      refine hIn.mono ?_
      rintro e w1 ⟨rfl, rfl⟩
      go_wp2
      go_ret3
      exact ⟨by rw [HV.out]; rfl, HBR.out⟩
    rw [show inB (f : Int) (s : Int) 0 (p : Int) = true by unfold inB; simp; omega] at hIn
    rw [if_pos ⟨rfl, cfs⟩] at hOe
    have hin : f + s ≤ l.length := by rw [HN.out]; omega
    have HIN := hide hin
    have hwl := win_len l f s hin
    have HAL : Hid (Arg w (.slice a l.length cap) l) := by rw [Hid, HN.out]; exact HA.out
    have HRL : Hid (∀ v2, Arg w v2 (win l f s) → _) := fun v2 hv2 => zip_readList w v2 (win l f s) hv2 (by rw [hwl]; omega) q8 b8
    have HF2 : Hid (Arg w (.slice a f cap) (win l 0 f)) := HAL.out.ahead f (by omega)
    obtain ⟨E, hE⟩ : ∃ E, entries (win l f s) q8 0 = E := ⟨_, rfl⟩
    rw [hE] at hOe HRL
    have HOE2 := hide hOe
    have hfsI : (f : Int) + (s : Int) ≤ (p : Int) := by omega
    have hfc : (f : Int) + (s : Int) ≤ (cap : Int) := by omega
    have hfc2 : (f : Int) ≤ (cap : Int) := by omega
    have HFN : Hid (f ≤ l.length ∧ l.length ≤ 262144) := ⟨by omega, by rw [HN.out]; omega⟩
    clear HOE hOe hE hin hwl HA
    go_enter Try.func16, Try.ntmps16
    go_wp2_with fail
    refine hF.mono ?_
    rintro e w1 ⟨rfl, rfl⟩
    go_wp2_with fail
    refine h4.mono ?_
    rintro e w1 ⟨rfl, rfl⟩
    go_wp2_with fail
    refine h6.mono ?_
    rintro e w1 ⟨rfl, rfl⟩
    go_wp2_with fail
    refine h8.mono ?_
    rintro e w1 ⟨rfl, rfl⟩
    go_wp2_with fail
    refine h10.mono ?_
    rintro e w1 ⟨rfl, rfl⟩
    go_wp2_with fail
    refine h12.mono ?_
    rintro e w1 ⟨rfl, rfl⟩
    go_wp2_with fail
    refine h16.mono ?_
    rintro e w1 ⟨rfl, rfl⟩
    go_wp2_with fail
    refine hIn.mono ?_
    rintro e w1 ⟨rfl, rfl⟩
    clear hF h4 h6 h8 h10 h12 h16 hIn
    go_wp2_with fail
    all_goals
      refine (HRL.out _ (by first | exact HAL.out.cut0 _ _ HIN.out (by omega) | exact HAL.out.cut _ _ HIN.out (by omega))).mono ?_
      rintro e w1 ⟨hR, hb⟩
      have HB1 := hide hb
      clear hb
      cases E with
      | none =>
        obtain ⟨v1, rfl⟩ := hR
        have hO2 := HOE2.out
        simp only [Option.map_none] at hO2
        subst hO2
        go_wp2
        go_ret3
        exact ⟨rfl, HB1.out⟩
      | some es =>
        obtain ⟨v1, rfl, hown⟩ := hR
        have hO2 := HOE2.out
        simp only [Option.map_some] at hO2
        subst hO2
        have HOW := hide hown
        clear hown
        go_wp2_with fail
        go_quiet (fail)
        go_wp2
        go_ret3
        exact ⟨⟨v1, _, rfl, HOW.out, Arg.heap (HF2.out.below HB1.out rfl) rfl, HFN.out.1, HFN.out.2⟩, ⟨HB1.out.os, HB1.out.tape, HB1.out.output, HB1.out.size, HB1.out.block⟩⟩
/-- What List answers. -/
def ListsZ (w' : World) (B : Nat) (o : Option (List En × Nat)) (e : Ending) : Prop :=
  match o with
  | none => e = .returned (.tuple #[.slice none 0 0, .int .i64 70])
  | some (es, f) => ∃ v, e = .returned (.tuple #[v, .int .i64 0]) ∧ OwnE w' 32 B v es
theorem zip_List (w : World) (v : Value) (l : List UInt8) (h : Arg w v l) :
    Calls Try.prog 7 #[v] w fun e w' => ListsZ w' w.heap.size (readZ l) e ∧ Below w.heap.size w w' := by
  have hR := zip_read w v l h
  obtain ⟨a, cap, rfl, _⟩ := h.isSlice
  clear h
  generalize readZ l = O at *
  go_enter Try.func7, Try.ntmps7
  go_wp2_with fail
  refine hR.mono ?_
  rintro e w1 ⟨hE, hb⟩
  have HB := hide hb
  clear hR hb
  cases O with
  | none =>
    have hE' : e = _ := hE
    subst hE'
    clear hE
    go_wp2
    go_ret2
    exact ⟨rfl, HB.out⟩
  | some x =>
    obtain ⟨es, f⟩ := x
    obtain ⟨v1, v2, rfl, h1, _⟩ := hE
    have H1 := hide h1
    clear h1
    go_wp2
    go_ret2
    exact ⟨⟨_, rfl, H1.out⟩, HB.out⟩
end Go.Proofs.Ytegcdddfccmljaa
