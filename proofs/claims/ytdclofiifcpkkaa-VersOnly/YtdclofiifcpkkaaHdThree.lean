
/-
  HdR HdS HdT HdU HdV
-/
import Derived.Test.YtdclofiifcpkkaaHdTwo
import Derived.Maps.AppendAt
set_option linter.unusedVariables false
namespace Go.Proofs.Ytdclofiifcpkkaa
open Go.RowKit Go.PlainAid Go.Sort
theorem win04 (l : List UInt8) (h : 64 ≤ l.length) : win l 0 4 = [l.getD 0 0, l.getD 1 0, l.getD 2 0, l.getD 3 0] ∧ win l 4 3 = [l.getD 4 0, l.getD 5 0, l.getD 6 0] := by
  match l, h with
  | a :: b :: c :: d :: e :: f :: g :: t, _ => exact ⟨rfl, rfl⟩
set_option maxHeartbeats 4000000 in
set_option maxRecDepth 20000 in
theorem ref8_Table (w : World) (v : Value) (l : List UInt8) (h : Arg w v l) (hl : l.length ≤ 140737488351232) :
    Calls Try.prog 21 #[v] w fun e w' => TableIs w' w.heap.size (tableZ l) e ∧ Below w.heap.size w w' := by
  have HA := hide h
  have HBR := hide (Below.refl w.heap.size w)
  obtain ⟨O, hO⟩ : ∃ O, tableZ l = O := ⟨_, rfl⟩
  rw [hO]
  unfold tableZ fits at hO
  obtain ⟨K, hK⟩ : ∃ K, kindE l = K := ⟨_, rfl⟩
  rw [hK] at hO
  unfold kindE at hK
  by_cases c64 : l.length < 64
  · rw [if_pos (.inl c64)] at hK
    subst hK
    rw [if_pos (by decide)] at hO
    subst hO
    obtain ⟨a, cap, rfl, _⟩ := h.isSlice
    have c64I : (l.length : Int) < 64 := by omega
    clear h HA
    go_enter Try.func21, Try.ntmps21
    go_wp2
    go_ret2
    exact ⟨rfl, HBR.out⟩
  obtain ⟨g, o, cap, rfl, hc1, hc2, hc⟩ := h.cells (by omega)
  have hcap : cap ≤ 9223372036854775807 := by unfold maxLen at hc2; omega
  have y0 : w.cell? ⟨g, o, none⟩ = some (.int .u8 ((l.getD 0 0).toNat : Int)) := hc 0 (by omega)
  have y1 : w.cell? ⟨g, o + 1, none⟩ = some (.int .u8 ((l.getD 1 0).toNat : Int)) := hc 1 (by omega)
  have y2 : w.cell? ⟨g, o + 2, none⟩ = some (.int .u8 ((l.getD 2 0).toNat : Int)) := hc 2 (by omega)
  have y3 : w.cell? ⟨g, o + 3, none⟩ = some (.int .u8 ((l.getD 3 0).toNat : Int)) := hc 3 (by omega)
  have y4 : w.cell? ⟨g, o + 4, none⟩ = some (.int .u8 ((l.getD 4 0).toNat : Int)) := hc 4 (by omega)
  have y5 : w.cell? ⟨g, o + 5, none⟩ = some (.int .u8 ((l.getD 5 0).toNat : Int)) := hc 5 (by omega)
  have y6 : w.cell? ⟨g, o + 6, none⟩ = some (.int .u8 ((l.getD 6 0).toNat : Int)) := hc 6 (by omega)
  obtain ⟨e04, e43⟩ := win04 l (by omega)
  rw [e04, e43] at hK
  have k16 := ref8_N w _ l h 16 2 (by omega) (by omega) (by omega)
  have k18 := ref8_N w _ l h 18 2 (by omega) (by omega) (by omega)
  have k32 := ref8_N w _ l h 32 8 (by omega) (by omega) (by omega)
  have k52 := ref8_N w _ l h 52 2 (by omega) (by omega) (by omega)
  have k54 := ref8_N w _ l h 54 2 (by omega) (by omega) (by omega)
  have k56 := ref8_N w _ l h 56 2 (by omega) (by omega) (by omega)
  have b56 := rd2 l 56
  have b32 := rd8 l 32
  obtain ⟨p, hp⟩ : ∃ p, rd l 32 8 = p := ⟨_, rfl⟩
  obtain ⟨m, hm⟩ : ∃ m, rd l 56 2 = m := ⟨_, rfl⟩
  rw [hp, hm] at hO
  rw [hp] at k32 b32
  rw [hm] at k56 b56
  generalize rd l 16 2 = q16 at *
  generalize rd l 18 2 = q18 at *
  generalize rd l 52 2 = q52 at *
  generalize rd l 54 2 = q54 at *
  generalize l.getD 0 0 = x0 at *
  generalize l.getD 1 0 = x1 at *
  generalize l.getD 2 0 = x2 at *
  generalize l.getD 3 0 = x3 at *
  generalize l.getD 4 0 = x4 at *
  generalize l.getD 5 0 = x5 at *
  generalize l.getD 6 0 = x6 at *
  have hI := ref_Inside (p : Int) ((m : Int) * 56) 0 (l.length : Int) w (by omega) (by omega) (by omega) (by omega) (by omega) (by omega) (by omega) (by omega)
  have eI : inB (p : Int) ((m : Int) * 56) 0 (l.length : Int) = decide (p + m * 56 ≤ l.length) := by unfold inB; rw [decide_eq_decide]; omega
  rw [eI] at hI
  obtain ⟨n, hn⟩ : ∃ n, l.length = n := ⟨_, rfl⟩
  have HN := hide hn
  rw [hn] at hO hK hI HA k16 k18 k32 k52 k54 k56 hl hc1 c64 ⊢
  clear h hc eI hp hm hn e04 e43 hc2
  have mI : (m : Int) < 65536 := by omega
  have n64 : ¬ (n : Int) < 64 := by omega
  have n64' : (64 : Int) ≤ (n : Int) := by omega
  have C64 := hide c64
  clear c64
  by_cases b0 : x0 = 127
  rotate_left
  · rw [if_pos (.inr (by simp [b0]))] at hK
    subst hK
    rw [if_pos (by decide)] at hO
    subst hO
    have d0 : ((x0.toNat : Int) != 127) = true := by
      have : x0.toNat ≠ 127 := fun e => b0 (UInt8.toNat_inj.1 e)
      simp; omega
    clear b0
    go_enter Try.func21, Try.ntmps21
    go_wp2
    go_ret2
    exact ⟨rfl, HBR.out⟩
  subst b0
  by_cases b1 : x1 = 69
  rotate_left
  · rw [if_pos (.inr (by simp [b1]))] at hK
    subst hK
    rw [if_pos (by decide)] at hO
    subst hO
    have d1 : ((x1.toNat : Int) != 69) = true := by
      have : x1.toNat ≠ 69 := fun e => b1 (UInt8.toNat_inj.1 e)
      simp; omega
    clear b1
    go_enter Try.func21, Try.ntmps21
    go_wp2
    go_ret2
    exact ⟨rfl, HBR.out⟩
  subst b1
  by_cases b2 : x2 = 76
  rotate_left
  · rw [if_pos (.inr (by simp [b2]))] at hK
    subst hK
    rw [if_pos (by decide)] at hO
    subst hO
    have d2 : ((x2.toNat : Int) != 76) = true := by
      have : x2.toNat ≠ 76 := fun e => b2 (UInt8.toNat_inj.1 e)
      simp; omega
    clear b2
    go_enter Try.func21, Try.ntmps21
    go_wp2
    go_ret2
    exact ⟨rfl, HBR.out⟩
  subst b2
  by_cases b3 : x3 = 70
  rotate_left
  · rw [if_pos (.inr (by simp [b3]))] at hK
    subst hK
    rw [if_pos (by decide)] at hO
    subst hO
    have d3 : ((x3.toNat : Int) != 70) = true := by
      have : x3.toNat ≠ 70 := fun e => b3 (UInt8.toNat_inj.1 e)
      simp; omega
    clear b3
    go_enter Try.func21, Try.ntmps21
    go_wp2
    go_ret2
    exact ⟨rfl, HBR.out⟩
  subst b3
  rw [if_neg (by have := C64.out; simp; omega)] at hK
  by_cases b4 : x4 = 2
  rotate_left
  · rw [if_pos (by simp [b4])] at hK
    subst hK
    rw [if_pos (by decide)] at hO
    subst hO
    have d4 : ((x4.toNat : Int) != 2) = true := by
      have : x4.toNat ≠ 2 := fun e => b4 (UInt8.toNat_inj.1 e)
      simp; omega
    clear b4
    go_enter Try.func21, Try.ntmps21
    go_wp2
    go_ret2
    exact ⟨rfl, HBR.out⟩
  subst b4
  by_cases b5 : x5 = 1
  rotate_left
  · rw [if_pos (by simp [b5])] at hK
    subst hK
    rw [if_pos (by decide)] at hO
    subst hO
    have d5 : ((x5.toNat : Int) != 1) = true := by
      have : x5.toNat ≠ 1 := fun e => b5 (UInt8.toNat_inj.1 e)
      simp; omega
    clear b5
    go_enter Try.func21, Try.ntmps21
    go_wp2
    go_ret2
    exact ⟨rfl, HBR.out⟩
  subst b5
  by_cases b6 : x6 = 1
  rotate_left
  · rw [if_pos (by simp [b6])] at hK
    subst hK
    rw [if_pos (by decide)] at hO
    subst hO
    have d6 : ((x6.toNat : Int) != 1) = true := by
      have : x6.toNat ≠ 1 := fun e => b6 (UInt8.toNat_inj.1 e)
      simp; omega
    clear b6
    go_enter Try.func21, Try.ntmps21
    go_wp2
    go_ret2
    exact ⟨rfl, HBR.out⟩
  subst b6
  rw [if_neg (by simp)] at hK
  by_cases b16 : q16 = 3
  rotate_left
  · rw [if_pos b16] at hK
    subst hK
    rw [if_pos (by decide)] at hO
    subst hO
    have d16 : ((q16 : Int) != 3) = true := by simp; omega
    clear b16
    go_enter Try.func21, Try.ntmps21
    go_wp2_with fail
    refine k16.mono ?_
    rintro e w1 ⟨rfl, rfl⟩
    go_wp2
    go_ret2
    exact ⟨rfl, HBR.out⟩
  subst b16
  rw [if_neg (by simp)] at hK
  by_cases b18 : q18 ≠ 62 ∧ q18 ≠ 183
  · rw [if_pos b18] at hK
    subst hK
    rw [if_pos (by decide)] at hO
    subst hO
    have d62 : ((q18 : Int) != 62) = true := by simp; omega
    have d183 : ((q18 : Int) != 183) = true := by simp; omega
    clear b18
    go_enter Try.func21, Try.ntmps21
    go_wp2_with fail
    refine k16.mono ?_
    rintro e w1 ⟨rfl, rfl⟩
    go_wp2_with fail
    refine k18.mono ?_
    rintro e w1 ⟨rfl, rfl⟩
    go_wp2_with fail
    refine k18.mono ?_
    rintro e w1 ⟨rfl, rfl⟩
    go_wp2
    go_ret2
    exact ⟨rfl, HBR.out⟩
  rw [if_neg b18] at hK
  subst hK
  rw [if_neg (by simp)] at hO
  rcases (show q18 = 62 ∨ q18 = 183 by omega) with rfl | rfl
  · clear b18
    by_cases b52 : q52 = 64
    rotate_left
    · rw [decide_eq_false b52] at hO
      simp only [Bool.false_and, Bool.false_eq_true, if_false] at hO
      subst hO
      have d52 : ((q52 : Int) != 64) = true := by simp; omega
      clear b52
      go_enter Try.func21, Try.ntmps21
      go_wp2_with fail
      refine k16.mono ?_
      rintro e w1 ⟨rfl, rfl⟩
      go_wp2_with fail
      refine k18.mono ?_
      rintro e w1 ⟨rfl, rfl⟩
      go_wp2_with fail
      refine k32.mono ?_
      rintro e w1 ⟨rfl, rfl⟩
      go_wp2_with fail
      refine k56.mono ?_
      rintro e w1 ⟨rfl, rfl⟩
      go_wp2_with fail
      refine k52.mono ?_
      rintro e w1 ⟨rfl, rfl⟩
      go_wp2
      go_ret2
      exact ⟨rfl, HBR.out⟩
    subst b52
    by_cases b54 : q54 = 56
    rotate_left
    · rw [decide_eq_false b54] at hO
      simp only [Bool.and_false, Bool.false_and, Bool.false_eq_true, if_false] at hO
      subst hO
      have d54 : ((q54 : Int) != 56) = true := by simp; omega
      clear b54
      go_enter Try.func21, Try.ntmps21
      go_wp2_with fail
      refine k16.mono ?_
      rintro e w1 ⟨rfl, rfl⟩
      go_wp2_with fail
      refine k18.mono ?_
      rintro e w1 ⟨rfl, rfl⟩
      go_wp2_with fail
      refine k32.mono ?_
      rintro e w1 ⟨rfl, rfl⟩
      go_wp2_with fail
      refine k56.mono ?_
      rintro e w1 ⟨rfl, rfl⟩
      go_wp2_with fail
      refine k52.mono ?_
      rintro e w1 ⟨rfl, rfl⟩
      go_wp2_with fail
      refine k54.mono ?_
      rintro e w1 ⟨rfl, rfl⟩
      go_wp2
      go_ret2
      exact ⟨rfl, HBR.out⟩
    subst b54
    by_cases c1 : 1 ≤ m
    rotate_left
    · rw [decide_eq_false c1] at hO
      simp only [Bool.and_false, Bool.false_and, Bool.false_eq_true, if_false] at hO
      subst hO
      obtain rfl : m = 0 := by omega
      go_enter Try.func21, Try.ntmps21
      go_wp2_with fail
      refine k16.mono ?_
      rintro e w1 ⟨rfl, rfl⟩
      go_wp2_with fail
      refine k18.mono ?_
      rintro e w1 ⟨rfl, rfl⟩
      go_wp2_with fail
      refine k32.mono ?_
      rintro e w1 ⟨rfl, rfl⟩
      go_wp2_with fail
      refine k56.mono ?_
      rintro e w1 ⟨rfl, rfl⟩
      go_wp2_with fail
      refine k52.mono ?_
      rintro e w1 ⟨rfl, rfl⟩
      go_wp2_with fail
      refine k54.mono ?_
      rintro e w1 ⟨rfl, rfl⟩
      go_wp2
      go_ret2
      exact ⟨rfl, HBR.out⟩
    have d1 : decide ((m : Int) < 1) = false := decide_eq_false (by omega)
    have n1 : ¬ m < 1 := by omega
    by_cases c16 : m ≤ 16
    rotate_left
    · rw [decide_eq_false c16] at hO
      simp only [Bool.and_false, Bool.false_and, Bool.false_eq_true, if_false] at hO
      subst hO
      have d16 : (16 : Int) < (m : Int) := by omega
      clear c16
      go_enter Try.func21, Try.ntmps21
      go_wp2_with fail
      refine k16.mono ?_
      rintro e w1 ⟨rfl, rfl⟩
      go_wp2_with fail
      refine k18.mono ?_
      rintro e w1 ⟨rfl, rfl⟩
      go_wp2_with fail
      refine k32.mono ?_
      rintro e w1 ⟨rfl, rfl⟩
      go_wp2_with fail
      refine k56.mono ?_
      rintro e w1 ⟨rfl, rfl⟩
      go_wp2_with fail
      refine k52.mono ?_
      rintro e w1 ⟨rfl, rfl⟩
      go_wp2_with fail
      refine k54.mono ?_
      rintro e w1 ⟨rfl, rfl⟩
      go_wp2
      go_ret2
      exact ⟨rfl, HBR.out⟩
    have d16 : decide ((16 : Int) < (m : Int)) = false := decide_eq_false (by omega)
    have m16 : (m : Int) ≤ 16 := by omega
    have m1 : 1 ≤ (m : Int) := by omega
    rw [decide_eq_true c1, decide_eq_true c16] at hO
    simp only [Bool.and_true, Bool.true_and, decide_true] at hO
    by_cases cI : p + m * 56 ≤ n
    rotate_left
    · rw [decide_eq_false cI] at hO hI
      simp only [Bool.false_eq_true, if_false] at hO
      subst hO
      clear cI c1 c16 n1
      go_enter Try.func21, Try.ntmps21
      go_wp2_with fail
      refine k16.mono ?_
      rintro e w1 ⟨rfl, rfl⟩
      go_wp2_with fail
      refine k18.mono ?_
      rintro e w1 ⟨rfl, rfl⟩
      go_wp2_with fail
      refine k32.mono ?_
      rintro e w1 ⟨rfl, rfl⟩
      go_wp2_with fail
      refine k56.mono ?_
      rintro e w1 ⟨rfl, rfl⟩
      go_wp2_with fail
      refine k52.mono ?_
      rintro e w1 ⟨rfl, rfl⟩
      go_wp2_with fail
      refine k54.mono ?_
      rintro e w1 ⟨rfl, rfl⟩
      go_wp2_with fail
      refine hI.mono ?_
      rintro e w1 ⟨rfl, hb1⟩
      have HB1 := hide hb1
      clear hb1
      go_wp2
      go_ret2
      exact ⟨rfl, HB1.out⟩
    rw [decide_eq_true cI] at hO hI
    rw [if_pos rfl] at hO
    have pI : (p : Int) + (m : Int) * 56 ≤ (n : Int) := by omega
    have nI : (n : Int) ≤ 140737488351232 := by omega
    have HO := hide hO
    clear hO c1 n1
    go_enter Try.func21, Try.ntmps21
    go_wp2_with fail
    refine k16.mono ?_
    rintro e w1 ⟨rfl, rfl⟩
    go_wp2_with fail
    refine k18.mono ?_
    rintro e w1 ⟨rfl, rfl⟩
    go_wp2_with fail
    refine k32.mono ?_
    rintro e w1 ⟨rfl, rfl⟩
    go_wp2_with fail
    refine k56.mono ?_
    rintro e w1 ⟨rfl, rfl⟩
    go_wp2_with fail
    refine k52.mono ?_
    rintro e w1 ⟨rfl, rfl⟩
    go_wp2_with fail
    refine k54.mono ?_
    rintro e w1 ⟨rfl, rfl⟩
    go_wp2_with fail
    refine hI.mono ?_
    rintro e w1 ⟨rfl, hb1⟩
    have HB1 := hide hb1
    clear hb1
    clear hI k16 k18 k32 k52 k54 k56 y0 y1 y2 y3 y4 y5 y6
    go_wp2
    go_loopw [6, 7, 8] (fun v6 v7 _ wr => ∃ i : Nat, i ≤ m ∧ v7 = .int .u64 i ∧ Hid (Below w.heap.size w wr) ∧ Hid (OwnH wr w.heap.size v6 (tabFrom l p i))) (fun _ v7 _ _ => m - (intOf v7).toNat)
    case atStart => exact ⟨0, by omega, rfl, HB1, OwnH.nil _ _⟩
    case round =>
      obtain ⟨i, hi, rfl, HW, HOW⟩ := hrel
      by_cases hlt : i < m
      · have hltI : (i : Int) < (m : Int) := by omega
        have hAr := HA.out.below' HW.out
        have j0 := ref8_N wr _ l hAr (p + i * 56) 4 (by omega) (by omega) (by omega)
        have j4 := ref8_N wr _ l hAr (p + i * 56 + 4) 4 (by omega) (by omega) (by omega)
        have j8 := ref8_N wr _ l hAr (p + i * 56 + 8) 8 (by omega) (by omega) (by omega)
        have j16 := ref8_N wr _ l hAr (p + i * 56 + 16) 8 (by omega) (by omega) (by omega)
        have j32 := ref8_N wr _ l hAr (p + i * 56 + 32) 8 (by omega) (by omega) (by omega)
        have j40 := ref8_N wr _ l hAr (p + i * 56 + 40) 8 (by omega) (by omega) (by omega)
        have j48 := ref8_N wr _ l hAr (p + i * 56 + 48) 8 (by omega) (by omega) (by omega)
        have r0 := rd4 l (p + i * 56)
        have r4 := rd4 l (p + i * 56 + 4)
        have eT : tabFrom l p (i + 1) = tabFrom l p i ++ [phAt l (p + i * 56)] := by unfold tabFrom; rw [List.range_succ, List.map_append]; rfl
        unfold phAt at eT
        generalize rd l (p + i * 56) 4 = a0 at *
        generalize rd l (p + i * 56 + 4) 4 = a4 at *
        generalize rd l (p + i * 56 + 8) 8 = a8 at *
        generalize rd l (p + i * 56 + 16) 8 = a16 at *
        generalize rd l (p + i * 56 + 32) 8 = a32 at *
        generalize rd l (p + i * 56 + 40) 8 = a40 at *
        generalize rd l (p + i * 56 + 48) 8 = a48 at *
        have HT := hide eT
        have HTL : Hid ((tabFrom l p i).length ≤ 16) := by rw [Hid]; simp [tabFrom]; omega
        obtain ⟨P, hP⟩ : ∃ P, p + i * 56 = P := ⟨_, rfl⟩
        have ePI : (p : Int) + (i : Int) * 56 = (P : Int) := by omega
        rw [hP] at j0 j4 j8 j16 j32 j40 j48
        have hPI : (P : Int) ≤ 140737488351232 := by omega
        have r0I : (a0 : Int) < 4294967296 := by omega
        have r4I : (a4 : Int) < 4294967296 := by omega
        clear eT hAr r0 r4 hP
        go_wp2_with fail
        refine j0.mono ?_
        rintro e w2 ⟨rfl, rfl⟩
        go_wp2_with fail
        refine j4.mono ?_
        rintro e w2 ⟨rfl, rfl⟩
        go_wp2_with fail
        refine j8.mono ?_
        rintro e w2 ⟨rfl, rfl⟩
        go_wp2_with fail
        refine j16.mono ?_
        rintro e w2 ⟨rfl, rfl⟩
        go_wp2_with fail
        refine j32.mono ?_
        rintro e w2 ⟨rfl, rfl⟩
        go_wp2_with fail
        refine j40.mono ?_
        rintro e w2 ⟨rfl, rfl⟩
        go_wp2_with fail
        refine j48.mono ?_
        rintro e w2 ⟨rfl, rfl⟩
        clear j0 j4 j8 j16 j32 j40 j48
        go_wp2_with (at_builtin; refine append_ph rfl _ _ rfl w.heap.size wr _ (tabFrom l p i) HOW.out ⟨a0, a4, a8, a16, a32, a40, a48⟩ rfl _ (by simp) rfl (by have := HTL.out; omega) HW.out.size ?_)
        intro v' w3 h1 h2
        have HB3 : Hid (Below w.heap.size w w3) := HW.out.trans h2
        have HOW3 : Hid (OwnH w3 w.heap.size v' (tabFrom l p (i + 1))) := by rw [Hid, HT.out]; exact h1
        clear h1 h2 HOW HW ePI
        go_wp2
        go_roundw
        case rel => exact ⟨i + 1, by omega, by go_num, HB3, HOW3⟩
        case measure => simp [intOf]; omega
      · have hltI : ¬ (i : Int) < (m : Int) := by omega
        have he : i = m := by omega
        subst he
        go_wp2
        go_ret2
        exact ⟨by rw [← HO.out]; exact ⟨_, rfl, HOW.out⟩, HW.out⟩
  · clear b18
    by_cases b52 : q52 = 64
    rotate_left
    · rw [decide_eq_false b52] at hO
      simp only [Bool.false_and, Bool.false_eq_true, if_false] at hO
      subst hO
      have d52 : ((q52 : Int) != 64) = true := by simp; omega
      clear b52
      go_enter Try.func21, Try.ntmps21
      go_wp2_with fail
      refine k16.mono ?_
      rintro e w1 ⟨rfl, rfl⟩
      go_wp2_with fail
      refine k18.mono ?_
      rintro e w1 ⟨rfl, rfl⟩
      go_wp2_with fail
      refine k18.mono ?_
      rintro e w1 ⟨rfl, rfl⟩
      go_wp2_with fail
      refine k32.mono ?_
      rintro e w1 ⟨rfl, rfl⟩
      go_wp2_with fail
      refine k56.mono ?_
      rintro e w1 ⟨rfl, rfl⟩
      go_wp2_with fail
      refine k52.mono ?_
      rintro e w1 ⟨rfl, rfl⟩
      go_wp2
      go_ret2
      exact ⟨rfl, HBR.out⟩
    subst b52
    by_cases b54 : q54 = 56
    rotate_left
    · rw [decide_eq_false b54] at hO
      simp only [Bool.and_false, Bool.false_and, Bool.false_eq_true, if_false] at hO
      subst hO
      have d54 : ((q54 : Int) != 56) = true := by simp; omega
      clear b54
      go_enter Try.func21, Try.ntmps21
      go_wp2_with fail
      refine k16.mono ?_
      rintro e w1 ⟨rfl, rfl⟩
      go_wp2_with fail
      refine k18.mono ?_
      rintro e w1 ⟨rfl, rfl⟩
      go_wp2_with fail
      refine k18.mono ?_
      rintro e w1 ⟨rfl, rfl⟩
      go_wp2_with fail
      refine k32.mono ?_
      rintro e w1 ⟨rfl, rfl⟩
      go_wp2_with fail
      refine k56.mono ?_
      rintro e w1 ⟨rfl, rfl⟩
      go_wp2_with fail
      refine k52.mono ?_
      rintro e w1 ⟨rfl, rfl⟩
      go_wp2_with fail
      refine k54.mono ?_
      rintro e w1 ⟨rfl, rfl⟩
      go_wp2
      go_ret2
      exact ⟨rfl, HBR.out⟩
    subst b54
    by_cases c1 : 1 ≤ m
    rotate_left
    · rw [decide_eq_false c1] at hO
      simp only [Bool.and_false, Bool.false_and, Bool.false_eq_true, if_false] at hO
      subst hO
      obtain rfl : m = 0 := by omega
      go_enter Try.func21, Try.ntmps21
      go_wp2_with fail
      refine k16.mono ?_
      rintro e w1 ⟨rfl, rfl⟩
      go_wp2_with fail
      refine k18.mono ?_
      rintro e w1 ⟨rfl, rfl⟩
      go_wp2_with fail
      refine k18.mono ?_
      rintro e w1 ⟨rfl, rfl⟩
      go_wp2_with fail
      refine k32.mono ?_
      rintro e w1 ⟨rfl, rfl⟩
      go_wp2_with fail
      refine k56.mono ?_
      rintro e w1 ⟨rfl, rfl⟩
      go_wp2_with fail
      refine k52.mono ?_
      rintro e w1 ⟨rfl, rfl⟩
      go_wp2_with fail
      refine k54.mono ?_
      rintro e w1 ⟨rfl, rfl⟩
      go_wp2
      go_ret2
      exact ⟨rfl, HBR.out⟩
    have d1 : decide ((m : Int) < 1) = false := decide_eq_false (by omega)
    have n1 : ¬ m < 1 := by omega
    by_cases c16 : m ≤ 16
    rotate_left
    · rw [decide_eq_false c16] at hO
      simp only [Bool.and_false, Bool.false_and, Bool.false_eq_true, if_false] at hO
      subst hO
      have d16 : (16 : Int) < (m : Int) := by omega
      clear c16
      go_enter Try.func21, Try.ntmps21
      go_wp2_with fail
      refine k16.mono ?_
      rintro e w1 ⟨rfl, rfl⟩
      go_wp2_with fail
      refine k18.mono ?_
      rintro e w1 ⟨rfl, rfl⟩
      go_wp2_with fail
      refine k18.mono ?_
      rintro e w1 ⟨rfl, rfl⟩
      go_wp2_with fail
      refine k32.mono ?_
      rintro e w1 ⟨rfl, rfl⟩
      go_wp2_with fail
      refine k56.mono ?_
      rintro e w1 ⟨rfl, rfl⟩
      go_wp2_with fail
      refine k52.mono ?_
      rintro e w1 ⟨rfl, rfl⟩
      go_wp2_with fail
      refine k54.mono ?_
      rintro e w1 ⟨rfl, rfl⟩
      go_wp2
      go_ret2
      exact ⟨rfl, HBR.out⟩
    have d16 : decide ((16 : Int) < (m : Int)) = false := decide_eq_false (by omega)
    have m16 : (m : Int) ≤ 16 := by omega
    have m1 : 1 ≤ (m : Int) := by omega
    rw [decide_eq_true c1, decide_eq_true c16] at hO
    simp only [Bool.and_true, Bool.true_and, decide_true] at hO
    by_cases cI : p + m * 56 ≤ n
    rotate_left
    · rw [decide_eq_false cI] at hO hI
      simp only [Bool.false_eq_true, if_false] at hO
      subst hO
      clear cI c1 c16 n1
      go_enter Try.func21, Try.ntmps21
      go_wp2_with fail
      refine k16.mono ?_
      rintro e w1 ⟨rfl, rfl⟩
      go_wp2_with fail
      refine k18.mono ?_
      rintro e w1 ⟨rfl, rfl⟩
      go_wp2_with fail
      refine k18.mono ?_
      rintro e w1 ⟨rfl, rfl⟩
      go_wp2_with fail
      refine k32.mono ?_
      rintro e w1 ⟨rfl, rfl⟩
      go_wp2_with fail
      refine k56.mono ?_
      rintro e w1 ⟨rfl, rfl⟩
      go_wp2_with fail
      refine k52.mono ?_
      rintro e w1 ⟨rfl, rfl⟩
      go_wp2_with fail
      refine k54.mono ?_
      rintro e w1 ⟨rfl, rfl⟩
      go_wp2_with fail
      refine hI.mono ?_
      rintro e w1 ⟨rfl, hb1⟩
      have HB1 := hide hb1
      clear hb1
      go_wp2
      go_ret2
      exact ⟨rfl, HB1.out⟩
    rw [decide_eq_true cI] at hO hI
    rw [if_pos rfl] at hO
    have pI : (p : Int) + (m : Int) * 56 ≤ (n : Int) := by omega
    have nI : (n : Int) ≤ 140737488351232 := by omega
    have HO := hide hO
    clear hO c1 n1
    go_enter Try.func21, Try.ntmps21
    go_wp2_with fail
    refine k16.mono ?_
    rintro e w1 ⟨rfl, rfl⟩
    go_wp2_with fail
    refine k18.mono ?_
    rintro e w1 ⟨rfl, rfl⟩
    go_wp2_with fail
    refine k18.mono ?_
    rintro e w1 ⟨rfl, rfl⟩
    go_wp2_with fail
    refine k32.mono ?_
    rintro e w1 ⟨rfl, rfl⟩
    go_wp2_with fail
    refine k56.mono ?_
    rintro e w1 ⟨rfl, rfl⟩
    go_wp2_with fail
    refine k52.mono ?_
    rintro e w1 ⟨rfl, rfl⟩
    go_wp2_with fail
    refine k54.mono ?_
    rintro e w1 ⟨rfl, rfl⟩
    go_wp2_with fail
    refine hI.mono ?_
    rintro e w1 ⟨rfl, hb1⟩
    have HB1 := hide hb1
    clear hb1
    clear hI k16 k18 k32 k52 k54 k56 y0 y1 y2 y3 y4 y5 y6
    go_wp2
    go_loopw [6, 7, 8] (fun v6 v7 _ wr => ∃ i : Nat, i ≤ m ∧ v7 = .int .u64 i ∧ Hid (Below w.heap.size w wr) ∧ Hid (OwnH wr w.heap.size v6 (tabFrom l p i))) (fun _ v7 _ _ => m - (intOf v7).toNat)
    case atStart => exact ⟨0, by omega, rfl, HB1, OwnH.nil _ _⟩
    case round =>
      obtain ⟨i, hi, rfl, HW, HOW⟩ := hrel
      by_cases hlt : i < m
      · have hltI : (i : Int) < (m : Int) := by omega
        have hAr := HA.out.below' HW.out
        have j0 := ref8_N wr _ l hAr (p + i * 56) 4 (by omega) (by omega) (by omega)
        have j4 := ref8_N wr _ l hAr (p + i * 56 + 4) 4 (by omega) (by omega) (by omega)
        have j8 := ref8_N wr _ l hAr (p + i * 56 + 8) 8 (by omega) (by omega) (by omega)
        have j16 := ref8_N wr _ l hAr (p + i * 56 + 16) 8 (by omega) (by omega) (by omega)
        have j32 := ref8_N wr _ l hAr (p + i * 56 + 32) 8 (by omega) (by omega) (by omega)
        have j40 := ref8_N wr _ l hAr (p + i * 56 + 40) 8 (by omega) (by omega) (by omega)
        have j48 := ref8_N wr _ l hAr (p + i * 56 + 48) 8 (by omega) (by omega) (by omega)
        have r0 := rd4 l (p + i * 56)
        have r4 := rd4 l (p + i * 56 + 4)
        have eT : tabFrom l p (i + 1) = tabFrom l p i ++ [phAt l (p + i * 56)] := by unfold tabFrom; rw [List.range_succ, List.map_append]; rfl
        unfold phAt at eT
        generalize rd l (p + i * 56) 4 = a0 at *
        generalize rd l (p + i * 56 + 4) 4 = a4 at *
        generalize rd l (p + i * 56 + 8) 8 = a8 at *
        generalize rd l (p + i * 56 + 16) 8 = a16 at *
        generalize rd l (p + i * 56 + 32) 8 = a32 at *
        generalize rd l (p + i * 56 + 40) 8 = a40 at *
        generalize rd l (p + i * 56 + 48) 8 = a48 at *
        have HT := hide eT
        have HTL : Hid ((tabFrom l p i).length ≤ 16) := by rw [Hid]; simp [tabFrom]; omega
        obtain ⟨P, hP⟩ : ∃ P, p + i * 56 = P := ⟨_, rfl⟩
        have ePI : (p : Int) + (i : Int) * 56 = (P : Int) := by omega
        rw [hP] at j0 j4 j8 j16 j32 j40 j48
        have hPI : (P : Int) ≤ 140737488351232 := by omega
        have r0I : (a0 : Int) < 4294967296 := by omega
        have r4I : (a4 : Int) < 4294967296 := by omega
        clear eT hAr r0 r4 hP
        go_wp2_with fail
        refine j0.mono ?_
        rintro e w2 ⟨rfl, rfl⟩
        go_wp2_with fail
        refine j4.mono ?_
        rintro e w2 ⟨rfl, rfl⟩
        go_wp2_with fail
        refine j8.mono ?_
        rintro e w2 ⟨rfl, rfl⟩
        go_wp2_with fail
        refine j16.mono ?_
        rintro e w2 ⟨rfl, rfl⟩
        go_wp2_with fail
        refine j32.mono ?_
        rintro e w2 ⟨rfl, rfl⟩
        go_wp2_with fail
        refine j40.mono ?_
        rintro e w2 ⟨rfl, rfl⟩
        go_wp2_with fail
        refine j48.mono ?_
        rintro e w2 ⟨rfl, rfl⟩
        clear j0 j4 j8 j16 j32 j40 j48
        go_wp2_with (at_builtin; refine append_ph rfl _ _ rfl w.heap.size wr _ (tabFrom l p i) HOW.out ⟨a0, a4, a8, a16, a32, a40, a48⟩ rfl _ (by simp) rfl (by have := HTL.out; omega) HW.out.size ?_)
        intro v' w3 h1 h2
        have HB3 : Hid (Below w.heap.size w w3) := HW.out.trans h2
        have HOW3 : Hid (OwnH w3 w.heap.size v' (tabFrom l p (i + 1))) := by rw [Hid, HT.out]; exact h1
        clear h1 h2 HOW HW ePI
        go_wp2
        go_roundw
        case rel => exact ⟨i + 1, by omega, by go_num, HB3, HOW3⟩
        case measure => simp [intOf]; omega
      · have hltI : ¬ (i : Int) < (m : Int) := by omega
        have he : i = m := by omega
        subst he
        go_wp2
        go_ret2
        exact ⟨by rw [← HO.out]; exact ⟨_, rfl, HOW.out⟩, HW.out⟩
end Go.Proofs.Ytdclofiifcpkkaa
namespace Go.Proofs.Ytdclofiifcpkkaa
open Go.RowKit Go.PlainAid Go.Sort
set_option maxHeartbeats 1000000 in
theorem ref8_End (w : World) (p : Ph) (hs : p.vaddr + p.memsz ≤ 1000000) :
    Calls Try.prog 23 #[.agg p.cells.toArray] w fun e w' => e = .returned (.int .u64 (endN p)) ∧ Below w.heap.size w w' := by
  have HB : Hid (Below w.heap.size w (w.alloc (.cells p.cells.toArray 28))) := (Below.refl _ w).alloc (Nat.le_refl _) _
  have hT : endN p = (p.vaddr + p.memsz + 255) / 256 * 256 := by unfold endN; rw [if_pos (by omega)]
  obtain ⟨T, hTe⟩ : ∃ T, endN p = T := ⟨_, rfl⟩
  rw [hTe] at hT ⊢
  clear hTe
  obtain ⟨ty, fl, off, va, fs, ms, al⟩ := p
  simp only [Ph.cells] at *
  have h1 : (va : Int) + (ms : Int) ≤ 1000000 := by omega
  have HT := hide hT
  clear hT
  go_enter Try.func23, Try.ntmps23
  go_wp2
  generalize w.alloc _ = w0 at *
  go_loopw [3] (fun v3 wr => wr = w0 ∧ ∃ q : Nat, v3 = .int .u64 q ∧ va + ms ≤ q ∧ q ≤ T) (fun v3 _ => T - (intOf v3).toNat)
  case atStart => exact ⟨rfl, va + ms, by go_num, by omega, by have := HT.out; omega⟩
  case round =>
    obtain ⟨rfl, q, rfl, hq1, hq2⟩ := hrel
    have hTT := HT.out
    by_cases c : q % 256 = 0
    · obtain rfl : q = T := by omega
      have d : ((q : Int) % 256 != 0) = false := by simp; omega
      clear hTT
      go_wp2
      go_ret
      exact ⟨rfl, HB.out⟩
    · have d : ((q : Int) % 256 != 0) = true := by simp; omega
      have hq3 : q < T := by omega
      have hqI : (q : Int) ≤ 2000000 := by omega
      clear hTT
      go_wp2
      go_roundw
      case rel => exact ⟨trivial, q + 1, by go_num, by omega, by omega⟩
      case measure => simp [intOf]; omega
def mayB (p : Ph) (n e : Nat) (first : Bool) : Bool := partOk p n && !decide (p.vaddr < e) && !(first && !decide (p.vaddr = 0))
theorem may_iff (p : Ph) (n e : Nat) (first : Bool) : mayB p n e first = true ↔ (p.vaddr % 256 = 0 ∧ p.off % 256 = 0 ∧ p.flags ≤ 7 ∧ p.memsz ≠ 0 ∧ p.memsz ≤ 16384 ∧ p.filesz ≤ p.memsz ∧ p.vaddr ≤ 16384 ∧ p.off + p.filesz ≤ n ∧ (first = true → p.vaddr = 0) ∧ ¬ p.vaddr < e ∧ p.vaddr + p.memsz ≤ 16384) := by
  unfold mayB partOk insN
  cases first <;> simp <;> omega
set_option maxHeartbeats 4000000 in
set_option maxRecDepth 20000 in
theorem ref8_may (w : World) (p : Ph) (hp : p.ok) (n : Nat) (hn : n ≤ 140737488351232) (e : Nat) (he : e < 18446744073709551616) (first : Bool) :
    Calls Try.prog 22 #[.agg p.cells.toArray, .int .u64 n, .int .u64 e, .bool first] w fun x w' => x = .returned (.bool (mayB p n e first)) ∧ Below w.heap.size w w' := by
  have HB : Hid (Below w.heap.size w (w.alloc (.cells p.cells.toArray 28))) := (Below.refl _ w).alloc (Nat.le_refl _) _
  obtain ⟨O, hO⟩ : ∃ O, mayB p n e first = O := ⟨_, rfl⟩
  have hM := may_iff p n e first
  rw [hO] at hM ⊢
  have hI := ref_Inside (p.off : Int) (p.filesz : Int) 0 (n : Int) (w.alloc (.cells p.cells.toArray 28)) (by omega) (by have := hp.off; omega) (by omega) (by have := hp.filesz; omega) (by omega) (by omega) (by omega) (by omega)
  have e1 := insN_is p.off p.filesz 0 n
  rw [show ((0 : Nat) : Int) = 0 from rfl] at e1
  rw [e1] at hI
  have HEn := hide (fun W hs => ref8_End W p hs)
  have hEv : p.vaddr ≤ 16384 → p.memsz ≤ 16384 → p.vaddr % 256 = 0 → (endN p ≤ 16384 ↔ p.vaddr + p.memsz ≤ 16384) := fun _ _ _ => by
    unfold endN; rw [if_pos (by omega)]; omega
  obtain ⟨E, hE⟩ : ∃ E, endN p = E := ⟨_, rfl⟩
  rw [hE] at HEn hEv
  have hins : insN p.off p.filesz 0 n = decide (p.off + p.filesz ≤ n) := by unfold insN; rw [decide_eq_decide]; omega
  rw [hins] at hI
  have h1 := hp.vaddr
  have h2 := hp.off
  have h3 := hp.flags
  have h4 := hp.memsz
  have h5 := hp.filesz
  clear hp hO e1 hins hE
  obtain ⟨ty, fl, off, va, fs, ms, al⟩ := p
  simp only [Ph.cells] at *
  have fls : ¬ (O = true) → O = false := fun h => by cases O <;> simp at h ⊢
  have HFL := hide fls
  have HM := hide hM
  have HEV := hide hEv
  clear fls hM hEv
  by_cases c0 : va % 256 = 0
  rotate_left
  · obtain rfl := HFL.out (fun h => c0 (HM.out.1 h).1)
    have d0 : ((va : Int) % 256 != 0) = true := by simp; omega
    clear c0 HFL HM HEV HEn
    go_enter Try.func22, Try.ntmps22
    go_wp2
    go_ret
    exact ⟨rfl, HB.out⟩
  have d0 : ((va : Int) % 256 != 0) = false := by simp; omega
  by_cases c1 : off % 256 = 0
  rotate_left
  · obtain rfl := HFL.out (fun h => c1 (HM.out.1 h).2.1)
    have d1 : ((off : Int) % 256 != 0) = true := by simp; omega
    clear c1 HFL HM HEV HEn
    go_enter Try.func22, Try.ntmps22
    go_wp2
    go_ret
    exact ⟨rfl, HB.out⟩
  have d1 : ((off : Int) % 256 != 0) = false := by simp; omega
  by_cases c2 : fl ≤ 7
  rotate_left
  · obtain rfl := HFL.out (fun h => c2 (HM.out.1 h).2.2.1)
    have d2 : decide ((7 : Int) < (fl : Int)) = true := decide_eq_true (by omega)
    have i2 : (7 : Int) < (fl : Int) := by omega
    clear c2 HFL HM HEV HEn
    go_enter Try.func22, Try.ntmps22
    go_wp2
    go_ret
    exact ⟨rfl, HB.out⟩
  have d2 : decide ((7 : Int) < (fl : Int)) = false := decide_eq_false (by omega)
  by_cases c3 : ms ≠ 0
  rotate_left
  · obtain rfl := HFL.out (fun h => c3 (HM.out.1 h).2.2.2.1)
    have d3 : ((ms : Int) == 0) = true := by simp; omega
    clear c3 HFL HM HEV HEn
    go_enter Try.func22, Try.ntmps22
    go_wp2
    go_ret
    exact ⟨rfl, HB.out⟩
  have d3 : ((ms : Int) == 0) = false := by simp; omega
  by_cases c4 : ms ≤ 16384
  rotate_left
  · obtain rfl := HFL.out (fun h => c4 (HM.out.1 h).2.2.2.2.1)
    have d4 : decide ((16384 : Int) < (ms : Int)) = true := decide_eq_true (by omega)
    have i4 : (16384 : Int) < (ms : Int) := by omega
    clear c4 HFL HM HEV HEn
    go_enter Try.func22, Try.ntmps22
    go_wp2
    go_ret
    exact ⟨rfl, HB.out⟩
  have d4 : decide ((16384 : Int) < (ms : Int)) = false := decide_eq_false (by omega)
  by_cases c5 : fs ≤ ms
  rotate_left
  · obtain rfl := HFL.out (fun h => c5 (HM.out.1 h).2.2.2.2.2.1)
    have d5 : decide (ms < fs) = true := decide_eq_true (by omega)
    have i5 : ms < fs := by omega
    clear c5 HFL HM HEV HEn
    go_enter Try.func22, Try.ntmps22
    go_wp2
    go_ret
    exact ⟨rfl, HB.out⟩
  have d5 : decide (ms < fs) = false := decide_eq_false (by omega)
  by_cases c6 : va ≤ 16384
  rotate_left
  · obtain rfl := HFL.out (fun h => c6 (HM.out.1 h).2.2.2.2.2.2.1)
    have d6 : decide ((16384 : Int) < (va : Int)) = true := decide_eq_true (by omega)
    have i6 : (16384 : Int) < (va : Int) := by omega
    clear c6 HFL HM HEV HEn
    go_enter Try.func22, Try.ntmps22
    go_wp2
    go_ret
    exact ⟨rfl, HB.out⟩
  have d6 : decide ((16384 : Int) < (va : Int)) = false := decide_eq_false (by omega)
  by_cases c7 : off + fs ≤ n
  rotate_left
  · obtain rfl := HFL.out (fun h => c7 (HM.out.1 h).2.2.2.2.2.2.2.1)
    rw [decide_eq_false c7] at hI
    clear c0 c1 c2 c3 c4 c5 c6 c7 HFL HM HEV HEn
    go_enter Try.func22, Try.ntmps22
    go_wp2_with fail
    refine hI.mono ?_
    rintro x w1 ⟨rfl, hb1⟩
    have HB1 : Hid (Below w.heap.size w w1) := HB.out.trans (hb1.mono HB.out.size)
    clear hI hb1
    go_wp2
    go_ret
    exact ⟨rfl, HB1.out⟩
  rw [decide_eq_true c7] at hI
  have HC := hide (And.intro c0 (And.intro c1 (And.intro c2 (And.intro c3 (And.intro c4 (And.intro c5 (And.intro c6 c7)))))))
  have HZ : Hid (∀ (w1 : World), Below (w.alloc (.cells #[.int .u32 ty, .int .u32 fl, .int .u64 off, .int .u64 va, .int .u64 fs, .int .u64 ms, .int .u64 al] 28)).heap.size (w.alloc (.cells #[.int .u32 ty, .int .u32 fl, .int .u64 off, .int .u64 va, .int .u64 fs, .int .u64 ms, .int .u64 al] 28)) w1 → ∀ k u, (Ph.cells ⟨ty, fl, off, va, fs, ms, al⟩)[k]? = some u → w1.cell? ⟨w.heap.size, k, none⟩ = some u) := fun w1 hb k u hu => by
    rw [hb.cell (p := ⟨w.heap.size, k, none⟩) (by simp), World.cell?_alloc_at _ _ _ _ (by simp)]
    simpa [Ph.cells] using hu
  go_enter Try.func22, Try.ntmps22
  clear c0 c1 c2 c3 c4 c5 c6 c7
  go_wp2_with fail
  refine hI.mono ?_
  rintro x w1 ⟨rfl, hb1⟩
  have HB1 : Hid (Below w.heap.size w w1) := HB.out.trans (hb1.mono HB.out.size)
  have z0 := HZ.out w1 hb1 0 _ rfl
  have z1 := HZ.out w1 hb1 1 _ rfl
  have z2 := HZ.out w1 hb1 2 _ rfl
  have z3 := HZ.out w1 hb1 3 _ rfl
  have z4 := HZ.out w1 hb1 4 _ rfl
  have z5 := HZ.out w1 hb1 5 _ rfl
  have z6 := HZ.out w1 hb1 6 _ rfl
  clear hI hb1 HZ HB d0 d1 d2 d3 d4 d5 d6
  by_cases cf : first = true ∧ va ≠ 0
  · obtain ⟨rfl, cv⟩ := cf
    obtain rfl := HFL.out (fun h => cv ((HM.out.1 h).2.2.2.2.2.2.2.2.1 rfl))
    have dv : ((va : Int) != 0) = true := by simp; omega
    clear cv HFL HM HEV HEn
    go_wp2
    go_ret
    exact ⟨rfl, HB1.out⟩
  have hff : first = true → va = 0 := fun h => by
    by_cases c : va = 0
    · exact c
    · exact absurd ⟨h, c⟩ cf
  by_cases ce : va < e
  · obtain rfl := HFL.out (fun h => (HM.out.1 h).2.2.2.2.2.2.2.2.2.1 ce)
    clear HFL HM HEV HEn
    cases first with
    | true =>
      obtain rfl := hff rfl
      clear cf hff
      have de : decide (0 < e) = true := decide_eq_true ce
      go_wp2
      go_ret
      exact ⟨rfl, HB1.out⟩
    | false =>
      clear cf hff
      go_wp2
      go_ret
      exact ⟨rfl, HB1.out⟩
  have de : decide (va < e) = false := decide_eq_false ce
  obtain ⟨c0, c1, c2, c3, c4, c5, c6, c7⟩ := HC.out
  have hOv : O = decide (E ≤ 16384) := by
    by_cases c : E ≤ 16384
    · rw [decide_eq_true c]
      exact HM.out.2 ⟨c0, c1, c2, c3, c4, c5, c6, c7, hff, ce, (HEV.out c6 c4 c0).1 c⟩
    · rw [decide_eq_false c]
      exact HFL.out (fun h => c ((HEV.out c6 c4 c0).2 (HM.out.1 h).2.2.2.2.2.2.2.2.2.2))
  have hEn := HEn.out w1 (by omega)
  have hOI : decide ((E : Int) ≤ 16384) = O := by rw [hOv, decide_eq_decide]; omega
  clear hOv c0 c1 c2 c3 c4 c5 c6 c7 HM HFL HEV HEn ce HC
  cases first with
  | true =>
    obtain rfl := hff rfl
    clear cf hff
    go_wp2_with fail
    refine hEn.mono ?_
    rintro x w2 ⟨rfl, hb2⟩
    have HB2 : Hid (Below w.heap.size w w2) := HB1.out.trans (hb2.mono HB1.out.size)
    clear hEn hb2
    go_wp2
    go_ret
    exact ⟨rfl, HB2.out⟩
  | false =>
    clear cf hff
    go_wp2_with fail
    refine hEn.mono ?_
    rintro x w2 ⟨rfl, hb2⟩
    have HB2 : Hid (Below w.heap.size w w2) := HB1.out.trans (hb2.mono HB1.out.size)
    clear hEn hb2
    go_wp2
    go_ret
    exact ⟨rfl, HB2.out⟩
end Go.Proofs.Ytdclofiifcpkkaa
namespace Go.Proofs.Ytdclofiifcpkkaa
open Go.RowKit Go.PlainAid Go.Sort
set_option maxHeartbeats 4000000 in
set_option maxRecDepth 20000 in
theorem ref8_OffW (w : World) (m : Nat) (v : Value) (d r : Ph) (ps : List Ph) (h : ArgH w v ps) (ok : ∀ p ∈ ps, p.ok) (sm : ∀ p ∈ ps, p.off + p.filesz ≤ 140737488351232) (x s : Nat) (hx : x < 18446744073709551616) (hs : s < 18446744073709551616) :
    Calls Try.prog 24 #[.agg (hdCells m v d r).toArray, .int .u64 x, .int .u64 s] w fun e w' => e = .returned (offV (offN ps x s)) ∧ Below w.heap.size w w' := by
  have HB : Hid (Below w.heap.size w (w.alloc (.cells (hdCells m v d r).toArray 30))) := (Below.refl _ w).alloc (Nat.le_refl _) _
  have HG : Hid ((w.alloc (.cells (hdCells m v d r).toArray 30)).heap[w.heap.size]? = some (.cells (hdCells m v d r).toArray 30 (0, 0))) := heap_alloc_new _ _
  have HA := hide (h.below HB.out)
  have hl := h.1
  obtain ⟨a, cap, rfl⟩ := h.form
  have HK := hide ok
  have HSM := hide sm
  obtain ⟨O, hO⟩ : ∃ O, offN ps x s = O := ⟨_, rfl⟩
  have HO : Hid (offN (ps.drop 0) x s = O) := hO
  rw [hO]
  clear h ok hO sm
  unfold hdCells at *
  go_enter Try.func24, Try.ntmps24
  go_wp2
  generalize w.alloc _ = w0 at *
  go_loopw [8, 9] (fun vi _ wr => ∃ i : Nat, i ≤ ps.length ∧ vi = .int .i64 i ∧ Hid (Below w0.heap.size w0 wr) ∧ Hid (offN (ps.drop i) x s = O)) (fun vi _ _ => ps.length - (intOf vi).toNat)
  case atStart => exact ⟨0, by omega, rfl, Below.refl _ _, HO⟩
  case round =>
    obtain ⟨i, hi, rfl, HW, HF⟩ := hrel
    have g1 := cells_of_block (block_stay HG.out HW.out) 1 _ rfl
    by_cases hlt : i < ps.length
    · have hltI : (i : Int) < (ps.length : Int) := by omega
      obtain ⟨g, rfl, hc1, hc2, hg, y0, y1, y2, y3, y4, y5, y6⟩ := (HA.out.below HW.out).at i hlt
      have hok := HK.out ps[i] (List.getElem_mem hlt)
      have hsm := HSM.out ps[i] (List.getElem_mem hlt)
      have hF := HF.out
      rw [List.drop_eq_getElem_cons hlt, offN] at hF
      clear HF
      generalize ps[i] = p at *
      have p1 := hok.vaddr
      have p2 := hok.filesz
      have p3 := hok.off
      obtain ⟨ty, fl, off, va, fs, ms, al⟩ := p
      simp only at y0 y1 y2 y3 y4 y5 y6 p1 p2 p3 hF hsm
      have HB1 : Hid (Below w0.heap.size w0 (wr.alloc (.cells #[.int .u32 ty, .int .u32 fl, .int .u64 off, .int .u64 va, .int .u64 fs, .int .u64 ms, .int .u64 al] 28))) := HW.out.alloc HW.out.size _
      have hI := ref_Inside (x : Int) (s : Int) (va : Int) (fs : Int) (wr.alloc (.cells #[.int .u32 ty, .int .u32 fl, .int .u64 off, .int .u64 va, .int .u64 fs, .int .u64 ms, .int .u64 al] 28)) (by omega) (by omega) (by omega) (by omega) (by omega) (by omega) (by omega) (by omega)
      rw [insN_is] at hI
      have HZ : Hid (∀ (w1 : World), Below (wr.alloc (.cells #[.int .u32 ty, .int .u32 fl, .int .u64 off, .int .u64 va, .int .u64 fs, .int .u64 ms, .int .u64 al] 28)).heap.size (wr.alloc (.cells #[.int .u32 ty, .int .u32 fl, .int .u64 off, .int .u64 va, .int .u64 fs, .int .u64 ms, .int .u64 al] 28)) w1 → ∀ k u, (Ph.cells ⟨ty, fl, off, va, fs, ms, al⟩)[k]? = some u → w1.cell? ⟨wr.heap.size, k, none⟩ = some u) := fun w1 hb k u hu => by
        rw [hb.cell (p := ⟨wr.heap.size, k, none⟩) (by simp), World.cell?_alloc_at _ _ _ _ (by simp)]
        simpa [Ph.cells] using hu
      clear hok
      by_cases cI : insN x s va fs = true
      · rw [if_pos cI] at hF
        rw [cI] at hI
        have hv : va ≤ x ∧ x + s ≤ va + fs := by unfold insN at cI; simpa using cI
        have hvI : (va : Int) ≤ (x : Int) := by omega
        rw [if_pos (by omega)] at hF
        obtain ⟨q, hq⟩ : ∃ q, off + (x - va) = q := ⟨_, rfl⟩
        rw [hq] at hF
        have eV : (x : Int) - (va : Int) + (off : Int) = (q : Int) := by omega
        have eB : (x : Int) - (va : Int) + (off : Int) ≤ 140737488351232 := by omega
        have HF := hide hF
        have HEV := hide eV
        clear cI hF hq hv eV
        go_wp2_with fail
        refine hI.mono ?_
        rintro e w1 ⟨rfl, hb1⟩
        have HB2 : Hid (Below w0.heap.size w0 w1) := HB1.out.trans (hb1.mono HB1.out.size)
        have z2 := HZ.out w1 hb1 2 _ rfl
        have z3 := HZ.out w1 hb1 3 _ rfl
        clear hI hb1 HZ HB1
        go_wp2
        go_ret2
        refine ⟨?_, HB.out.trans (HB2.out.mono HB.out.size)⟩
        rw [← HF.out]
        show _ = Ending.returned (.tuple #[.int .u64 ((q : Nat) : Int), .bool true])
        rw [← HEV.out]
        rfl
      · rw [if_neg cI] at hF
        have cI' : insN x s va fs = false := by simpa using cI
        rw [cI'] at hI
        have HF := hide hF
        clear cI cI' hF
        go_wp2_with fail
        refine hI.mono ?_
        rintro e w1 ⟨rfl, hb1⟩
        have HB2 : Hid (Below w0.heap.size w0 w1) := HB1.out.trans (hb1.mono HB1.out.size)
        clear hI hb1 HZ HB1
        go_wp2
        go_roundw
        case rel => exact ⟨i + 1, by omega, by go_num, HB2, HF⟩
        case measure => simp [intOf]; omega
    · have hltI : ¬ (i : Int) < (ps.length : Int) := by omega
      have he : i = ps.length := by omega
      subst he
      have hF := HF.out
      rw [List.drop_length, offN] at hF
      subst hF
      clear HF
      go_wp2
      go_ret2
      exact ⟨rfl, HB.out.trans (HW.out.mono HB.out.size)⟩
theorem ref8_Off (w : World) (m : Nat) (v : Value) (d r : Ph) (ps : List Ph) (h : ArgH w v ps) (ok : ∀ p ∈ ps, p.ok) (sm : ∀ p ∈ ps, p.off + p.filesz ≤ 1000000) (x s : Nat) (hx : x < 18446744073709551616) (hs : s < 18446744073709551616) : Calls Try.prog 24 #[.agg (hdCells m v d r).toArray, .int .u64 x, .int .u64 s] w fun e w' => e = .returned (offV (offN ps x s)) ∧ Below w.heap.size w w' := ref8_OffW w m v d r ps h ok (fun p hp => Nat.le_trans (sm p hp) (by decide)) x s hx hs
set_option maxHeartbeats 2000000 in
theorem ref8_Span (w : World) (m : Nat) (v : Value) (d r : Ph) (ps : List Ph) (h : ArgH w v ps) (sm : ∀ p ∈ ps, p.vaddr + p.memsz ≤ 1000000) :
    Calls Try.prog 35 #[.agg (hdCells m v d r).toArray] w fun e w' => e = .returned (.int .i64 (spanN ps)) ∧ Below w.heap.size w w' := by
  have HB : Hid (Below w.heap.size w (w.alloc (.cells (hdCells m v d r).toArray 30))) := (Below.refl _ w).alloc (Nat.le_refl _) _
  have hA := h
  have hl := h.1
  obtain ⟨a, cap, rfl⟩ := h.form
  obtain ⟨O, hO⟩ : ∃ O, spanN ps = O := ⟨_, rfl⟩
  have HO := hide hO
  rw [hO]
  clear h hO
  rcases List.eq_nil_or_concat ps with rfl | ⟨t, p, rfl⟩
  · have hO := HO.out
    rw [show spanN [] = 0 from rfl] at hO
    subst hO
    clear hA
    unfold hdCells at *
    simp only [List.length_nil] at *
    go_enter Try.func35, Try.ntmps35
    go_wp2
    go_ret
    exact ⟨rfl, HB.out⟩
  · have hlen : (t.concat p).length = t.length + 1 := by simp
    obtain ⟨g, rfl, hc1, hc2, hg, y0, y1, y2, y3, y4, y5, y6⟩ := hA.at t.length (by omega)
    have hget : (t.concat p)[t.length]'(by omega) = p := by simp
    have hok := sm p (by simp)
    rw [hget] at y0 y1 y2 y3 y4 y5 y6
    rw [hlen] at *
    have hO := HO.out
    have e0 : spanN (t.concat p) = endN p / 256 := by unfold spanN; simp
    rw [e0] at hO
    have hE := ref8_End (w.alloc (.cells (hdCells m (.slice (some ⟨g, 0, none⟩) (t.length + 1) cap) d r).toArray 30)) p hok
    have hEl := endN_le p
    clear hget sm hA HO hlen
    generalize endN p = E at *
    generalize t.length = j at *
    have jI : (j : Int) + 1 ≤ 65536 := by omega
    have q1 : (E : Int) / 256 ≤ 72057594037927935 := by omega
    have q2 : 0 ≤ (E : Int) / 256 := by omega
    have q3 : (E : Int) / 256 = (O : Int) := by omega
    have HQ := hide q3
    clear e0 hok q3 hO
    obtain ⟨ty, fl, off, va, fs, ms, al⟩ := p
    unfold hdCells at *
    simp only [Ph.cells] at *
    have b0 : ((j : Int) + 1 == 0) = false := by simp; omega
    go_enter Try.func35, Try.ntmps35
    go_wp2_with fail
    refine hE.mono ?_
    rintro e w1 ⟨rfl, hb1⟩
    have HB1 : Hid (Below w.heap.size w w1) := HB.out.trans (hb1.mono HB.out.size)
    clear hb1 hE
    go_wp2
    go_ret
    exact ⟨by rw [← HQ.out]; rfl, HB1.out⟩
end Go.Proofs.Ytdclofiifcpkkaa
namespace Go.Proofs.Ytdclofiifcpkkaa
open Go.RowKit Go.PlainAid Go.Sort
set_option maxHeartbeats 2000000 in
theorem ref8_Part (w : World) (b : Value) (l : List UInt8) (hb : Arg w b l) (m : Nat) (v : Value) (d r : Ph) (ps : List Ph) (h : ArgH w v ps) (ok : ∀ p ∈ ps, p.ok) (sm : ∀ p ∈ ps, p.off + p.filesz ≤ 1000000) (x s : Nat) (hx : x < 18446744073709551616) (hs : s < 18446744073709551616) :
    Calls Try.prog 19 #[b, .agg (hdCells m v d r).toArray, .int .u64 x, .int .u64 s] w fun e w' => (∃ v', e = .returned (.tuple #[v', .bool (partZ l ps x s).2]) ∧ Own w' w.heap.size v' (partZ l ps x s).1) ∧ Below w.heap.size w w' := by
  have HB : Hid (Below w.heap.size w (w.alloc (.cells (hdCells m v d r).toArray 30))) := (Below.refl _ w).alloc (Nat.le_refl _) _
  have HA := hide (hb.below' HB.out)
  have hOf := ref8_Off _ m v d r ps (h.below HB.out) ok sm x s hx hs
  have hle := offN_le ps x s
  obtain ⟨O, hO⟩ : ∃ O, partZ l ps x s = O := ⟨_, rfl⟩
  rw [hO]
  unfold partZ at hO
  generalize offN ps x s = y at *
  obtain ⟨o, b1⟩ := y
  have HO := hide hO
  obtain ⟨a, cap, rfl, _⟩ := hb.isSlice
  obtain ⟨a2, cap2, rfl⟩ := h.form
  clear hb h ok hO sm
  unfold hdCells at *
  simp only [offV] at *
  cases b1 with
  | false =>
    have hO := HO.out
    simp only [Bool.false_eq_true, false_and, if_false] at hO
    subst hO
    clear HO
    go_enter Try.func19, Try.ntmps19
    go_wp2_with fail
    refine hOf.mono ?_
    rintro e w1 ⟨rfl, hb1⟩
    have HB1 : Hid (Below w.heap.size w w1) := HB.out.trans (hb1.mono HB.out.size)
    clear hb1 hOf
    go_wp2
    go_ret2
    exact ⟨⟨_, rfl, Own.nil _ _⟩, HB1.out⟩
  | true =>
    by_cases c : o + s ≤ l.length
    · have hO := HO.out
      rw [if_pos ⟨rfl, c⟩] at hO
      subst hO
      clear HO
      go_enter Try.func19, Try.ntmps19
      go_wp2_with fail
      refine hOf.mono ?_
      rintro e w1 ⟨rfl, hb1⟩
      have HB1 : Hid (Below w.heap.size w w1) := HB.out.trans (hb1.mono HB.out.size)
      have hP := ref_Part_yes w1 _ l (HA.out.below' hb1) o s c
      clear hb1 hOf
      go_wp2_with fail
      refine hP.mono ?_
      rintro e w2 ⟨v', rfl, hown, hb2⟩
      have HB2 : Hid (Below w.heap.size w w2) := HB1.out.trans (hb2.mono HB1.out.size)
      have HOW := hide (hown.low HB1.out.size)
      clear hb2 hP hown
      go_wp2
      go_ret2
      exact ⟨⟨_, rfl, HOW.out⟩, HB2.out⟩
    · have hO := HO.out
      rw [if_neg (fun e => c e.2)] at hO
      subst hO
      clear HO
      go_enter Try.func19, Try.ntmps19
      go_wp2_with fail
      refine hOf.mono ?_
      rintro e w1 ⟨rfl, hb1⟩
      have HB1 : Hid (Below w.heap.size w w1) := HB.out.trans (hb1.mono HB.out.size)
      have hP := ref_Part_no w1 _ l (HA.out.below' hb1) o s (by omega) c
      clear hb1 hOf
      go_wp2_with fail
      refine hP.mono ?_
      rintro e w2 ⟨rfl, rfl⟩
      clear hP
      go_wp2
      go_ret2
      exact ⟨⟨_, rfl, Own.nil _ _⟩, HB1.out⟩
/-- The number of the first part in whose pages bytes lie, from k on; below 0: none. -/
def holdI (x s : Nat) : List Ph → Nat → Int
  | [], _ => -1
  | p :: t, k => if insN x s p.vaddr (endN p - p.vaddr) then (k : Int) else holdI x s t (k + 1)
theorem holdI_is (r : Ph) : ∀ (ps : List Ph) (o : Nat), (holdI r.vaddr r.memsz ps o = -1 ∧ holdW ps r = false) ∨ ∃ (k : Nat) (h : k < ps.length), holdI r.vaddr r.memsz ps o = ((o + k : Nat) : Int) ∧ holdW ps r = decide (ps[k].flags / 2 % 2 = 1)
  | [], _ => .inl ⟨rfl, rfl⟩
  | p :: t, o => by
    rw [holdI, holdW]
    by_cases c : insN r.vaddr r.memsz p.vaddr (endN p - p.vaddr) = true
    · rw [if_pos c, if_pos c]
      exact .inr ⟨0, by simp, by simp, rfl⟩
    · rw [if_neg c, if_neg c]
      rcases holdI_is r t (o + 1) with h | ⟨k, hk, h1, h2⟩
      · exact .inl h
      · exact .inr ⟨k + 1, by simpa using hk, by rw [h1]; omega, by simpa using h2⟩
set_option maxHeartbeats 4000000 in
set_option maxRecDepth 20000 in
theorem ref8_Holder (w : World) (m : Nat) (v : Value) (d r : Ph) (ps : List Ph) (h : ArgH w v ps) (ok : ∀ p ∈ ps, p.ok) (sm : ∀ p ∈ ps, p.vaddr + p.memsz ≤ 1000000) (x s : Nat) (hx : x < 18446744073709551616) (hs : s < 18446744073709551616) :
    Calls Try.prog 25 #[.agg (hdCells m v d r).toArray, .int .u64 x, .int .u64 s] w fun e w' => e = .returned (.int .i64 (holdI x s ps 0)) ∧ Below w.heap.size w w' := by
  have HB : Hid (Below w.heap.size w (w.alloc (.cells (hdCells m v d r).toArray 30))) := (Below.refl _ w).alloc (Nat.le_refl _) _
  have HG : Hid ((w.alloc (.cells (hdCells m v d r).toArray 30)).heap[w.heap.size]? = some (.cells (hdCells m v d r).toArray 30 (0, 0))) := heap_alloc_new _ _
  have HA := hide (h.below HB.out)
  have hl := h.1
  obtain ⟨a, cap, rfl⟩ := h.form
  have HK := hide ok
  have HSM := hide sm
  obtain ⟨O, hO⟩ : ∃ O, holdI x s ps 0 = O := ⟨_, rfl⟩
  have HO : Hid (holdI x s (ps.drop 0) 0 = O) := hO
  rw [hO]
  clear h ok hO sm
  unfold hdCells at *
  go_enter Try.func25, Try.ntmps25
  go_wp2
  generalize w.alloc _ = w0 at *
  go_loopw [7, 8] (fun vi _ wr => ∃ i : Nat, i ≤ ps.length ∧ vi = .int .i64 i ∧ Hid (Below w0.heap.size w0 wr) ∧ Hid (holdI x s (ps.drop i) i = O)) (fun vi _ _ => ps.length - (intOf vi).toNat)
  case atStart => exact ⟨0, by omega, rfl, Below.refl _ _, HO⟩
  case round =>
    obtain ⟨i, hi, rfl, HW, HF⟩ := hrel
    have g1 := cells_of_block (block_stay HG.out HW.out) 1 _ rfl
    by_cases hlt : i < ps.length
    · have hltI : (i : Int) < (ps.length : Int) := by omega
      obtain ⟨g, rfl, hc1, hc2, hg, y0, y1, y2, y3, y4, y5, y6⟩ := (HA.out.below HW.out).at i hlt
      have hok := HK.out ps[i] (List.getElem_mem hlt)
      have hsm := HSM.out ps[i] (List.getElem_mem hlt)
      have hF := HF.out
      rw [List.drop_eq_getElem_cons hlt, holdI] at hF
      clear HF
      generalize ps[i] = p at *
      have p1 := hok.vaddr
      have hen : p.vaddr ≤ endN p := by unfold endN; rw [if_pos (by omega)]; omega
      have hEl := endN_le p
      have HEn := hide (fun W => ref8_End W p hsm)
      obtain ⟨E, hE⟩ : ∃ E, endN p = E := ⟨_, rfl⟩
      rw [hE] at hF hEl HEn hen
      obtain ⟨pty, pfl, poff, pva, pfs, pms, pal⟩ := p
      simp only [Ph.cells] at y0 y1 y2 y3 y4 y5 y6 p1 hF hen HEn hsm
      have HB1 : Hid (Below w0.heap.size w0 (wr.alloc (.cells #[.int .u32 pty, .int .u32 pfl, .int .u64 poff, .int .u64 pva, .int .u64 pfs, .int .u64 pms, .int .u64 pal] 28))) := HW.out.alloc HW.out.size _
      have HI := hide (fun W => ref_Inside (x : Int) (s : Int) (pva : Int) ((E : Int) - (pva : Int)) W (by omega) (by omega) (by omega) (by omega) (by omega) (by omega) (by omega) (by omega))
      have eI : inB (x : Int) (s : Int) (pva : Int) ((E : Int) - (pva : Int)) = insN x s pva (E - pva) := by
        rw [← insN_is, show (E : Int) - (pva : Int) = ((E - pva : Nat) : Int) by omega]
      rw [eI] at HI
      have ewr : IntKind.u64.wrap ((E : Int) - (pva : Int)) = (E : Int) - (pva : Int) := by rw [IntKind.wrap_u64]; omega
      have ec : ∀ k u, (Ph.cells ⟨pty, pfl, poff, pva, pfs, pms, pal⟩)[k]? = some u → (wr.alloc (.cells #[.int .u32 pty, .int .u32 pfl, .int .u64 poff, .int .u64 pva, .int .u64 pfs, .int .u64 pms, .int .u64 pal] 28)).cell? ⟨wr.heap.size, k, none⟩ = some u := fun k u hu => by
        rw [World.cell?_alloc_at _ _ _ _ (by simp)]; simpa [Ph.cells] using hu
      have HEC := hide ec
      generalize insN x s pva (E - pva) = b at *
      clear hok hE ec eI
      go_wp2_with fail
      try simp only [List.append_eq, List.cons_append, List.nil_append]
      refine wp_region_quiet_below (by kernel_rfl) (by kernel_rfl) ?_
      have e0 := cell_regrown (HEC.out 0 _ rfl)
      have e1 := cell_regrown (HEC.out 1 _ rfl)
      have e2 := cell_regrown (HEC.out 2 _ rfl)
      have e3 := cell_regrown (HEC.out 3 _ rfl)
      have e4 := cell_regrown (HEC.out 4 _ rfl)
      have e5 := cell_regrown (HEC.out 5 _ rfl)
      have e6 := cell_regrown (HEC.out 6 _ rfl)
      repeat (go_big_quiet_step (first | exact Calls.regrown_of (HI.out _) | exact Calls.regrown_of (HEn.out _)))
      refine wpQuiet_nil ?_
      intro _ hwq
      obtain ⟨⟨dq, osq⟩, hwq2⟩ := hwq
      subst hwq2
      have HB2 : Hid (Below w0.heap.size w0 (grow (redrawn (wr.alloc (.cells #[.int .u32 pty, .int .u32 pfl, .int .u64 poff, .int .u64 pva, .int .u64 pfs, .int .u64 pms, .int .u64 pal] 28)) dq) osq)) := HB1.out.trans ((below_regrown _ dq osq).mono HB1.out.size)
      clear e0 e1 e2 e3 e4 e5 e6 HEC g1 y0 y1 y2 y3 y4 y5 y6
      generalize grow _ _ = w2 at *
      cases b with
      | true =>
        rw [if_pos rfl] at hF
        have HF := hide hF
        clear hF
        go_wp2
        go_ret
        exact ⟨by rw [← HF.out]; rfl, HB.out.trans (HB2.out.mono HB.out.size)⟩
      | false =>
        rw [if_neg (by simp)] at hF
        have HF := hide hF
        clear hF
        go_wp2
        go_roundw
        case rel => exact ⟨i + 1, by omega, by go_num, HB2, HF⟩
        case measure => simp [intOf]; omega
    · have hltI : ¬ (i : Int) < (ps.length : Int) := by omega
      have he : i = ps.length := by omega
      subst he
      have hF := HF.out
      rw [List.drop_length, holdI] at hF
      have HF2 := hide hF
      clear HF hF
      go_wp2
      go_ret
      exact ⟨by rw [← HF2.out]; rfl, HB.out.trans (HW.out.mono HB.out.size)⟩
end Go.Proofs.Ytdclofiifcpkkaa
namespace Go.Proofs.Ytdclofiifcpkkaa
open Go.RowKit Go.PlainAid Go.Sort
theorem run_append_ph (W : World) (ty : TypeId) (B : Nat) (v : Value) (l : List Ph) (hown : OwnH W B v l) (e : Ph) (q : Nat) (hq : ∀ j u, e.cells[j]? = some u → W.cell? ⟨q, j, none⟩ = some u) (hlen : l.length ≤ 100000) (hB : B ≤ W.heap.size) :
    ∃ v' w', (Builtin.append_ #[24, 24] ty #[v, .slice (some ⟨q, 0, none⟩) 1 1]).run Try.prog W = .ok v' w' ∧ OwnH w' B v' (l ++ [e]) ∧ W.grownBy w' v.ownBlock ∧ (v'.ownBlock = v.ownBlock ∨ v'.ownBlock = some W.heap.size) := by
  obtain ⟨i, hi, hz0, hz1, hz2⟩ := info_parts infoH
  obtain ⟨v', w', hr, h2, h3, h4, h5⟩ := run_append_own_at (P := Try.prog) W B 24 ty 28 i _ 7 48 Try.underlying24 hi hz0 hz1 hz2 rfl (by decide) v l.length (flatH l) hown ⟨q, 0, none⟩ 1 1 e.cells rfl
    (fun j u hj => by rw [add_at, Nat.zero_add]; exact hq j u hj) e.one (by unfold maxLen; omega) (by omega) hB
  refine ⟨v', w', hr, ?_, h3, h5⟩
  unfold OwnH
  rw [List.length_append, flatH_app]
  simpa [flatH] using h2
theorem new_ph (W : World) (e : Ph) : ∀ j u, e.cells[j]? = some u → (W.alloc (.cells e.cells.toArray 28)).cell? ⟨W.heap.size, j, none⟩ = some u := fun j u h => by
  rw [World.cell?_alloc_at _ _ _ _ (by simp)]; simpa using h
theorem grown_alloc {wr w' : World} {o : Obj} {b : Option Nat} (h : (wr.alloc o).grownBy w' b) : wr.grownBy w' b :=
  ⟨h.os, h.tape, h.output, Nat.le_trans (by simp) h.size, fun k hk hne => by rw [h.block k (by simp; omega) hne]; exact heap_alloc_old wr _ hk⟩
/-- append of one header, with where the row lies behind it. -/
theorem append_ph_at {ops : Array Oper} {rest : List Oper} {o : Oper} {a : Act} {Q : Exit → Act → World → Prop} (hgd : o.guard = none) (s x : Operand)
    (ho : o.op = .call { callee := .builtin .append, args := #[s, x], argTypes := #[24, 24] })
    (B : Nat) (wr : World) (v : Value) (l : List Ph) (hown : OwnH wr B v l) (e : Ph) (hs : a.eval s = v)
    (q : Nat) (hq : q = wr.heap.size) (hx : a.eval x = .slice (some ⟨q, 0, none⟩) 1 1) (hlen : l.length ≤ 100000) (hB : B ≤ wr.heap.size)
    (h : ∀ v' w', OwnH w' B v' (l ++ [e]) → wr.grownBy w' v.ownBlock → (v'.ownBlock = v.ownBlock ∨ ∃ k, v'.ownBlock = some k ∧ wr.heap.size ≤ k) → wpList Try.prog ops Q rest (a.put o.dst v') w') :
    wpList Try.prog ops Q (o :: rest) a (wr.alloc (.cells e.cells.toArray 28)) := by
  subst hq
  obtain ⟨v', w', hr, h2, h3, h4⟩ := run_append_ph (wr.alloc (.cells e.cells.toArray 28)) o.type B v l (hown.stay ((Below.refl _ _).alloc (Nat.le_refl _) _)) e wr.heap.size (new_ph wr e) hlen (by simp; omega)
  refine wpList_plain hgd fun K hK => ?_
  unfold Oper.wp execOp
  simp only [ho, resolve, invoke, builtin, Sem.run_bind, Sem.run_pure, Result.andThen_ok, List.map_toArray, List.map_cons, List.map_nil, hs, hx, hr]
  refine hK _ _ (h v' w' h2 (grown_alloc h3) ?_)
  rcases h4 with e | e
  · exact .inl e
  · exact .inr ⟨_, e, by simp⟩
/-- The same as a step of a region that draws. -/
theorem step_append_ph {ops : Array Oper} {o : Oper} {a : Act} {W : World} {K : Act → World → Prop} {Q : Exit → Act → World → Prop} {E : Prop} (hgd : o.guard = none) (s x : Operand)
    (ho : o.op = .call { callee := .builtin .append, args := #[s, x], argTypes := #[24, 24] })
    (B : Nat) (v : Value) (l : List Ph) (hown : OwnH W B v l) (e : Ph) (hs : a.eval s = v) (q : Nat)
    (hx : a.eval x = .slice (some ⟨q, 0, none⟩) 1 1) (hq : ∀ j u, e.cells[j]? = some u → W.cell? ⟨q, j, none⟩ = some u) (hlen : l.length ≤ 100000) (hB : B ≤ W.heap.size)
    (h : ∀ v' w', OwnH w' B v' (l ++ [e]) → W.grownBy w' v.ownBlock → (v'.ownBlock = v.ownBlock ∨ v'.ownBlock = some W.heap.size) → K (a.put o.dst v') w') :
    if Region.wanted o (yielded ops a.tmps) = true then Oper.wp Try.prog o a W K Q else E := by
  have hw : Region.wanted o (yielded ops a.tmps) = true := by simp [Region.wanted, hgd]
  rw [if_pos hw]
  obtain ⟨v', w', hr, h2, h3, h4⟩ := run_append_ph W o.type B v l hown e q hq hlen hB
  unfold Oper.wp execOp
  simp only [ho, resolve, invoke, builtin, Sem.run_bind, Sem.run_pure, Result.andThen_ok, List.map_toArray, List.map_cons, List.map_nil, hs, hx, hr]
  exact h v' w' h2 h3 h4
theorem OwnH.apart {w w' : World} {B : Nat} {b : Option Nat} {v : Value} {l : List Ph} (h : OwnH w B v l) (hb : w.grownBy w' b) (hR : ∀ k, v.ownBlock = some k → b ≠ some k) : OwnH w' B v l := by
  unfold OwnH at h ⊢
  refine ⟨h.1, ?_⟩
  rcases h.2 with hn | ⟨g, cap, cur, rfl, hB, hg, rest⟩
  · exact .inl hn
  · refine .inr ⟨g, cap, cur, rfl, hB, ?_, rest⟩
    rw [hb.block g (Array.getElem?_eq_some_iff.1 hg).1 (fun e => hR g rfl e.symm)]; exact hg
theorem OwnH.lt {w : World} {B : Nat} {v : Value} {l : List Ph} (h : OwnH w B v l) : ∀ k, v.ownBlock = some k → B ≤ k ∧ k < w.heap.size := World.ownsRow.lt h
/-- The header that is filled, and three rows beside it. -/
structure Pz (w1 wr : World) (m : Nat) (vL vD vR : Value) (L D R : List Ph) : Prop where
  bel : Below w1.heap.size w1 wr
  hd : wr.heap[w1.heap.size]? = some (.cells (hdCells m vL noPh noPh).toArray 30 (0, 0))
  l : OwnH wr (w1.heap.size + 1) vL L
  d : OwnH wr (w1.heap.size + 1) vD D
  r : OwnH wr (w1.heap.size + 1) vR R
  ld : ∀ k, vL.ownBlock = some k → vD.ownBlock ≠ some k
  lr : ∀ k, vL.ownBlock = some k → vR.ownBlock ≠ some k
  dr : ∀ k, vD.ownBlock = some k → vR.ownBlock ≠ some k
theorem Pz.below {w1 wr w' : World} {m : Nat} {vL vD vR : Value} {L D R : List Ph} (h : Pz w1 wr m vL vD vR L D R) (hb : Below wr.heap.size wr w') : Pz w1 w' m vL vD vR L D R :=
  ⟨h.bel.trans (hb.mono h.bel.size), block_stay h.hd hb, h.l.stay hb, h.d.stay hb, h.r.stay hb, h.ld, h.lr, h.dr⟩
theorem Pz.size {w1 wr : World} {m : Nat} {vL vD vR : Value} {L D R : List Ph} (h : Pz w1 wr m vL vD vR L D R) : w1.heap.size + 1 ≤ wr.heap.size := (Array.getElem?_eq_some_iff.1 h.hd).1
theorem Pz.grown {w1 wr w' : World} {m : Nat} {vL vD vR v : Value} {l L D R : List Ph} (h : Pz w1 wr m vL vD vR L D R) (hv : OwnH wr (w1.heap.size + 1) v l) (hg : wr.grownBy w' v.ownBlock) :
    Below w1.heap.size w1 w' ∧ w'.heap[w1.heap.size]? = some (.cells (hdCells m vL noPh noPh).toArray 30 (0, 0)) := by
  refine ⟨h.bel.grown hg h.bel.size (fun k hk => by have := (hv.lt k hk).1; omega), ?_⟩
  rw [hg.block _ h.size (fun e => by have := (hv.lt _ e.symm).1; omega)]; exact h.hd
theorem Pz.appD {w1 wr w' : World} {m : Nat} {vL vD vR v' : Value} {L D R : List Ph} {e : Ph} (h : Pz w1 wr m vL vD vR L D R) (ho : OwnH w' (w1.heap.size + 1) v' (D ++ [e])) (hg : wr.grownBy w' vD.ownBlock) (hn : v'.ownBlock = vD.ownBlock ∨ ∃ k, v'.ownBlock = some k ∧ wr.heap.size ≤ k) :
    Pz w1 w' m vL v' vR L (D ++ [e]) R := by
  obtain ⟨g1, g2⟩ := h.grown h.d hg
  refine ⟨g1, g2, h.l.apart hg (fun k hk => h.ld k hk), ho, h.r.apart hg (fun k hk e => h.dr k e hk), fun k hk e => ?_, h.lr, fun k hk e => ?_⟩
  · rcases hn with q | ⟨j, q, hj⟩
    · exact h.ld k hk (q ▸ e)
    · have := (h.l.lt k hk).2; rw [q] at e; injection e with e; omega
  · rcases hn with q | ⟨j, q, hj⟩
    · exact h.dr k (q ▸ hk) e
    · have := (h.r.lt k e).2; rw [q] at hk; injection hk with hk; omega
theorem Pz.appR {w1 wr w' : World} {m : Nat} {vL vD vR v' : Value} {L D R : List Ph} {e : Ph} (h : Pz w1 wr m vL vD vR L D R) (ho : OwnH w' (w1.heap.size + 1) v' (R ++ [e])) (hg : wr.grownBy w' vR.ownBlock) (hn : v'.ownBlock = vR.ownBlock ∨ ∃ k, v'.ownBlock = some k ∧ wr.heap.size ≤ k) :
    Pz w1 w' m vL vD v' L D (R ++ [e]) := by
  obtain ⟨g1, g2⟩ := h.grown h.r hg
  refine ⟨g1, g2, h.l.apart hg (fun k hk => h.lr k hk), h.d.apart hg (fun k hk => h.dr k hk), ho, h.ld, fun k hk e => ?_, fun k hk e => ?_⟩
  · rcases hn with q | ⟨j, q, hj⟩
    · exact h.lr k hk (q ▸ e)
    · have := (h.l.lt k hk).2; rw [q] at e; injection e with e; omega
  · rcases hn with q | ⟨j, q, hj⟩
    · exact h.dr k hk (q ▸ e)
    · have := (h.d.lt k hk).2; rw [q] at e; injection e with e; omega
theorem heap_setCell_at (w : World) (g j : Nat) (v : Value) (cur : Array Value) (t : TypeId) (r : Nat × Nat) (hg : w.heap[g]? = some (.cells cur t r)) : (w.setCell ⟨g, j, none⟩ v).heap[g]? = some (.cells (cur.setIfInBounds j v) t r) := by
  obtain ⟨hl, hg2⟩ := Array.getElem?_eq_some_iff.1 hg
  simp [World.setCell, hl, Array.getElem_modify, hg2]
theorem setCell_grown (w : World) (g j : Nat) (v : Value) : w.grownBy (w.setCell ⟨g, j, none⟩ v) (some g) :=
  ⟨rfl, rfl, rfl, by simp [World.setCell], fun k hk hne => by
    simp only [World.setCell, Array.getElem?_modify]
    rw [if_neg (fun e => hne (by rw [e]))]⟩
theorem Pz.appL {w1 wr w' : World} {m : Nat} {vL vD vR v' : Value} {L D R : List Ph} {e : Ph} (h : Pz w1 wr m vL vD vR L D R) (ho : OwnH w' (w1.heap.size + 1) v' (L ++ [e])) (hg : wr.grownBy w' vL.ownBlock) (hn : v'.ownBlock = vL.ownBlock ∨ ∃ k, v'.ownBlock = some k ∧ wr.heap.size ≤ k) :
    Pz w1 (w'.setCell ⟨w1.heap.size, 1, none⟩ v') m v' vD vR (L ++ [e]) D R := by
  obtain ⟨g1, g2⟩ := h.grown h.l hg
  have sg := setCell_grown w' w1.heap.size 1 v'
  have far : ∀ (v : Value) (l : List Ph) (w : World), OwnH w (w1.heap.size + 1) v l → ∀ k, v.ownBlock = some k → some w1.heap.size ≠ some k := fun v l w hv k hk e => by
    injection e with e; have := (hv.lt k hk).1; omega
  refine ⟨grown_below (Nat.le_refl _) g1 sg, heap_setCell_at _ _ _ _ _ _ _ g2, ho.apart sg (far _ _ _ ho), (h.d.apart hg (fun k hk e => h.ld k e hk)).apart sg (far _ _ _ h.d), (h.r.apart hg (fun k hk e => h.lr k e hk)).apart sg (far _ _ _ h.r), fun k hk e => ?_, fun k hk e => ?_, h.dr⟩
  · rcases hn with q | ⟨j, q, hj⟩
    · exact h.ld k (q ▸ hk) e
    · have := (h.d.lt k e).2; rw [q] at hk; injection hk with hk; omega
  · rcases hn with q | ⟨j, q, hj⟩
    · exact h.lr k (q ▸ hk) e
    · have := (h.r.lt k e).2; rw [q] at hk; injection hk with hk; omega
/-- How reading goes on. -/
def goOn (m n : Nat) (L : List Ph) (E : Nat) (D R rest : List Ph) : Except Nat Hd :=
  if loadsFrom n (decide (L = [])) E (ofT rest 1) = true ∧ ¬ (L ++ ofT rest 1 = []) then heads1 m (L ++ ofT rest 1) (D ++ ofT rest 2) (R ++ ofT rest 1685382482) else .error 85
theorem goOn_start (m n : Nat) (all : List Ph) : goOn m n [] 0 [] [] all = headsOf m n all := by
  unfold goOn headsOf loadsOk
  simp only [List.nil_append, decide_true, Bool.and_eq_true, Bool.not_eq_true', decide_eq_false_iff_not]
theorem goOn_end (m n : Nat) (L : List Ph) (E : Nat) (D R : List Ph) : goOn m n L E D R [] = if L = [] then .error 85 else heads1 m L D R := by
  unfold goOn
  simp only [ofT, List.filter_nil, List.append_nil, loadsFrom, true_and]
  by_cases c : L = []
  · rw [if_neg (fun h => h c), if_pos c]
  · rw [if_pos c, if_neg c]
theorem ofT_cons (p : Ph) (t : List Ph) (k : Nat) : ofT (p :: t) k = if p.type = k then p :: ofT t k else ofT t k := by
  unfold ofT; rw [List.filter_cons]
  by_cases c : p.type = k
  · rw [if_pos (by simpa using c), if_pos c]
  · rw [if_neg (by simpa using c), if_neg c]
theorem goOn_load (m n : Nat) (L : List Ph) (E : Nat) (D R : List Ph) (p : Ph) (t : List Ph) (h : p.type = 1) : goOn m n L E D R (p :: t) = if mayB p n E (decide (L = [])) = true then goOn m n (L ++ [p]) (endN p) D R t else .error 85 := by
  have a1 : ofT (p :: t) 1 = p :: ofT t 1 := by rw [ofT_cons, if_pos h]
  have a2 : ofT (p :: t) 2 = ofT t 2 := by rw [ofT_cons, if_neg (by omega)]
  have a3 : ofT (p :: t) 1685382482 = ofT t 1685382482 := by rw [ofT_cons, if_neg (by omega)]
  unfold goOn
  rw [a1, a2, a3, loadsFrom]
  have e1 : decide (L ++ [p] = []) = false := by simp
  rw [e1]
  by_cases c : mayB p n E (decide (L = [])) = true
  · have c' : partOk p n = true ∧ ¬ p.vaddr < E ∧ ¬ (decide (L = []) = true ∧ p.vaddr ≠ 0) := by
      unfold mayB at c
      simp only [Bool.and_eq_true, Bool.not_eq_true', decide_eq_false_iff_not, Bool.and_eq_false_iff, Bool.not_eq_false', decide_eq_true_eq] at c
      refine ⟨c.1.1, c.1.2, fun h => ?_⟩
      rcases c.2 with q | q
      · exact q (by simpa using h.1)
      · exact h.2 q
    rw [if_pos c, if_pos c', List.append_assoc]
    rfl
  · have c' : ¬ (partOk p n = true ∧ ¬ p.vaddr < E ∧ ¬ (decide (L = []) = true ∧ p.vaddr ≠ 0)) := fun h => c (by
      unfold mayB
      simp only [Bool.and_eq_true, Bool.not_eq_true', decide_eq_false_iff_not, Bool.and_eq_false_iff, Bool.not_eq_false', decide_eq_true_eq]
      refine ⟨⟨h.1, h.2.1⟩, ?_⟩
      by_cases q : p.vaddr = 0
      · exact .inr q
      · exact .inl (fun e => h.2.2 ⟨by simpa using e, q⟩))
    rw [if_neg c, if_neg c', if_neg (fun h => by simp at h)]
theorem goOn_dyn (m n : Nat) (L : List Ph) (E : Nat) (D R : List Ph) (p : Ph) (t : List Ph) (h : p.type = 2) : goOn m n L E D R (p :: t) = goOn m n L E (D ++ [p]) R t := by
  have a1 : ofT (p :: t) 1 = ofT t 1 := by rw [ofT_cons, if_neg (by omega)]
  have a2 : ofT (p :: t) 2 = p :: ofT t 2 := by rw [ofT_cons, if_pos h]
  have a3 : ofT (p :: t) 1685382482 = ofT t 1685382482 := by rw [ofT_cons, if_neg (by omega)]
  unfold goOn
  rw [a1, a2, a3, List.append_assoc]
  rfl
theorem goOn_rel (m n : Nat) (L : List Ph) (E : Nat) (D R : List Ph) (p : Ph) (t : List Ph) (h : p.type = 1685382482) : goOn m n L E D R (p :: t) = goOn m n L E D (R ++ [p]) t := by
  have a1 : ofT (p :: t) 1 = ofT t 1 := by rw [ofT_cons, if_neg (by omega)]
  have a2 : ofT (p :: t) 2 = ofT t 2 := by rw [ofT_cons, if_neg (by omega)]
  have a3 : ofT (p :: t) 1685382482 = p :: ofT t 1685382482 := by rw [ofT_cons, if_pos h]
  unfold goOn
  rw [a1, a2, a3, List.append_assoc]
  rfl
theorem goOn_other (m n : Nat) (L : List Ph) (E : Nat) (D R : List Ph) (p : Ph) (t : List Ph) (h1 : p.type ≠ 1) (h2 : p.type ≠ 2) (h3 : p.type ≠ 1685382482) : goOn m n L E D R (p :: t) = goOn m n L E D R t := by
  have a1 : ofT (p :: t) 1 = ofT t 1 := by rw [ofT_cons, if_neg h1]
  have a2 : ofT (p :: t) 2 = ofT t 2 := by rw [ofT_cons, if_neg h2]
  have a3 : ofT (p :: t) 1685382482 = ofT t 1685382482 := by rw [ofT_cons, if_neg h3]
  unfold goOn
  rw [a1, a2, a3]
theorem may_small {p : Ph} {n E : Nat} {f : Bool} (h : mayB p n E f = true) : p.off + p.filesz ≤ n ∧ p.vaddr + p.memsz ≤ 16384 ∧ endN p ≤ 16384 := by
  have h1 := (may_iff p n E f).1 h
  refine ⟨h1.2.2.2.2.2.2.2.1, h1.2.2.2.2.2.2.2.2.2.2, ?_⟩
  unfold endN
  rw [if_pos (by omega)]
  omega
end Go.Proofs.Ytdclofiifcpkkaa
