
/-
  Layer 8's reference: the program headers of a file.
-/
import Derived.Test.YtgpjfcnlhlkblaaHdQ
set_option linter.unusedVariables false
namespace Go.Proofs.Ytgpjfcnlhlkblaa
open Go.RowKit Go.PlainAid Go.Sort
theorem win04 (l : List UInt8) (h : 64 ≤ l.length) : win l 0 4 = [l.getD 0 0, l.getD 1 0, l.getD 2 0, l.getD 3 0] ∧ win l 4 3 = [l.getD 4 0, l.getD 5 0, l.getD 6 0] := by
  match l, h with
  | a :: b :: c :: d :: e :: f :: g :: t, _ => exact ⟨rfl, rfl⟩
set_option maxHeartbeats 4000000 in
set_option maxRecDepth 20000 in
theorem ref8_Table (w : World) (v : Value) (l : List UInt8) (h : Arg w v l) (hl : l.length ≤ 140737488351232) :
    Calls Try.prog 10 #[v] w fun e w' => TableIs w' w.heap.size (tableZ l) e ∧ Below w.heap.size w w' := by
  have HA := hide h
  have HBR := hide (Below.refl w.heap.size w)
  obtain ⟨O, hO⟩ : ∃ O, tableZ l = O := ⟨_, rfl⟩
  rw [hO]
  unfold tableZ fits at hO
  obtain ⟨K, hK⟩ : ∃ K, kindE l = K := ⟨_, rfl⟩
  rw [hK] at hO
  unfold kindE at hK
  by_cases c64 : l.length < 64
  · rw [if_pos (.inl c64)] at hK
    subst hK
    rw [if_pos (by decide)] at hO
    subst hO
    obtain ⟨a, cap, rfl, _⟩ := h.isSlice
    have c64I : (l.length : Int) < 64 := by omega
    clear h HA
    go_enter Try.func10, Try.ntmps10
    go_wp2
    go_ret2
    exact ⟨rfl, HBR.out⟩
  obtain ⟨g, o, cap, rfl, hc1, hc2, hc⟩ := h.cells (by omega)
  have hcap : cap ≤ 9223372036854775807 := by unfold maxLen at hc2; omega
  have y0 : w.cell? ⟨g, o, none⟩ = some (.int .u8 ((l.getD 0 0).toNat : Int)) := hc 0 (by omega)
  have y1 : w.cell? ⟨g, o + 1, none⟩ = some (.int .u8 ((l.getD 1 0).toNat : Int)) := hc 1 (by omega)
  have y2 : w.cell? ⟨g, o + 2, none⟩ = some (.int .u8 ((l.getD 2 0).toNat : Int)) := hc 2 (by omega)
  have y3 : w.cell? ⟨g, o + 3, none⟩ = some (.int .u8 ((l.getD 3 0).toNat : Int)) := hc 3 (by omega)
  have y4 : w.cell? ⟨g, o + 4, none⟩ = some (.int .u8 ((l.getD 4 0).toNat : Int)) := hc 4 (by omega)
  have y5 : w.cell? ⟨g, o + 5, none⟩ = some (.int .u8 ((l.getD 5 0).toNat : Int)) := hc 5 (by omega)
  have y6 : w.cell? ⟨g, o + 6, none⟩ = some (.int .u8 ((l.getD 6 0).toNat : Int)) := hc 6 (by omega)
  obtain ⟨e04, e43⟩ := win04 l (by omega)
  rw [e04, e43] at hK
  have k16 := ref8_N w _ l h 16 2 (by omega) (by omega) (by omega)
  have k18 := ref8_N w _ l h 18 2 (by omega) (by omega) (by omega)
  have k32 := ref8_N w _ l h 32 8 (by omega) (by omega) (by omega)
  have k52 := ref8_N w _ l h 52 2 (by omega) (by omega) (by omega)
  have k54 := ref8_N w _ l h 54 2 (by omega) (by omega) (by omega)
  have k56 := ref8_N w _ l h 56 2 (by omega) (by omega) (by omega)
  have b56 := rd2 l 56
  have b32 := rd8 l 32
  obtain ⟨p, hp⟩ : ∃ p, rd l 32 8 = p := ⟨_, rfl⟩
  obtain ⟨m, hm⟩ : ∃ m, rd l 56 2 = m := ⟨_, rfl⟩
  rw [hp, hm] at hO
  rw [hp] at k32 b32
  rw [hm] at k56 b56
  generalize rd l 16 2 = q16 at *
  generalize rd l 18 2 = q18 at *
  generalize rd l 52 2 = q52 at *
  generalize rd l 54 2 = q54 at *
  generalize l.getD 0 0 = x0 at *
  generalize l.getD 1 0 = x1 at *
  generalize l.getD 2 0 = x2 at *
  generalize l.getD 3 0 = x3 at *
  generalize l.getD 4 0 = x4 at *
  generalize l.getD 5 0 = x5 at *
  generalize l.getD 6 0 = x6 at *
  have hI := ref_Inside (p : Int) ((m : Int) * 56) 0 (l.length : Int) w (by omega) (by omega) (by omega) (by omega) (by omega) (by omega) (by omega) (by omega)
  have eI : inB (p : Int) ((m : Int) * 56) 0 (l.length : Int) = decide (p + m * 56 ≤ l.length) := by unfold inB; rw [decide_eq_decide]; omega
  rw [eI] at hI
  obtain ⟨n, hn⟩ : ∃ n, l.length = n := ⟨_, rfl⟩
  have HN := hide hn
  rw [hn] at hO hK hI HA k16 k18 k32 k52 k54 k56 hl hc1 c64 ⊢
  clear h hc eI hp hm hn e04 e43 hc2
  have mI : (m : Int) < 65536 := by omega
  have n64 : ¬ (n : Int) < 64 := by omega
  have n64' : (64 : Int) ≤ (n : Int) := by omega
  have C64 := hide c64
  clear c64
  by_cases b0 : x0 = 127
  rotate_left
  · rw [if_pos (.inr (by simp [b0]))] at hK
    subst hK
    rw [if_pos (by decide)] at hO
    subst hO
    have d0 : ((x0.toNat : Int) != 127) = true := by
      have : x0.toNat ≠ 127 := fun e => b0 (UInt8.toNat_inj.1 e)
      simp; omega
    clear b0
    go_enter Try.func10, Try.ntmps10
    go_wp2
    go_ret2
    exact ⟨rfl, HBR.out⟩
  subst b0
  by_cases b1 : x1 = 69
  rotate_left
  · rw [if_pos (.inr (by simp [b1]))] at hK
    subst hK
    rw [if_pos (by decide)] at hO
    subst hO
    have d1 : ((x1.toNat : Int) != 69) = true := by
      have : x1.toNat ≠ 69 := fun e => b1 (UInt8.toNat_inj.1 e)
      simp; omega
    clear b1
    go_enter Try.func10, Try.ntmps10
    go_wp2
    go_ret2
    exact ⟨rfl, HBR.out⟩
  subst b1
  by_cases b2 : x2 = 76
  rotate_left
  · rw [if_pos (.inr (by simp [b2]))] at hK
    subst hK
    rw [if_pos (by decide)] at hO
    subst hO
    have d2 : ((x2.toNat : Int) != 76) = true := by
      have : x2.toNat ≠ 76 := fun e => b2 (UInt8.toNat_inj.1 e)
      simp; omega
    clear b2
    go_enter Try.func10, Try.ntmps10
    go_wp2
    go_ret2
    exact ⟨rfl, HBR.out⟩
  subst b2
  by_cases b3 : x3 = 70
  rotate_left
  · rw [if_pos (.inr (by simp [b3]))] at hK
    subst hK
    rw [if_pos (by decide)] at hO
    subst hO
    have d3 : ((x3.toNat : Int) != 70) = true := by
      have : x3.toNat ≠ 70 := fun e => b3 (UInt8.toNat_inj.1 e)
      simp; omega
    clear b3
    go_enter Try.func10, Try.ntmps10
    go_wp2
    go_ret2
    exact ⟨rfl, HBR.out⟩
  subst b3
  rw [if_neg (by have := C64.out; simp; omega)] at hK
  by_cases b4 : x4 = 2
  rotate_left
  · rw [if_pos (by simp [b4])] at hK
    subst hK
    rw [if_pos (by decide)] at hO
    subst hO
    have d4 : ((x4.toNat : Int) != 2) = true := by
      have : x4.toNat ≠ 2 := fun e => b4 (UInt8.toNat_inj.1 e)
      simp; omega
    clear b4
    go_enter Try.func10, Try.ntmps10
    go_wp2
    go_ret2
    exact ⟨rfl, HBR.out⟩
  subst b4
  by_cases b5 : x5 = 1
  rotate_left
  · rw [if_pos (by simp [b5])] at hK
    subst hK
    rw [if_pos (by decide)] at hO
    subst hO
    have d5 : ((x5.toNat : Int) != 1) = true := by
      have : x5.toNat ≠ 1 := fun e => b5 (UInt8.toNat_inj.1 e)
      simp; omega
    clear b5
    go_enter Try.func10, Try.ntmps10
    go_wp2
    go_ret2
    exact ⟨rfl, HBR.out⟩
  subst b5
  by_cases b6 : x6 = 1
  rotate_left
  · rw [if_pos (by simp [b6])] at hK
    subst hK
    rw [if_pos (by decide)] at hO
    subst hO
    have d6 : ((x6.toNat : Int) != 1) = true := by
      have : x6.toNat ≠ 1 := fun e => b6 (UInt8.toNat_inj.1 e)
      simp; omega
    clear b6
    go_enter Try.func10, Try.ntmps10
    go_wp2
    go_ret2
    exact ⟨rfl, HBR.out⟩
  subst b6
  rw [if_neg (by simp)] at hK
  by_cases b16 : q16 = 3
  rotate_left
  · rw [if_pos b16] at hK
    subst hK
    rw [if_pos (by decide)] at hO
    subst hO
    have d16 : ((q16 : Int) != 3) = true := by simp; omega
    clear b16
    go_enter Try.func10, Try.ntmps10
    go_wp2_with fail
    refine k16.mono ?_
    rintro e w1 ⟨rfl, rfl⟩
    go_wp2
    go_ret2
    exact ⟨rfl, HBR.out⟩
  subst b16
  rw [if_neg (by simp)] at hK
  by_cases b18 : q18 ≠ 62 ∧ q18 ≠ 183
  · rw [if_pos b18] at hK
    subst hK
    rw [if_pos (by decide)] at hO
    subst hO
    have d62 : ((q18 : Int) != 62) = true := by simp; omega
    have d183 : ((q18 : Int) != 183) = true := by simp; omega
    clear b18
    go_enter Try.func10, Try.ntmps10
    go_wp2_with fail
    refine k16.mono ?_
    rintro e w1 ⟨rfl, rfl⟩
    go_wp2_with fail
    refine k18.mono ?_
    rintro e w1 ⟨rfl, rfl⟩
    go_wp2_with fail
    refine k18.mono ?_
    rintro e w1 ⟨rfl, rfl⟩
    go_wp2
    go_ret2
    exact ⟨rfl, HBR.out⟩
  rw [if_neg b18] at hK
  subst hK
  rw [if_neg (by simp)] at hO
  rcases (show q18 = 62 ∨ q18 = 183 by omega) with rfl | rfl
  · clear b18
    by_cases b52 : q52 = 64
    rotate_left
    · rw [decide_eq_false b52] at hO
      simp only [Bool.false_and, Bool.false_eq_true, if_false] at hO
      subst hO
      have d52 : ((q52 : Int) != 64) = true := by simp; omega
      clear b52
      go_enter Try.func10, Try.ntmps10
      go_wp2_with fail
      refine k16.mono ?_
      rintro e w1 ⟨rfl, rfl⟩
      go_wp2_with fail
      refine k18.mono ?_
      rintro e w1 ⟨rfl, rfl⟩
      go_wp2_with fail
      refine k32.mono ?_
      rintro e w1 ⟨rfl, rfl⟩
      go_wp2_with fail
      refine k56.mono ?_
      rintro e w1 ⟨rfl, rfl⟩
      go_wp2_with fail
      refine k52.mono ?_
      rintro e w1 ⟨rfl, rfl⟩
      go_wp2
      go_ret2
      exact ⟨rfl, HBR.out⟩
    subst b52
    by_cases b54 : q54 = 56
    rotate_left
    · rw [decide_eq_false b54] at hO
      simp only [Bool.and_false, Bool.false_and, Bool.false_eq_true, if_false] at hO
      subst hO
      have d54 : ((q54 : Int) != 56) = true := by simp; omega
      clear b54
      go_enter Try.func10, Try.ntmps10
      go_wp2_with fail
      refine k16.mono ?_
      rintro e w1 ⟨rfl, rfl⟩
      go_wp2_with fail
      refine k18.mono ?_
      rintro e w1 ⟨rfl, rfl⟩
      go_wp2_with fail
      refine k32.mono ?_
      rintro e w1 ⟨rfl, rfl⟩
      go_wp2_with fail
      refine k56.mono ?_
      rintro e w1 ⟨rfl, rfl⟩
      go_wp2_with fail
      refine k52.mono ?_
      rintro e w1 ⟨rfl, rfl⟩
      go_wp2_with fail
      refine k54.mono ?_
      rintro e w1 ⟨rfl, rfl⟩
      go_wp2
      go_ret2
      exact ⟨rfl, HBR.out⟩
    subst b54
    by_cases c1 : 1 ≤ m
    rotate_left
    · rw [decide_eq_false c1] at hO
      simp only [Bool.and_false, Bool.false_and, Bool.false_eq_true, if_false] at hO
      subst hO
      obtain rfl : m = 0 := by omega
      go_enter Try.func10, Try.ntmps10
      go_wp2_with fail
      refine k16.mono ?_
      rintro e w1 ⟨rfl, rfl⟩
      go_wp2_with fail
      refine k18.mono ?_
      rintro e w1 ⟨rfl, rfl⟩
      go_wp2_with fail
      refine k32.mono ?_
      rintro e w1 ⟨rfl, rfl⟩
      go_wp2_with fail
      refine k56.mono ?_
      rintro e w1 ⟨rfl, rfl⟩
      go_wp2_with fail
      refine k52.mono ?_
      rintro e w1 ⟨rfl, rfl⟩
      go_wp2_with fail
      refine k54.mono ?_
      rintro e w1 ⟨rfl, rfl⟩
      go_wp2
      go_ret2
      exact ⟨rfl, HBR.out⟩
    have d1 : decide ((m : Int) < 1) = false := decide_eq_false (by omega)
    have n1 : ¬ m < 1 := by omega
    by_cases c16 : m ≤ 16
    rotate_left
    · rw [decide_eq_false c16] at hO
      simp only [Bool.and_false, Bool.false_and, Bool.false_eq_true, if_false] at hO
      subst hO
      have d16 : (16 : Int) < (m : Int) := by omega
      clear c16
      go_enter Try.func10, Try.ntmps10
      go_wp2_with fail
      refine k16.mono ?_
      rintro e w1 ⟨rfl, rfl⟩
      go_wp2_with fail
      refine k18.mono ?_
      rintro e w1 ⟨rfl, rfl⟩
      go_wp2_with fail
      refine k32.mono ?_
      rintro e w1 ⟨rfl, rfl⟩
      go_wp2_with fail
      refine k56.mono ?_
      rintro e w1 ⟨rfl, rfl⟩
      go_wp2_with fail
      refine k52.mono ?_
      rintro e w1 ⟨rfl, rfl⟩
      go_wp2_with fail
      refine k54.mono ?_
      rintro e w1 ⟨rfl, rfl⟩
      go_wp2
      go_ret2
      exact ⟨rfl, HBR.out⟩
    have d16 : decide ((16 : Int) < (m : Int)) = false := decide_eq_false (by omega)
    have m16 : (m : Int) ≤ 16 := by omega
    have m1 : 1 ≤ (m : Int) := by omega
    rw [decide_eq_true c1, decide_eq_true c16] at hO
    simp only [Bool.and_true, Bool.true_and, decide_true] at hO
    by_cases cI : p + m * 56 ≤ n
    rotate_left
    · rw [decide_eq_false cI] at hO hI
      simp only [Bool.false_eq_true, if_false] at hO
      subst hO
      clear cI c1 c16 n1
      go_enter Try.func10, Try.ntmps10
      go_wp2_with fail
      refine k16.mono ?_
      rintro e w1 ⟨rfl, rfl⟩
      go_wp2_with fail
      refine k18.mono ?_
      rintro e w1 ⟨rfl, rfl⟩
      go_wp2_with fail
      refine k32.mono ?_
      rintro e w1 ⟨rfl, rfl⟩
      go_wp2_with fail
      refine k56.mono ?_
      rintro e w1 ⟨rfl, rfl⟩
      go_wp2_with fail
      refine k52.mono ?_
      rintro e w1 ⟨rfl, rfl⟩
      go_wp2_with fail
      refine k54.mono ?_
      rintro e w1 ⟨rfl, rfl⟩
      go_wp2_with fail
      refine hI.mono ?_
      rintro e w1 ⟨rfl, hb1⟩
      have HB1 := hide hb1
      clear hb1
      go_wp2
      go_ret2
      exact ⟨rfl, HB1.out⟩
    rw [decide_eq_true cI] at hO hI
    rw [if_pos rfl] at hO
    have pI : (p : Int) + (m : Int) * 56 ≤ (n : Int) := by omega
    have nI : (n : Int) ≤ 140737488351232 := by omega
    have HO := hide hO
    clear hO c1 n1
    go_enter Try.func10, Try.ntmps10
    go_wp2_with fail
    refine k16.mono ?_
    rintro e w1 ⟨rfl, rfl⟩
    go_wp2_with fail
    refine k18.mono ?_
    rintro e w1 ⟨rfl, rfl⟩
    go_wp2_with fail
    refine k32.mono ?_
    rintro e w1 ⟨rfl, rfl⟩
    go_wp2_with fail
    refine k56.mono ?_
    rintro e w1 ⟨rfl, rfl⟩
    go_wp2_with fail
    refine k52.mono ?_
    rintro e w1 ⟨rfl, rfl⟩
    go_wp2_with fail
    refine k54.mono ?_
    rintro e w1 ⟨rfl, rfl⟩
    go_wp2_with fail
    refine hI.mono ?_
    rintro e w1 ⟨rfl, hb1⟩
    have HB1 := hide hb1
    clear hb1
    clear hI k16 k18 k32 k52 k54 k56 y0 y1 y2 y3 y4 y5 y6
    go_wp2
    go_loopw [6, 7, 8] (fun v6 v7 _ wr => ∃ i : Nat, i ≤ m ∧ v7 = .int .u64 i ∧ Hid (Below w.heap.size w wr) ∧ Hid (OwnH wr w.heap.size v6 (tabFrom l p i))) (fun _ v7 _ _ => m - (intOf v7).toNat)
    case atStart => exact ⟨0, by omega, rfl, HB1, OwnH.nil _ _⟩
    case round =>
      obtain ⟨i, hi, rfl, HW, HOW⟩ := hrel
      by_cases hlt : i < m
      · have hltI : (i : Int) < (m : Int) := by omega
        have hAr := HA.out.below' HW.out
        have j0 := ref8_N wr _ l hAr (p + i * 56) 4 (by omega) (by omega) (by omega)
        have j4 := ref8_N wr _ l hAr (p + i * 56 + 4) 4 (by omega) (by omega) (by omega)
        have j8 := ref8_N wr _ l hAr (p + i * 56 + 8) 8 (by omega) (by omega) (by omega)
        have j16 := ref8_N wr _ l hAr (p + i * 56 + 16) 8 (by omega) (by omega) (by omega)
        have j32 := ref8_N wr _ l hAr (p + i * 56 + 32) 8 (by omega) (by omega) (by omega)
        have j40 := ref8_N wr _ l hAr (p + i * 56 + 40) 8 (by omega) (by omega) (by omega)
        have j48 := ref8_N wr _ l hAr (p + i * 56 + 48) 8 (by omega) (by omega) (by omega)
        have r0 := rd4 l (p + i * 56)
        have r4 := rd4 l (p + i * 56 + 4)
        have eT : tabFrom l p (i + 1) = tabFrom l p i ++ [phAt l (p + i * 56)] := by unfold tabFrom; rw [List.range_succ, List.map_append]; rfl
        unfold phAt at eT
        generalize rd l (p + i * 56) 4 = a0 at *
        generalize rd l (p + i * 56 + 4) 4 = a4 at *
        generalize rd l (p + i * 56 + 8) 8 = a8 at *
        generalize rd l (p + i * 56 + 16) 8 = a16 at *
        generalize rd l (p + i * 56 + 32) 8 = a32 at *
        generalize rd l (p + i * 56 + 40) 8 = a40 at *
        generalize rd l (p + i * 56 + 48) 8 = a48 at *
        have HT := hide eT
        have HTL : Hid ((tabFrom l p i).length ≤ 16) := by rw [Hid]; simp [tabFrom]; omega
        obtain ⟨P, hP⟩ : ∃ P, p + i * 56 = P := ⟨_, rfl⟩
        have ePI : (p : Int) + (i : Int) * 56 = (P : Int) := by omega
        rw [hP] at j0 j4 j8 j16 j32 j40 j48
        have hPI : (P : Int) ≤ 140737488351232 := by omega
        have r0I : (a0 : Int) < 4294967296 := by omega
        have r4I : (a4 : Int) < 4294967296 := by omega
        clear eT hAr r0 r4 hP
        go_wp2_with fail
        refine j0.mono ?_
        rintro e w2 ⟨rfl, rfl⟩
        go_wp2_with fail
        refine j4.mono ?_
        rintro e w2 ⟨rfl, rfl⟩
        go_wp2_with fail
        refine j8.mono ?_
        rintro e w2 ⟨rfl, rfl⟩
        go_wp2_with fail
        refine j16.mono ?_
        rintro e w2 ⟨rfl, rfl⟩
        go_wp2_with fail
        refine j32.mono ?_
        rintro e w2 ⟨rfl, rfl⟩
        go_wp2_with fail
        refine j40.mono ?_
        rintro e w2 ⟨rfl, rfl⟩
        go_wp2_with fail
        refine j48.mono ?_
        rintro e w2 ⟨rfl, rfl⟩
        clear j0 j4 j8 j16 j32 j40 j48
        go_wp2_with (at_builtin; refine append_ph rfl _ _ rfl w.heap.size wr _ (tabFrom l p i) HOW.out ⟨a0, a4, a8, a16, a32, a40, a48⟩ rfl _ (by simp) rfl (by have := HTL.out; omega) HW.out.size ?_)
        intro v' w3 h1 h2
        have HB3 : Hid (Below w.heap.size w w3) := HW.out.trans h2
        have HOW3 : Hid (OwnH w3 w.heap.size v' (tabFrom l p (i + 1))) := by rw [Hid, HT.out]; exact h1
        clear h1 h2 HOW HW ePI
        go_wp2
        go_roundw
        case rel => exact ⟨i + 1, by omega, by go_num, HB3, HOW3⟩
        case measure => simp [intOf]; omega
      · have hltI : ¬ (i : Int) < (m : Int) := by omega
        have he : i = m := by omega
        subst he
        go_wp2
        go_ret2
        exact ⟨by rw [← HO.out]; exact ⟨_, rfl, HOW.out⟩, HW.out⟩
  · clear b18
    by_cases b52 : q52 = 64
    rotate_left
    · rw [decide_eq_false b52] at hO
      simp only [Bool.false_and, Bool.false_eq_true, if_false] at hO
      subst hO
      have d52 : ((q52 : Int) != 64) = true := by simp; omega
      clear b52
      go_enter Try.func10, Try.ntmps10
      go_wp2_with fail
      refine k16.mono ?_
      rintro e w1 ⟨rfl, rfl⟩
      go_wp2_with fail
      refine k18.mono ?_
      rintro e w1 ⟨rfl, rfl⟩
      go_wp2_with fail
      refine k18.mono ?_
      rintro e w1 ⟨rfl, rfl⟩
      go_wp2_with fail
      refine k32.mono ?_
      rintro e w1 ⟨rfl, rfl⟩
      go_wp2_with fail
      refine k56.mono ?_
      rintro e w1 ⟨rfl, rfl⟩
      go_wp2_with fail
      refine k52.mono ?_
      rintro e w1 ⟨rfl, rfl⟩
      go_wp2
      go_ret2
      exact ⟨rfl, HBR.out⟩
    subst b52
    by_cases b54 : q54 = 56
    rotate_left
    · rw [decide_eq_false b54] at hO
      simp only [Bool.and_false, Bool.false_and, Bool.false_eq_true, if_false] at hO
      subst hO
      have d54 : ((q54 : Int) != 56) = true := by simp; omega
      clear b54
      go_enter Try.func10, Try.ntmps10
      go_wp2_with fail
      refine k16.mono ?_
      rintro e w1 ⟨rfl, rfl⟩
      go_wp2_with fail
      refine k18.mono ?_
      rintro e w1 ⟨rfl, rfl⟩
      go_wp2_with fail
      refine k18.mono ?_
      rintro e w1 ⟨rfl, rfl⟩
      go_wp2_with fail
      refine k32.mono ?_
      rintro e w1 ⟨rfl, rfl⟩
      go_wp2_with fail
      refine k56.mono ?_
      rintro e w1 ⟨rfl, rfl⟩
      go_wp2_with fail
      refine k52.mono ?_
      rintro e w1 ⟨rfl, rfl⟩
      go_wp2_with fail
      refine k54.mono ?_
      rintro e w1 ⟨rfl, rfl⟩
      go_wp2
      go_ret2
      exact ⟨rfl, HBR.out⟩
    subst b54
    by_cases c1 : 1 ≤ m
    rotate_left
    · rw [decide_eq_false c1] at hO
      simp only [Bool.and_false, Bool.false_and, Bool.false_eq_true, if_false] at hO
      subst hO
      obtain rfl : m = 0 := by omega
      go_enter Try.func10, Try.ntmps10
      go_wp2_with fail
      refine k16.mono ?_
      rintro e w1 ⟨rfl, rfl⟩
      go_wp2_with fail
      refine k18.mono ?_
      rintro e w1 ⟨rfl, rfl⟩
      go_wp2_with fail
      refine k18.mono ?_
      rintro e w1 ⟨rfl, rfl⟩
      go_wp2_with fail
      refine k32.mono ?_
      rintro e w1 ⟨rfl, rfl⟩
      go_wp2_with fail
      refine k56.mono ?_
      rintro e w1 ⟨rfl, rfl⟩
      go_wp2_with fail
      refine k52.mono ?_
      rintro e w1 ⟨rfl, rfl⟩
      go_wp2_with fail
      refine k54.mono ?_
      rintro e w1 ⟨rfl, rfl⟩
      go_wp2
      go_ret2
      exact ⟨rfl, HBR.out⟩
    have d1 : decide ((m : Int) < 1) = false := decide_eq_false (by omega)
    have n1 : ¬ m < 1 := by omega
    by_cases c16 : m ≤ 16
    rotate_left
    · rw [decide_eq_false c16] at hO
      simp only [Bool.and_false, Bool.false_and, Bool.false_eq_true, if_false] at hO
      subst hO
      have d16 : (16 : Int) < (m : Int) := by omega
      clear c16
      go_enter Try.func10, Try.ntmps10
      go_wp2_with fail
      refine k16.mono ?_
      rintro e w1 ⟨rfl, rfl⟩
      go_wp2_with fail
      refine k18.mono ?_
      rintro e w1 ⟨rfl, rfl⟩
      go_wp2_with fail
      refine k18.mono ?_
      rintro e w1 ⟨rfl, rfl⟩
      go_wp2_with fail
      refine k32.mono ?_
      rintro e w1 ⟨rfl, rfl⟩
      go_wp2_with fail
      refine k56.mono ?_
      rintro e w1 ⟨rfl, rfl⟩
      go_wp2_with fail
      refine k52.mono ?_
      rintro e w1 ⟨rfl, rfl⟩
      go_wp2_with fail
      refine k54.mono ?_
      rintro e w1 ⟨rfl, rfl⟩
      go_wp2
      go_ret2
      exact ⟨rfl, HBR.out⟩
    have d16 : decide ((16 : Int) < (m : Int)) = false := decide_eq_false (by omega)
    have m16 : (m : Int) ≤ 16 := by omega
    have m1 : 1 ≤ (m : Int) := by omega
    rw [decide_eq_true c1, decide_eq_true c16] at hO
    simp only [Bool.and_true, Bool.true_and, decide_true] at hO
    by_cases cI : p + m * 56 ≤ n
    rotate_left
    · rw [decide_eq_false cI] at hO hI
      simp only [Bool.false_eq_true, if_false] at hO
      subst hO
      clear cI c1 c16 n1
      go_enter Try.func10, Try.ntmps10
      go_wp2_with fail
      refine k16.mono ?_
      rintro e w1 ⟨rfl, rfl⟩
      go_wp2_with fail
      refine k18.mono ?_
      rintro e w1 ⟨rfl, rfl⟩
      go_wp2_with fail
      refine k18.mono ?_
      rintro e w1 ⟨rfl, rfl⟩
      go_wp2_with fail
      refine k32.mono ?_
      rintro e w1 ⟨rfl, rfl⟩
      go_wp2_with fail
      refine k56.mono ?_
      rintro e w1 ⟨rfl, rfl⟩
      go_wp2_with fail
      refine k52.mono ?_
      rintro e w1 ⟨rfl, rfl⟩
      go_wp2_with fail
      refine k54.mono ?_
      rintro e w1 ⟨rfl, rfl⟩
      go_wp2_with fail
      refine hI.mono ?_
      rintro e w1 ⟨rfl, hb1⟩
      have HB1 := hide hb1
      clear hb1
      go_wp2
      go_ret2
      exact ⟨rfl, HB1.out⟩
    rw [decide_eq_true cI] at hO hI
    rw [if_pos rfl] at hO
    have pI : (p : Int) + (m : Int) * 56 ≤ (n : Int) := by omega
    have nI : (n : Int) ≤ 140737488351232 := by omega
    have HO := hide hO
    clear hO c1 n1
    go_enter Try.func10, Try.ntmps10
    go_wp2_with fail
    refine k16.mono ?_
    rintro e w1 ⟨rfl, rfl⟩
    go_wp2_with fail
    refine k18.mono ?_
    rintro e w1 ⟨rfl, rfl⟩
    go_wp2_with fail
    refine k18.mono ?_
    rintro e w1 ⟨rfl, rfl⟩
    go_wp2_with fail
    refine k32.mono ?_
    rintro e w1 ⟨rfl, rfl⟩
    go_wp2_with fail
    refine k56.mono ?_
    rintro e w1 ⟨rfl, rfl⟩
    go_wp2_with fail
    refine k52.mono ?_
    rintro e w1 ⟨rfl, rfl⟩
    go_wp2_with fail
    refine k54.mono ?_
    rintro e w1 ⟨rfl, rfl⟩
    go_wp2_with fail
    refine hI.mono ?_
    rintro e w1 ⟨rfl, hb1⟩
    have HB1 := hide hb1
    clear hb1
    clear hI k16 k18 k32 k52 k54 k56 y0 y1 y2 y3 y4 y5 y6
    go_wp2
    go_loopw [6, 7, 8] (fun v6 v7 _ wr => ∃ i : Nat, i ≤ m ∧ v7 = .int .u64 i ∧ Hid (Below w.heap.size w wr) ∧ Hid (OwnH wr w.heap.size v6 (tabFrom l p i))) (fun _ v7 _ _ => m - (intOf v7).toNat)
    case atStart => exact ⟨0, by omega, rfl, HB1, OwnH.nil _ _⟩
    case round =>
      obtain ⟨i, hi, rfl, HW, HOW⟩ := hrel
      by_cases hlt : i < m
      · have hltI : (i : Int) < (m : Int) := by omega
        have hAr := HA.out.below' HW.out
        have j0 := ref8_N wr _ l hAr (p + i * 56) 4 (by omega) (by omega) (by omega)
        have j4 := ref8_N wr _ l hAr (p + i * 56 + 4) 4 (by omega) (by omega) (by omega)
        have j8 := ref8_N wr _ l hAr (p + i * 56 + 8) 8 (by omega) (by omega) (by omega)
        have j16 := ref8_N wr _ l hAr (p + i * 56 + 16) 8 (by omega) (by omega) (by omega)
        have j32 := ref8_N wr _ l hAr (p + i * 56 + 32) 8 (by omega) (by omega) (by omega)
        have j40 := ref8_N wr _ l hAr (p + i * 56 + 40) 8 (by omega) (by omega) (by omega)
        have j48 := ref8_N wr _ l hAr (p + i * 56 + 48) 8 (by omega) (by omega) (by omega)
        have r0 := rd4 l (p + i * 56)
        have r4 := rd4 l (p + i * 56 + 4)
        have eT : tabFrom l p (i + 1) = tabFrom l p i ++ [phAt l (p + i * 56)] := by unfold tabFrom; rw [List.range_succ, List.map_append]; rfl
        unfold phAt at eT
        generalize rd l (p + i * 56) 4 = a0 at *
        generalize rd l (p + i * 56 + 4) 4 = a4 at *
        generalize rd l (p + i * 56 + 8) 8 = a8 at *
        generalize rd l (p + i * 56 + 16) 8 = a16 at *
        generalize rd l (p + i * 56 + 32) 8 = a32 at *
        generalize rd l (p + i * 56 + 40) 8 = a40 at *
        generalize rd l (p + i * 56 + 48) 8 = a48 at *
        have HT := hide eT
        have HTL : Hid ((tabFrom l p i).length ≤ 16) := by rw [Hid]; simp [tabFrom]; omega
        obtain ⟨P, hP⟩ : ∃ P, p + i * 56 = P := ⟨_, rfl⟩
        have ePI : (p : Int) + (i : Int) * 56 = (P : Int) := by omega
        rw [hP] at j0 j4 j8 j16 j32 j40 j48
        have hPI : (P : Int) ≤ 140737488351232 := by omega
        have r0I : (a0 : Int) < 4294967296 := by omega
        have r4I : (a4 : Int) < 4294967296 := by omega
        clear eT hAr r0 r4 hP
        go_wp2_with fail
        refine j0.mono ?_
        rintro e w2 ⟨rfl, rfl⟩
        go_wp2_with fail
        refine j4.mono ?_
        rintro e w2 ⟨rfl, rfl⟩
        go_wp2_with fail
        refine j8.mono ?_
        rintro e w2 ⟨rfl, rfl⟩
        go_wp2_with fail
        refine j16.mono ?_
        rintro e w2 ⟨rfl, rfl⟩
        go_wp2_with fail
        refine j32.mono ?_
        rintro e w2 ⟨rfl, rfl⟩
        go_wp2_with fail
        refine j40.mono ?_
        rintro e w2 ⟨rfl, rfl⟩
        go_wp2_with fail
        refine j48.mono ?_
        rintro e w2 ⟨rfl, rfl⟩
        clear j0 j4 j8 j16 j32 j40 j48
        go_wp2_with (at_builtin; refine append_ph rfl _ _ rfl w.heap.size wr _ (tabFrom l p i) HOW.out ⟨a0, a4, a8, a16, a32, a40, a48⟩ rfl _ (by simp) rfl (by have := HTL.out; omega) HW.out.size ?_)
        intro v' w3 h1 h2
        have HB3 : Hid (Below w.heap.size w w3) := HW.out.trans h2
        have HOW3 : Hid (OwnH w3 w.heap.size v' (tabFrom l p (i + 1))) := by rw [Hid, HT.out]; exact h1
        clear h1 h2 HOW HW ePI
        go_wp2
        go_roundw
        case rel => exact ⟨i + 1, by omega, by go_num, HB3, HOW3⟩
        case measure => simp [intOf]; omega
      · have hltI : ¬ (i : Int) < (m : Int) := by omega
        have he : i = m := by omega
        subst he
        go_wp2
        go_ret2
        exact ⟨by rw [← HO.out]; exact ⟨_, rfl, HOW.out⟩, HW.out⟩
end Go.Proofs.Ytgpjfcnlhlkblaa
