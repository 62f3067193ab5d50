
/-
  Layer 7 (zip): begin and Find keep their contracts.
-/
import Derived.Test.YtegcdddfccmljaaZpE
set_option linter.unusedVariables false
namespace Go.Proofs.Ytegcdddfccmljaa
open Go.RowKit Go.PlainAid
/-- Where the bytes of an entry begin in what lies ahead of the list. -/
def beginZ (h : List UInt8) (e : En) : Option Nat :=
  if e.pos + 30 ≤ h.length ∧ rd h e.pos 4 = 67324752 ∧ rd h (e.pos + 8) 2 = 0 then
    if e.pos + 30 + rd h (e.pos + 26) 2 ≤ h.length ∧ win h (e.pos + 30) (rd h (e.pos + 26) 2) = e.name then
      if e.stored = e.size ∧ e.pos + 30 + rd h (e.pos + 26) 2 + rd h (e.pos + 28) 2 + e.size ≤ h.length then some (e.pos + 30 + rd h (e.pos + 26) 2 + rd h (e.pos + 28) 2) else none
    else none
  else none
/-- What begin answers. -/
def Begins (o : Option Nat) (e : Ending) : Prop :=
  match o with
  | none => ∃ x : Nat, e = .returned (.tuple #[.int .u64 x, .bool false])
  | some a => e = .returned (.tuple #[.int .u64 a, .bool true])
set_option maxHeartbeats 4000000 in
set_option maxRecDepth 20000 in
theorem zip_begin (w : World) (v : Value) (h : List UInt8) (hv : Arg w v h) (hh : h.length ≤ 262144) (e : En) (he : e.ok) :
    Calls Try.prog 21 #[v, .agg e.cells.toArray] w fun x w' => Begins (beginZ h e) x ∧ Below w.heap.size w w' := by
  obtain ⟨O, hO⟩ : ∃ O, beginZ h e = O := ⟨_, rfl⟩
  have HO := hide hO
  rw [hO]
  clear hO
  obtain ⟨a, cap, rfl, _⟩ := hv.isSlice
  have hA1 := hv.alloc (.cells e.cells.toArray 32)
  have HB1 : Hid (Below w.heap.size w (w.alloc (.cells e.cells.toArray 32))) := (Below.refl _ w).alloc (Nat.le_refl _) _
  have cc : ∀ k u, e.cells[k]? = some u → (w.alloc (.cells e.cells.toArray 32)).cell? ⟨w.heap.size, k, none⟩ = some u := fun k u hu => by
    rw [World.cell?_alloc_at _ _ _ _ (by simp)]; simpa using hu
  have x0 := cc 0 _ rfl
  have x2 := cc 2 _ rfl
  have x3 := cc 3 _ rfl
  have x4 := cc 4 _ rfl
  have hm := he.m
  have hs := he.s
  have ht := he.t
  have hp := he.p
  clear cc he
  obtain ⟨n, hn⟩ : ∃ n, h.length = n := ⟨_, rfl⟩
  have HN := hide hn
  obtain ⟨nm, me, si, st, po⟩ := e
  simp only at hm hs ht hp x0 x2 x3 x4
  have HA := hide hA1
  simp only [En.cells] at HB1 HA x0 x2 x3 x4 ⊢
  have hH := zip_has _ _ h HA.out po 30 (by omega)
  rw [hn] at hh hH ⊢ HA
  clear hA1 hv hn
  have hsI : (si : Int) < 4294967296 := by omega
  have hpI : (po : Int) < 4294967296 := by omega
  by_cases c1 : po + 30 ≤ n
  · rw [show decide (po + 30 ≤ n) = true from decide_eq_true c1] at hH
    have h4 := zip_four _ _ h HA.out po (by omega)
    have h8 := zip_two _ _ h HA.out (po + 8) (by omega)
    have h26 := zip_two _ _ h HA.out (po + 26) (by omega)
    have h28 := zip_two _ _ h HA.out (po + 28) (by omega)
    have b26 := rd2 h (po + 26)
    have b28 := rd2 h (po + 28)
    obtain ⟨q4, hq4⟩ : ∃ q, rd h po 4 = q := ⟨_, rfl⟩
    obtain ⟨q8, hq8⟩ : ∃ q, rd h (po + 8) 2 = q := ⟨_, rfl⟩
    obtain ⟨q26, hq26⟩ : ∃ q, rd h (po + 26) 2 = q := ⟨_, rfl⟩
    obtain ⟨q28, hq28⟩ : ∃ q, rd h (po + 28) 2 = q := ⟨_, rfl⟩
    have hOe := HO.out
    rw [beginZ] at hOe
    simp only [hq4, hq8, hq26, hq28, HN.out] at hOe
    rw [hq4] at h4
    rw [hq8] at h8
    rw [hq26] at h26 b26
    rw [hq28] at h28 b28
    have HQ28 := hide hq28
    clear hq4 hq8 hq26 hq28 HO
    rcases (Decidable.em (q4 = 67324752)).symm with c4 | c4
    · rw [if_neg (fun e => c4 e.2.1)] at hOe
      subst hOe
      have hb : ((q4 : Int) != 67324752) = true := by simp; omega
      go_enter Try.func21, Try.ntmps21
      go_wp2_with fail
      refine hH.mono ?_
      rintro e w1 ⟨rfl, rfl⟩
      go_wp2_with fail
      refine h4.mono ?_
      rintro e w1 ⟨rfl, rfl⟩
      go_wp2
      go_ret2
      exact ⟨⟨0, rfl⟩, HB1.out⟩
    subst c4
    rcases (Decidable.em (q8 = 0)).symm with c8 | c8
    · rw [if_neg (fun e => c8 e.2.2)] at hOe
      subst hOe
      have hb : ((q8 : Int) != 0) = true := by simp; omega
      go_enter Try.func21, Try.ntmps21
      go_wp2_with fail
      refine hH.mono ?_
      rintro e w1 ⟨rfl, rfl⟩
      go_wp2_with fail
      refine h4.mono ?_
      rintro e w1 ⟨rfl, rfl⟩
      go_wp2_with fail
      refine h8.mono ?_
      rintro e w1 ⟨rfl, rfl⟩
      go_wp2
      go_ret2
      exact ⟨⟨0, rfl⟩, HB1.out⟩
    subst c8
    rw [if_pos ⟨c1, rfl, rfl⟩] at hOe
    have hqI : (q26 : Int) < 65536 := by omega
    have hqJ : (q28 : Int) < 65536 := by omega
    rcases (Decidable.em (po + 30 + q26 ≤ n)).symm with c3 | c3
    · rw [if_neg (fun e => c3 e.1)] at hOe
      subst hOe
      have hP := le_Part_no _ _ h HA.out (po + 30) q26 (by omega) (by rw [HN.out]; exact c3)
      go_enter Try.func21, Try.ntmps21
      go_wp2_with fail
      refine hH.mono ?_
      rintro e w1 ⟨rfl, rfl⟩
      go_wp2_with fail
      refine h4.mono ?_
      rintro e w1 ⟨rfl, rfl⟩
      go_wp2_with fail
      refine h8.mono ?_
      rintro e w1 ⟨rfl, rfl⟩
      go_wp2_with fail
      refine h26.mono ?_
      rintro e w1 ⟨rfl, rfl⟩
      go_wp2_with fail
      refine hP.mono ?_
      rintro e w1 ⟨rfl, rfl⟩
      go_wp2
      go_ret2
      exact ⟨⟨0, rfl⟩, HB1.out⟩
    have hP := le_Part_yes _ _ h HA.out (po + 30) q26 (by rw [HN.out]; exact c3)
    obtain ⟨X, hX⟩ : ∃ X, win h (po + 30) q26 = X := ⟨_, rfl⟩
    rw [hX] at hP hOe
    have HXL : Hid (X.length ≤ 262144) := by rw [Hid, ← hX, win_len _ _ _ (by rw [HN.out]; exact c3)]; omega
    have HOE := hide hOe
    have HC3 := hide c3
    clear hX hOe c3
    go_enter Try.func21, Try.ntmps21
    go_wp2_with fail
    refine hH.mono ?_
    rintro e w1 ⟨rfl, rfl⟩
    go_wp2_with fail
    refine h4.mono ?_
    rintro e w1 ⟨rfl, rfl⟩
    go_wp2_with fail
    refine h8.mono ?_
    rintro e w1 ⟨rfl, rfl⟩
    go_wp2_with fail
    refine h26.mono ?_
    rintro e w1 ⟨rfl, rfl⟩
    go_wp2_with fail
    refine hP.mono ?_
    rintro e w2 ⟨vp, rfl, hown, hb2⟩
    have hvp := hown.arg (by have := HXL.out; omega)
    have tx := hvp.text
    have HB2 : Hid (Below w.heap.size w w2) := HB1.out.trans (hb2.mono HB1.out.size)
    have y0 := hb2.cell (p := ⟨w.heap.size, 0, none⟩) (World.block_lt_of_cell? _ _ x0)
    have y2 := hb2.cell (p := ⟨w.heap.size, 2, none⟩) (World.block_lt_of_cell? _ _ x2)
    have y3 := hb2.cell (p := ⟨w.heap.size, 3, none⟩) (World.block_lt_of_cell? _ _ x3)
    have y4 := hb2.cell (p := ⟨w.heap.size, 4, none⟩) (World.block_lt_of_cell? _ _ x4)
    rw [x0] at y0
    rw [x2] at y2
    rw [x3] at y3
    rw [x4] at y4
    have hA2 := HA.out.below hb2 rfl
    have h28b := zip_two _ _ h hA2 (po + 28) (by omega)
    rw [HQ28.out] at h28b
    have hHb := zip_has _ _ h hA2 (po + 30 + q26 + q28) si (by omega)
    have eA : ((po + 30 + q26 + q28 : Nat) : Int) = (po : Int) + 30 + (q26 : Int) + (q28 : Int) := by omega
    rw [HN.out, eA] at hHb
    have HEA := hide eA
    clear eA
    have HA2 := hide hA2
    clear hA2 hP hH h4 h8 h26 h28 hown hvp hb2 x0 x2 x3 x4
    rcases (Decidable.em (X = nm)).symm with cn | cn
    · have hbn : (X == nm) = false := by simpa using cn
      have hOe := HOE.out
      rw [if_neg (fun e => cn e.2)] at hOe
      subst hOe
      clear cn
      go_wp2
      go_ret2
      exact ⟨⟨0, rfl⟩, HB2.out⟩
    subst cn
    have hOe := HOE.out
    rw [if_pos ⟨HC3.out, rfl⟩] at hOe
    rcases (Decidable.em (st = si)).symm with cs | cs
    · rw [if_neg (fun e => cs e.1)] at hOe
      subst hOe
      have hbs : ((st : Int) == (si : Int)) = false := by simp; omega
      clear cs HOE
      go_wp2_with fail
      refine h28b.mono ?_
      rintro e w3 ⟨rfl, rfl⟩
      go_wp2
      go_ret2
      exact ⟨⟨po + 30 + q26 + q28, by rw [HEA.out]; rfl⟩, HB2.out⟩
    subst cs
    have hbs : ((st : Int) == (st : Int)) = true := by simp
    rcases (Decidable.em (po + 30 + q26 + q28 + st ≤ n)).symm with cz | cz
    · rw [if_neg (fun e => cz e.2)] at hOe
      rw [show decide (po + 30 + q26 + q28 + st ≤ n) = false from decide_eq_false cz] at hHb
      subst hOe
      clear HOE
      go_wp2_with fail
      refine h28b.mono ?_
      rintro e w3 ⟨rfl, rfl⟩
      go_wp2_with fail
      refine hHb.mono ?_
      rintro e w3 ⟨rfl, rfl⟩
      go_wp2
      go_ret2
      exact ⟨⟨po + 30 + q26 + q28, by rw [HEA.out]; rfl⟩, HB2.out⟩
    · rw [if_pos ⟨rfl, cz⟩] at hOe
      rw [show decide (po + 30 + q26 + q28 + st ≤ n) = true from decide_eq_true cz] at hHb
      subst hOe
      clear HOE
      go_wp2_with fail
      refine h28b.mono ?_
      rintro e w3 ⟨rfl, rfl⟩
      go_wp2_with fail
      refine hHb.mono ?_
      rintro e w3 ⟨rfl, rfl⟩
      go_wp2
      go_ret2
      refine ⟨?_, HB2.out⟩
      show _ = Ending.returned (.tuple #[.int .u64 ((po + 30 + q26 + q28 : Nat) : Int), .bool true])
      rw [HEA.out]
      rfl
  · rw [show decide (po + 30 ≤ n) = false from decide_eq_false c1] at hH
    have HV : Hid (O = none) := by rw [Hid, ← HO.out, beginZ, if_neg (fun e => c1 (by rw [← HN.out]; exact e.1))]
    clear HO
    go_enter Try.func21, Try.ntmps21
    go_wp2_with fail
    refine hH.mono ?_
    rintro e w1 ⟨rfl, rfl⟩
    go_wp2
    go_ret2
    exact ⟨by rw [HV.out]; exact ⟨0, rfl⟩, HB1.out⟩
end Go.Proofs.Ytegcdddfccmljaa
