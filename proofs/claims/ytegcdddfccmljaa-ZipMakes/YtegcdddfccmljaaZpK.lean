
/-
  Layer 7 (zip): Make keeps its contract.
-/
import Derived.Test.YtegcdddfccmljaaZpJ
set_option linter.unusedVariables false
namespace Go.Proofs.Ytegcdddfccmljaa
open Go.RowKit Go.PlainAid
set_option maxHeartbeats 4000000 in
set_option maxRecDepth 20000 in
theorem zip_Make (w : World) (a : Option Addr) (cap : Nat) (fs : List Fl) (hcap : fs.length ≤ cap) (hcm : cap ≤ maxLen) (h : FilesAt w a fs) :
    Calls Try.prog 13 #[.slice a fs.length cap] w fun e w' => MakesZ w' w.heap.size (makeN fs) e ∧ Below w.heap.size w w' := by
  have HF := hide h
  have hcap2 : cap ≤ 9223372036854775807 := by unfold maxLen at hcm; omega
  obtain ⟨O, hO⟩ : ∃ O, makeN fs = O := ⟨_, rfl⟩
  have HO := hide hO
  rw [hO]
  clear hO h hcm
  obtain ⟨n, hn⟩ : ∃ n, fs.length = n := ⟨_, rfl⟩
  have HN := hide hn
  rw [hn] at hcap ⊢
  clear hn
  have HBR : Hid (Below w.heap.size w w) := Below.refl _ _
  by_cases hbig : 256 < n
  · have hbI : (256 : Int) < (n : Int) := by omega
    have HV : Hid (O = .error 68) := by rw [Hid, ← HO.out, makeN, if_pos (by rw [HN.out]; exact hbig)]
    clear HO
    go_enter Try.func13, Try.ntmps13
    go_wp2
    go_ret2
    exact ⟨by rw [HV.out]; rfl, HBR.out⟩
  have hbI : ¬ (256 : Int) < (n : Int) := by omega
  have hOe := HO.out
  rw [makeN, if_neg (by rw [HN.out]; exact hbig), HN.out] at hOe
  obtain ⟨M, hM⟩ : ∃ M, makeZ fs [] [] = M := ⟨_, rfl⟩
  rw [hM] at hOe
  have HM : Hid (M = makeZ (fs.drop 0) [] []) := by rw [Hid, ← hM]; rfl
  have HOE := hide hOe
  clear hOe hM HO
  go_enter Try.func13, Try.ntmps13
  go_wp2_with fail
  refine (le_New _).mono ?_
  rintro e w1 ⟨rfl, hb1, b1, s1⟩
  have HBF1 := hide hb1
  have HB1 := hide b1
  have HS1 := hide s1
  clear hb1 b1 s1
  go_wp2_with fail
  refine (le_New _).mono ?_
  rintro e w2 ⟨rfl, hb2, b2, s2⟩
  have HR2 : Hid (w1.heap.size = w.heap.size + 1) := HS1.out
  have HB2 : Hid (Below w.heap.size w w2) := HB1.out.trans (b2.mono HB1.out.size)
  have HT : Hid (Tw w2 w.heap.size w.heap.size w1.heap.size none none [] []) := ⟨HBF1.out.below b2, hb2.low HB1.out.size, by have := HS1.out; omega, by simp, by simp, .inl rfl⟩
  clear hb2 b2 s2 HBF1 HB1 HS1
  generalize hR2 : w1.heap.size = R2 at *
  have HR2L : Hid (w.heap.size ≤ R2) := by rw [Hid, HR2.out]; omega
  clear hR2 HR2
  go_wp2
  go_loopw [7, 8, 17] (fun _ _ vi wr => ∃ (i : Nat) (x c : List UInt8) (o1 o2 : Option Nat), i ≤ n ∧ vi = .int .i64 i ∧ Hid (Tw wr w.heap.size w.heap.size R2 o1 o2 x c) ∧ Hid (Below w.heap.size w wr) ∧ Hid (M = makeZ (fs.drop i) x c) ∧ Hid (x.length + c.length + 22 ≤ 262144))
    (fun _ _ vi _ => n - (intOf vi).toNat)
  case atStart => exact ⟨0, [], [], none, none, by omega, rfl, HT, HB2, HM, by simp [Hid]⟩
  case round =>
    obtain ⟨i, x, c, o1, o2, hi, rfl, HT, HB, HR, HXC⟩ := hrel
    by_cases hlt : i < n
    · have hltI : (i : Int) < (n : Int) := by omega
      have hil : i < fs.length := by rw [HN.out]; exact hlt
      obtain ⟨y, oo, rfl, hfl⟩ : ∃ y o, a = some ⟨y, o, none⟩ ∧ ∀ i (h : i < fs.length), IsFl w y (o + i * 2) fs[i] := by
        rcases HF.out with e | e
        · rw [e] at hil; simp at hil
        · exact e
      have hf := (hfl i hil).below HB.out
      have hstep := HR.out
      rw [List.drop_eq_getElem_cons hil, makeZ] at hstep
      have HFI := hide (hfl i hil)
      clear hfl
      generalize fs[i] = f at *
      obtain ⟨nm, d, vd⟩ := f
      obtain ⟨va, vc, hvd, _, _, hd12⟩ := hf.arg.isSlice
      simp only at hvd hd12 hstep
      subst hvd
      have hnl := hf.nlen
      have k0 := hf.c0
      have k1 := hf.c1
      simp only at hnl k0 k1
      clear hf
      -- the box of this round
      have HW : Hid (Below wr.heap.size wr (wr.alloc (.cells #[.string ⟨nm.toArray⟩, .slice va d.length vc] 50))) := (Below.refl _ wr).alloc (Nat.le_refl _) _
      have hTW := HT.out.below HW.out
      have HTW := hide hTW
      have HZ1 : Hid (o1 ≠ some wr.heap.size) := fun e => by have := (HT.out.b1.own_ge _ e).2; omega
      have HZ2 : Hid (o2 ≠ some wr.heap.size) := fun e => by have := (HT.out.b2.own_ge _ e).2; omega
      have HZR : Hid (wr.heap.size ≠ w.heap.size ∧ wr.heap.size ≠ R2) := ⟨fun e => by have := HT.out.b1.lt; omega, fun e => by have := HT.out.b2.lt; omega⟩
      have z0 : (wr.alloc (.cells #[.string ⟨nm.toArray⟩, .slice va d.length vc] 50)).cell? ⟨wr.heap.size, 0, none⟩ = some (.string ⟨nm.toArray⟩) := by rw [World.cell?_alloc_at _ _ _ _ (by simp)]; simp
      have z1 : (wr.alloc (.cells #[.string ⟨nm.toArray⟩, .slice va d.length vc] 50)).cell? ⟨wr.heap.size, 1, none⟩ = some (.slice va d.length vc) := by rw [World.cell?_alloc_at _ _ _ _ (by simp)]; simp
      have HBW : Hid (Below w.heap.size w (wr.alloc (.cells #[.string ⟨nm.toArray⟩, .slice va d.length vc] 50))) := HB.out.trans (HW.out.mono HB.out.size)
      have HC := hide (fun W => zip_check W nm va d.length vc hnl hd12)
      have HZ0 := hide z0
      have HZ1c := hide z1
      clear hTW z0 z1
      obtain ⟨D, hD⟩ : ∃ D, d.length = D := ⟨_, rfl⟩
      have HD := hide hD
      rw [hD] at HW HTW HZ0 HZ1c HBW HC hd12 k1
      have hdI : (D : Int) ≤ 1000000000000 := by omega
      clear hD HW
      go_wp2_with fail
      refine (HC.out _).mono ?_
      rintro e w3 ⟨rfl, hb3⟩
      have HT3 := hide (HTW.out.below hb3)
      have HB3 : Hid (Below w.heap.size w w3) := HBW.out.trans (hb3.mono HBW.out.size)
      have HLT3 : Hid (wr.heap.size < w3.heap.size) := by
        have := hb3.size
        rw [Hid]; simp at this; omega
      have y0 : w3.cell? ⟨wr.heap.size, 0, none⟩ = some (.string ⟨nm.toArray⟩) := by rw [hb3.cell (p := ⟨wr.heap.size, 0, none⟩) (World.block_lt_of_cell? _ _ HZ0.out)]; exact HZ0.out
      have y1 : w3.cell? ⟨wr.heap.size, 1, none⟩ = some (.slice va D vc) := by rw [hb3.cell (p := ⟨wr.heap.size, 1, none⟩) (World.block_lt_of_cell? _ _ HZ1c.out)]; exact HZ1c.out
      clear hb3 HC HTW HBW HZ0 HZ1c k0 k1
      generalize wr.heap.size = Z at *
      rw [HD.out] at hstep
      rcases chkF_or nm.length D with ⟨e0, n0, n1, d1⟩ | ⟨eb, ene⟩
      · rw [if_pos e0] at hstep
        rw [e0]
        have hXL := ownB_len x.length nm d
        have hCL := listB_len x.length nm d
        have hpad := (padN_is (x.length + 30 + nm.length)).2.1
        have hLen := le_Len w3.drew w.heap.size w.heap.size o1 x (HT3.out.b1.below ⟨rfl, rfl, rfl, Nat.le_refl _, fun _ _ => rfl⟩)
        have hPL := zip_putList w3.drew w.heap.size R2 o2 c nm d (HT3.out.b2.below ⟨rfl, rfl, rfl, Nat.le_refl _, fun _ _ => rfl⟩) HB3.out.size va vc x.length (by rw [HD.out]; exact d1) n1 (by have := HXC.out; omega) (by have := HXC.out; omega)
        rw [HD.out] at hPL
        have DD : w3.drew.cell? ⟨Z, 0, none⟩ = some (.string ⟨nm.toArray⟩) ∧ w3.drew.cell? ⟨Z, 1, none⟩ = some (.slice va D vc) := ⟨y0, y1⟩
        have HST := hide hstep
        have HXLs := hide (And.intro hXL (And.intro hCL hpad))
        have hxI : (x.length : Int) ≤ 262144 := by have := HXC.out; omega
        have HDD := hide DD
        clear hstep hXL hCL hpad e0 y0 y1 HR
        go_wp2_with fail
        go_region_held_law (fun w' => w'.cell? ⟨Z, 0, none⟩ = some (.string ⟨nm.toArray⟩) ∧ w'.cell? ⟨Z, 1, none⟩ = some (.slice va D vc))
          (first | with_reducible assumption)
          (first
            | (go_at_call 25; refine hLen.mono ?_; rintro e w4 ⟨rfl, rfl⟩)
            | (go_at_call 24; refine hPL.mono ?_; rintro e w4 ⟨rfl, h4⟩; have HL4 := hide h4; have EE := And.intro (h4.cell HDD.out.1 HZR.out.2 (Ne.symm HZ2.out)) (h4.cell HDD.out.2 HZR.out.2 (Ne.symm HZ2.out)); clear h4))
        clear hLen hPL
        obtain ⟨o2', hT4, hn4⟩ := (HT3.out.below (⟨rfl, rfl, rfl, Nat.le_refl _, fun _ _ => rfl⟩ : Below w3.heap.size w3 w3.drew)).right HL4.out
        have HT4 := hide hT4
        have HZ2' : Hid (o2' ≠ some Z) := hn4.far HLT3.out HZ2.out
        have HB4 : Hid (Below w.heap.size w w4) := HB3.out.drew.trans (Lays.out_below HL4.out (HT3.out.b2.below (⟨rfl, rfl, rfl, Nat.le_refl _, fun _ _ => rfl⟩ : Below w3.heap.size w3 w3.drew)) HB3.out.size)
        have HLT4 : Hid (Z < w4.heap.size) := Nat.lt_of_lt_of_le HLT3.out HL4.out.size
        have hPF := zip_putFile w4 w.heap.size w.heap.size o1 x nm d hT4.b1 HB4.out.size va vc (fun W hW => by have k := HFI.out.arg.below (HB4.out.trans hW) rfl; exact k) (by rw [HD.out]; exact d1) n1 (by have := HXC.out; omega)
        rw [HD.out] at hPF
        obtain ⟨e0, e1⟩ := id EE
        have HEE := hide EE
        clear hT4 hn4 EE DD HDD
        go_wp2_with fail
        refine hPF.mono ?_
        rintro e w5 ⟨rfl, h5⟩
        obtain ⟨o1', hT5, hn5⟩ := HT4.out.left h5
        have HB5 : Hid (Below w.heap.size w w5) := HB4.out.trans (Lays.out_below h5 HT4.out.b1 HB4.out.size)
        have HT5 := hide hT5
        have hL1 := le_Len w5 w.heap.size w.heap.size o1' _ hT5.b1
        have hL2 := le_Len w5 w.heap.size R2 o2' _ hT5.b2
        obtain ⟨A, hA⟩ : ∃ A, (x ++ ownB x.length nm d).length = A := ⟨_, rfl⟩
        obtain ⟨C, hC⟩ : ∃ C, (c ++ listB x.length nm d).length = C := ⟨_, rfl⟩
        rw [hA] at hL1
        rw [hC] at hL2
        have hAI : (A : Int) ≤ 1000000 := by
          have h1 := HXLs.out
          have h2 := HXC.out
          rw [List.length_append] at hA
          have := HD.out
          omega
        have hCI : (C : Int) ≤ 1000000 := by
          have h1 := HXLs.out
          have h2 := HXC.out
          rw [List.length_append] at hC
          omega
        have hstep := HST.out
        rw [hA, hC] at hstep
        have HAC := hide (And.intro hA hC)
        clear h5 hT5 hn5 hPF e0 e1 hA hC HST
        by_cases hbg : 262144 < A + C + 22
        · rw [if_pos hbg] at hstep
          have hbgI : (262144 : Int) < (A : Int) + (C : Int) + 22 := by omega
          have hOe := HOE.out
          rw [hstep] at hOe
          simp only at hOe
          subst hOe
          clear hstep hbg
          go_wp2_with fail
          refine hL1.mono ?_
          rintro e w6 ⟨rfl, rfl⟩
          go_wp2_with fail
          refine hL2.mono ?_
          rintro e w6 ⟨rfl, rfl⟩
          go_wp2
          go_ret2
          exact ⟨rfl, HB5.out⟩
        · rw [if_neg hbg] at hstep
          have hbgD : decide ((262144 : Int) < (A : Int) + (C : Int) + 22) = false := decide_eq_false (by omega)
          have HST := hide hstep
          have HBG := hide hbg
          clear hstep hbg
          go_wp2_with fail
          refine hL1.mono ?_
          rintro e w6 ⟨rfl, rfl⟩
          go_wp2_with fail
          refine hL2.mono ?_
          rintro e w6 ⟨rfl, rfl⟩
          go_wp2
          go_roundw
          case rel => exact ⟨i + 1, _, _, o1', o2', by omega, by go_num, HT5, HB5, HST, by have h1 := HAC.out; have h2 := HBG.out; rw [Hid, h1.1, h1.2]; omega⟩
          case measure => simp [intOf]; omega
      · rw [if_neg ene] at hstep
        have hOe := HOE.out
        rw [hstep] at hOe
        simp only at hOe
        subst hOe
        clear hstep HR
        go_wp2
        go_ret2
        exact ⟨rfl, HB3.out⟩
    · have him : i = n := by omega
      subst him
      have hM2 := HR.out
      rw [List.drop_of_length_le (by rw [HN.out]; exact Nat.le_refl _), makeZ] at hM2
      have hOe := HOE.out
      rw [hM2] at hOe
      simp only at hOe
      subst hOe
      have hL1 := le_Len wr w.heap.size w.heap.size o1 x HT.out.b1
      have hBy := le_Bytes wr w.heap.size R2 o2 c HT.out.b2 (by have := HXC.out; omega)
      have hxI : (x.length : Int) ≤ 262144 := by have := HXC.out; omega
      have hcI : (c.length : Int) ≤ 262144 := by have := HXC.out; omega
      clear HR hM2 HM
      go_wp2_with fail
      refine hL1.mono ?_
      rintro e w3 ⟨rfl, rfl⟩
      go_wp2_with fail
      refine hBy.mono ?_
      rintro e w4 ⟨vb, rfl, own4, b4⟩
      have hT4 := HT.out.below b4
      have HB4 : Hid (Below w.heap.size w w4) := HB.out.trans (b4.mono HB.out.size)
      have hRw := le_Raw w4 w.heap.size w.heap.size o1 x c hT4.b1 HB4.out.size vb (own4.arg (by have := HXC.out; omega)) (by have := HXC.out; omega)
      have HT4 := hide hT4
      clear hT4 own4 b4 hL1 hBy
      go_wp2_with fail
      refine hRw.mono ?_
      rintro e w5 ⟨rfl, h5⟩
      obtain ⟨o1', hT5, _⟩ := HT4.out.left h5
      have HB5 : Hid (Below w.heap.size w w5) := HB4.out.trans (Lays.out_below h5 HT4.out.b1 HB4.out.size)
      have hL2 := le_Len w5 w.heap.size R2 o2 c hT5.b2
      have hPl := zip_putLast w5 w.heap.size w.heap.size o1' (x ++ c) hT5.b1 HB5.out.size i c.length x.length (by omega) (by omega) (by omega) (by have := HXC.out; simp; omega)
      have HT5 := hide hT5
      clear h5 hT5 hRw
      go_wp2_with fail
      refine hL2.mono ?_
      rintro e w6 ⟨rfl, rfl⟩
      go_wp2_with fail
      refine hPl.mono ?_
      rintro e w6 ⟨rfl, h6⟩
      obtain ⟨o1'', hT6, _⟩ := HT5.out.left h6
      have HB6 : Hid (Below w.heap.size w w6) := HB5.out.trans (Lays.out_below h6 HT5.out.b1 HB5.out.size)
      have hBy := le_Bytes w6 w.heap.size w.heap.size o1'' _ hT6.b1 (by have := HXC.out; simp [lastB_len]; omega)
      clear h6 hT6 hPl hL2
      go_wp2_with fail
      refine hBy.mono ?_
      rintro e w7 ⟨v7, rfl, own7, b7⟩
      have HO7 := hide (own7.low HB6.out.size)
      have HB7 : Hid (Below w.heap.size w w7) := HB6.out.trans (b7.mono HB6.out.size)
      clear own7 b7 hBy
      go_wp2
      go_ret2
      exact ⟨⟨_, rfl, HO7.out⟩, HB7.out⟩
end Go.Proofs.Ytegcdddfccmljaa
