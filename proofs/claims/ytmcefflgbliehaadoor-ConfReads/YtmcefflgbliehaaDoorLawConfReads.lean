
/-
  ConfReads returns true for every text and every program's path: no condition (the listed tables of unicode/utf8 are tied to the program's text, and never read; internal/bytealg.MaxLen is whatever it is).
-/
import Derived.Test.YtmcefflgbliehaaDoorRows
import Derived.Test.YtmcefflgbliehaaDoorCards
import Derived.Test.YtmcefflgbliehaaDoorTie
import Derived.Test.YtmcefflgbliehaaDoorCgM
import Derived.Test.YtmcefflgbliehaaDoorCfP
import Derived.Test.YtmcefflgbliehaaDoorDoorK
import Derived.WalkKit
import Derived.ProofKit
import Derived.OpenShut
import Derived.ShutString
import Derived.ChangeOld
import Derived.ChangeSlices
import Derived.Below
import Derived.LaidMore
import Derived.Lay
import Derived.SevenTiedAt
import Derived.Stop.Joined
set_option linter.unusedVariables false
namespace Go.Proofs.YtmcefflgbliehaaDoor
namespace LConfReads
open Go.ChangeShapes Go.WideShapes Go.ChangeAt Go.RowKit Go.PlainAid Go.Sort
open Go.ChangeMaps (open_string shut_string)
set_option maxHeartbeats 4000000 in
set_option maxRecDepth 20000 in
theorem core (w : World) (hm : Mx w) (l p : List UInt8) (hl : l.length ≤ 9223372036854775807) (hp : p.length ≤ 4096) :
    Calls Tryd.prog 3 #[.string (tx l), .string (tx p)] w fun e w' => e = .returned (.bool true) ∧ Below w.heap.size w w' := by
  have hA := conf_ParseA w hm l hl
  have hR := fun W => ref18_ParseA W l hl
  have hds := parse_ds l
  obtain ⟨T, hT⟩ : ∃ T, parseC l = T := ⟨_, rfl⟩
  rw [hT] at hA hds
  simp only [hT] at hR
  clear hT
  obtain ⟨F, L, E⟩ := T
  simp only [] at hds
  have HDS := hide (fun d hd => Nat.le_trans (hds d hd) (by decide : 256 ≤ 100000000))
  have HM := hide hm
  have hcp := (fun W (hW : Mx W) dv sv (h : CfIs W dv sv F) => conf_Choose W hW dv sv F h p (by omega))
  have hcr := (fun W dv sv (h : CfIs W dv sv F) => ref18_Choose W dv sv F h HDS.out p (by omega))
  obtain ⟨TC, hTC⟩ : ∃ TC, chooseC F p = TC := ⟨_, rfl⟩
  simp only [hTC] at hcp hcr
  obtain ⟨SC, EC⟩ := TC
  have HCP := hide hcp
  have HCR := hide hcr
  clear hTC hcp hcr
  have HPR := hide (fun W v (k : List Pr) (h : ArgP W v k) => law_props W v k h)
  have HSM := hide (fun W v u (k : List Pr) (h : ArgP W v k) (h2 : ArgP W u k) => ref18_Same W v u k h h2)
  have HAL := hide (fun W (hW : Mx W) => alive18 W hW)
  have i1 : ¬ (4096 : Int) < (p.length : Int) := by omega
  clear hm hds hl hp
  unfold tx at hA hR ⊢
  go_enter Tryd.func3, Tryd.ntmps3
  go_wp2_with fail
  refine hA.mono ?_
  rintro e w1 ⟨⟨dv1, sv1, rfl, hcf1⟩, hb1⟩
  obtain ⟨da1, dc1, sa1, sc1, rfl, rfl⟩ := hcf1.forms
  have HB1 := hide hb1
  have HC1 := hide hcf1
  clear hA hb1 hcf1
  have HB1a := hide (fun o => HB1.out.alloc HB1.out.size o)
  go_wp2_with fail
  refine (hR _).mono ?_
  rintro e w2 ⟨⟨dv2, sv2, rfl, hcf2⟩, hb2⟩
  obtain ⟨da2, dc2, sa2, sc2, rfl, rfl⟩ := hcf2.forms
  have HB2 := hide ((HB1a.out _).trans (hb2.mono (HB1a.out _).size))
  have HC2 := hide hcf2
  have HF1 := hide (block_stay (block_new w1 (.cells #[.slice da1 F.dirs.length dc1, .slice sa1 F.secs.length sc1] 25)) hb2)
  have HY1 := hide ((HC1.out.below (below_box w1 (.cells #[.slice da1 F.dirs.length dc1, .slice sa1 F.secs.length sc1] 25))).below hb2)
  clear hR hb2 hcf2 HC1 HB1 HB1a
  have HB3 := hide (HB2.out.alloc HB2.out.size (.cells #[.slice da2 F.dirs.length dc2, .slice sa2 F.secs.length sc2] 32))
  have HF1b := hide (block_stay HF1.out (below_box w2 (.cells #[.slice da2 F.dirs.length dc2, .slice sa2 F.secs.length sc2] 32)))
  have HF2b := hide (block_new w2 (.cells #[.slice da2 F.dirs.length dc2, .slice sa2 F.secs.length sc2] 32))
  have HY1b := hide (HY1.out.below (below_box w2 (.cells #[.slice da2 F.dirs.length dc2, .slice sa2 F.secs.length sc2] 32)))
  have HY2b := hide (HC2.out.below (below_box w2 (.cells #[.slice da2 F.dirs.length dc2, .slice sa2 F.secs.length sc2] 32)))
  clear HF1 HY1 HC2 HB2
  go_wp2_with fail
  generalize w2.alloc (.cells #[.slice da2 F.dirs.length dc2, .slice sa2 F.secs.length sc2] 32) = W3 at *
  have x0 : W3.drew.cell? ⟨w1.heap.size, 0, none⟩ = some (.slice da1 F.dirs.length dc1) := cells_of_block (w := W3.drew) HF1b.out 0 _ rfl
  have x1 : W3.drew.cell? ⟨w1.heap.size, 1, none⟩ = some (.slice sa1 F.secs.length sc1) := cells_of_block (w := W3.drew) HF1b.out 1 _ rfl
  have y0 : W3.drew.cell? ⟨w2.heap.size, 0, none⟩ = some (.slice da2 F.dirs.length dc2) := cells_of_block (w := W3.drew) HF2b.out 0 _ rfl
  have y1 : W3.drew.cell? ⟨w2.heap.size, 1, none⟩ = some (.slice sa2 F.secs.length sc2) := cells_of_block (w := W3.drew) HF2b.out 1 _ rfl
  have HB3d : Hid (Below W3.heap.size W3 W3.drew) := (Below.refl _ W3).drew
  have kP := HPR.out W3.drew _ _ (HY1b.out.below HB3d.out).1
  have HS0 : Hid (∀ W, Below W3.heap.size W3 W → W.cell? ⟨w1.heap.size, 0, none⟩ = some (.slice da1 F.dirs.length dc1) ∧ W.cell? ⟨w1.heap.size, 1, none⟩ = some (.slice sa1 F.secs.length sc1) ∧ W.cell? ⟨w2.heap.size, 0, none⟩ = some (.slice da2 F.dirs.length dc2) ∧ W.cell? ⟨w2.heap.size, 1, none⟩ = some (.slice sa2 F.secs.length sc2)) := fun W hW =>
    ⟨cells_of_block (block_stay HF1b.out hW) 0 _ rfl, cells_of_block (block_stay HF1b.out hW) 1 _ rfl, cells_of_block (block_stay HF2b.out hW) 0 _ rfl, cells_of_block (block_stay HF2b.out hW) 1 _ rfl⟩
  go_region_held_law (fun w' => w'.cell? ⟨w1.heap.size, 0, none⟩ = some (.slice da1 F.dirs.length dc1) ∧ w'.cell? ⟨w1.heap.size, 1, none⟩ = some (.slice sa1 F.secs.length sc1) ∧ w'.cell? ⟨w2.heap.size, 0, none⟩ = some (.slice da2 F.dirs.length dc2) ∧ w'.cell? ⟨w2.heap.size, 1, none⟩ = some (.slice sa2 F.secs.length sc2))
    (first | assumption | exact ⟨by assumption, by assumption, by assumption, by assumption⟩ | go_keep)
    (first
      | (go_at_call 11; refine kP.mono ?_; rintro e w5 ⟨⟨v5, rfl, hown⟩, hb5⟩; have HB5 : Hid (Below W3.heap.size W3 w5) := HB3d.out.trans (hb5.mono HB3d.out.size); have HA5 := hide (hown.arg (HY1b.out.1.1)); obtain ⟨a5, c5, hv5⟩ := row_form hown; subst hv5; have z0 := HS0.out w5 HB5.out; clear hown hb5)
      | (go_at_call 10; refine (HSM.out w5 _ _ _ HA5.out (HY2b.out.below HB5.out).1).mono ?_; rintro e w6 ⟨rfl, hb6⟩; have HB6 : Hid (Below W3.heap.size W3 w6) := HB5.out.trans (hb6.mono HB5.out.size); have z1 := HS0.out w6 HB6.out; clear hb6))
  clear x0 x1 y0 y1 kP z0 z1 HA5 HB5
  go_wp2_with fail
  go_loopw [11] (fun vi wr => ∃ i : Nat, i ≤ F.secs.length ∧ vi = .int .i64 i ∧ Hid (Below W3.heap.size W3 wr)) (fun vi _ => F.secs.length - (intOf vi).toNat)
  case atStart => exact ⟨0, by omega, rfl, HB6.out⟩
  case round =>
    obtain ⟨i, hi, rfl, HB⟩ := hrel
    have z2 := HS0.out wr HB.out
    have HBr := hide (HB3.out.trans (HB.out.mono HB3.out.size))
    by_cases hlt : i < F.secs.length
    · have hltI : (i : Int) < (F.secs.length : Int) := by omega
      have hi0 : (0 : Int) ≤ (i : Int) := by omega
      obtain ⟨g1, o1, cap1, a1, n1, k1, e1, q1, q2, hc1⟩ := HY1b.out.sec i hlt
      obtain ⟨g2, o2, cap2, a2, n2, k2, e2, r1, r2, hc2⟩ := HY2b.out.sec i hlt
      injection e1 with e1 e1b e1c
      injection e2 with e2 e2b e2c
      clear e1b e2b
      subst e1 e1c e2 e2c
      obtain ⟨pa1, pc1, hv1⟩ := (hc1 wr HB.out).2.2.form
      obtain ⟨pa2, pc2, hv2⟩ := (hc2 wr HB.out).2.2.form
      injection hv1 with u1 u2 u3
      injection hv2 with v1 v2 v3
      subst u1 u2 u3 v1 v2 v3
      have HX1 := hide hc1
      have HX2 := hide hc2
      clear hc1 hc2
      generalize F.secs[i] = s1 at *
      have HS1 : Hid (∀ W, Below wr.heap.size wr W → W.cell? ⟨w1.heap.size, 1, none⟩ = some (.slice (some ⟨g1, o1, none⟩) F.secs.length sc1) ∧ W.cell? ⟨w2.heap.size, 1, none⟩ = some (.slice (some ⟨g2, o2, none⟩) F.secs.length sc2) ∧
          W.cell? ⟨g1, o1 + i * 2, none⟩ = some (.string ⟨s1.name.toArray⟩) ∧ W.cell? ⟨g1, o1 + i * 2 + 1, none⟩ = some (.slice a1 s1.props.length k1) ∧ W.cell? ⟨g2, o2 + i * 2, none⟩ = some (.string ⟨s1.name.toArray⟩) ∧ W.cell? ⟨g2, o2 + i * 2 + 1, none⟩ = some (.slice a2 s1.props.length k2)) := fun W hW => by
        have hWW := HB.out.trans (hW.mono HB.out.size)
        obtain ⟨t1, t2, t3, t4⟩ := HS0.out W hWW
        obtain ⟨t5, t6, _⟩ := HX1.out W hWW
        obtain ⟨t7, t8, _⟩ := HX2.out W hWW
        exact ⟨t2, t4, t5, t6, t7, t8⟩
      have z3 := HS1.out wr.drew (Below.refl _ _).drew
      have HBd : Hid (Below wr.heap.size wr wr.drew) := (Below.refl _ _).drew
      have kP := HPR.out wr.drew _ _ ((HX1.out wr HB.out).2.2.below HBd.out)
      have HA2 : Hid (∀ W, Below wr.heap.size wr W → ArgP W (.slice a2 s1.props.length k2) s1.props) := fun W hW => (HX2.out wr HB.out).2.2.below hW
      have HLP : Hid (s1.props.length ≤ 100000) := (HX2.out wr HB.out).2.2.1
      go_wp2_with fail
      go_region_held_law (fun w' => w'.cell? ⟨w1.heap.size, 1, none⟩ = some (.slice (some ⟨g1, o1, none⟩) F.secs.length sc1) ∧ w'.cell? ⟨w2.heap.size, 1, none⟩ = some (.slice (some ⟨g2, o2, none⟩) F.secs.length sc2) ∧
          w'.cell? ⟨g1, o1 + i * 2, none⟩ = some (.string ⟨s1.name.toArray⟩) ∧ w'.cell? ⟨g1, o1 + i * 2 + 1, none⟩ = some (.slice a1 s1.props.length k1) ∧ w'.cell? ⟨g2, o2 + i * 2, none⟩ = some (.string ⟨s1.name.toArray⟩) ∧ w'.cell? ⟨g2, o2 + i * 2 + 1, none⟩ = some (.slice a2 s1.props.length k2))
        (first | assumption | exact ⟨by assumption, by assumption, by assumption, by assumption, by assumption, by assumption⟩ | go_keep)
        (first
          | (go_at_call 11; refine kP.mono ?_; rintro e w5 ⟨⟨v5, rfl, hown⟩, hb5⟩; have HB5 : Hid (Below wr.heap.size wr w5) := HBd.out.trans (hb5.mono HBd.out.size); have HA5 := hide (hown.arg HLP.out); obtain ⟨a5, c5, hv5⟩ := row_form hown; subst hv5; have z0 := HS1.out w5 HB5.out; clear hown hb5)
          | (go_at_call 10; refine (HSM.out w5 _ _ _ HA5.out (HA2.out w5 HB5.out)).mono ?_; rintro e w6 ⟨rfl, hb6⟩; have HB7 : Hid (Below wr.heap.size wr w6) := HB5.out.trans (hb6.mono HB5.out.size); have z1 := HS1.out w6 HB7.out; clear hb6))
      all_goals
        clear z0 z1 z3 kP HA5
        go_wp2
        go_roundw
        case rel => exact ⟨i + 1, by omega, by go_num, HB.out.trans (HB7.out.mono HB.out.size)⟩
        case measure => simp [intOf]; omega
    · have hltI : ¬ (i : Int) < (F.secs.length : Int) := by omega
      obtain ⟨x0, x1, y0, y1⟩ := z2
      have kC := HCP.out wr (HM.out.below HBr.out) _ _ (HY1b.out.below HB.out)
      unfold tx at kC
      go_wp2_with fail
      refine kC.mono ?_
      rintro e w7 ⟨⟨pv1, rfl, hp1, _⟩, hb7⟩
      obtain ⟨pa1, pc1, rfl⟩ := hp1.form
      have HB7 := hide (HB.out.trans (hb7.mono HB.out.size))
      have HP1 := hide hp1
      clear kC hb7 hp1 x0 x1 y0 y1
      have HB7a := hide (fun o => HB7.out.alloc HB7.out.size o)
      have y0 := fun o => (HS0.out _ (HB7a.out o)).2.2.1
      have y1 := fun o => (HS0.out _ (HB7a.out o)).2.2.2
      have HX7 := hide (block_new w7 (.cells #[.string (tx SC.name), .slice pa1 SC.props.length pc1] 38))
      have HP1a := hide (fun o => HP1.out.below (below_box w7 o))
      have kR := fun o => HCR.out (w7.alloc o) _ _ (HY2b.out.below (HB7a.out o))
      unfold tx at kR HX7
      unfold tx
      dsimp only
      go_wp2_with fail
      refine (kR _).mono ?_
      rintro e w8 ⟨⟨pv2, rfl, hp2⟩, hb8⟩
      obtain ⟨pa2, pc2, rfl⟩ := hp2.form
      have HB8 := hide ((HB7a.out _).trans (hb8.mono (HB7a.out _).size))
      have HP2 := hide hp2
      have HX8 := hide (block_stay HX7.out hb8)
      have HP1b := hide ((HP1a.out _).below hb8)
      clear kR hb8 hp2 y0 y1 HX7 HP1a HP1
      have HB9 := hide (HB8.out.alloc HB8.out.size (.cells #[.string ⟨SC.name.toArray⟩, .slice pa2 SC.props.length pc2] 40))
      have HX9 := hide (block_stay HX8.out (below_box w8 (.cells #[.string ⟨SC.name.toArray⟩, .slice pa2 SC.props.length pc2] 40)))
      have HY9 := hide (block_new w8 (.cells #[.string ⟨SC.name.toArray⟩, .slice pa2 SC.props.length pc2] 40))
      have HP1c := hide (HP1b.out.below (below_box w8 (.cells #[.string ⟨SC.name.toArray⟩, .slice pa2 SC.props.length pc2] 40)))
      have HP2c := hide (HP2.out.below (below_box w8 (.cells #[.string ⟨SC.name.toArray⟩, .slice pa2 SC.props.length pc2] 40)))
      clear HP1b HP2 HX8 HB8 HB7a
      unfold tx
      dsimp only
      go_wp2_with fail
      generalize w8.alloc (.cells #[.string ⟨SC.name.toArray⟩, .slice pa2 SC.props.length pc2] 40) = W9 at *
      have HS9 : Hid (∀ W, Below W9.heap.size W9 W → W.cell? ⟨w7.heap.size, 0, none⟩ = some (.string ⟨SC.name.toArray⟩) ∧ W.cell? ⟨w7.heap.size, 1, none⟩ = some (.slice pa1 SC.props.length pc1) ∧ W.cell? ⟨w8.heap.size, 0, none⟩ = some (.string ⟨SC.name.toArray⟩) ∧ W.cell? ⟨w8.heap.size, 1, none⟩ = some (.slice pa2 SC.props.length pc2)) := fun W hW =>
        ⟨cells_of_block (block_stay HX9.out hW) 0 _ rfl, cells_of_block (block_stay HX9.out hW) 1 _ rfl, cells_of_block (block_stay HY9.out hW) 0 _ rfl, cells_of_block (block_stay HY9.out hW) 1 _ rfl⟩
      have z3 := HS9.out W9.drew (Below.refl _ _).drew
      have HBd : Hid (Below W9.heap.size W9 W9.drew) := (Below.refl _ _).drew
      have HW9 := hide (HB3.out.trans (HB9.out.mono HB3.out.size))
      have kP := HPR.out W9.drew _ _ (HP1c.out.below HBd.out)
      go_region_held_law (fun w' => w'.cell? ⟨w7.heap.size, 0, none⟩ = some (.string ⟨SC.name.toArray⟩) ∧ w'.cell? ⟨w7.heap.size, 1, none⟩ = some (.slice pa1 SC.props.length pc1) ∧ w'.cell? ⟨w8.heap.size, 0, none⟩ = some (.string ⟨SC.name.toArray⟩) ∧ w'.cell? ⟨w8.heap.size, 1, none⟩ = some (.slice pa2 SC.props.length pc2))
        (first | assumption | exact ⟨by assumption, by assumption, by assumption, by assumption⟩ | go_keep)
        (first
          | (go_at_call 11; refine kP.mono ?_; rintro e w15 ⟨⟨v5, rfl, hown⟩, hb5⟩; have HB15 : Hid (Below W9.heap.size W9 w15) := HBd.out.trans (hb5.mono HBd.out.size); have HA5 := hide (hown.arg HP1c.out.1); obtain ⟨a5, c5, hv5⟩ := row_form hown; subst hv5; have z0 := HS9.out w15 HB15.out; clear hown hb5)
          | (go_at_call 10; refine (HSM.out w15 _ _ _ HA5.out (HP2c.out.below HB15.out)).mono ?_; rintro e w16 ⟨rfl, hb6⟩; have HB16 : Hid (Below W9.heap.size W9 w16) := HB15.out.trans (hb6.mono HB15.out.size); have z1 := HS9.out w16 HB16.out; clear hb6)
          | (go_at_call 14; refine (HAL.out w16 (HM.out.below (HW9.out.trans (HB16.out.mono HW9.out.size)))).mono ?_; rintro e w17 ⟨rfl, hb7⟩; have HB17 : Hid (Below W9.heap.size W9 w17) := HB16.out.trans (hb7.mono HB16.out.size); have z4 := HS9.out w17 HB17.out; clear hb7))
      all_goals
        go_wp2
        go_ret
        exact ⟨rfl, HW9.out.trans (HB17.out.mono HW9.out.size)⟩
theorem walk (x : ByteArray) (hx : x.size ≤ maxLen) (p : ByteArray) (hp : p.size ≤ maxLen) (W : World) (hsh : W.ShapedOpen Tryd.prog) (hL : laidMetH Tryd.prog Rows.confReadsRow.laid W) :
    Calls Tryd.prog 3 #[.string x, .string p] W fun e w' => e = .returned (.bool true) ∧ Below W.heap.size W w' := by
  by_cases h : p.size ≤ 4096
  · have := core W (mx_of_shape hsh) x.data.toList p.data.toList (by rw [← size_list]; unfold maxLen at hx; omega) (by rw [← size_list]; exact h)
    rwa [tx_data, tx_data] at this
  · have hI : (4096 : Int) < (p.size : Int) := by omega
    clear hL hsh hx
    unfold maxLen at hp
    go_enter Tryd.func3, Tryd.ntmps3
    go_wp2
    go_ret
    exact ⟨rfl, Below.refl _ _⟩
theorem own : ownKnob Tryd.prog.godebug = none := by kernel_rfl
theorem laidOut : laidOutB Tryd.prog = true := by kernel_rfl
set_option maxRecDepth 100000 in
theorem lifted (os : Os) (started : os.Started) (H : Type) (enc : TypeId × Value → H) :
    ReturnsInHanded {} Tryd.checked os 3 .any (fun w args => (Rows.confReadsSpec.pre enc Tryd.prog Tryd.f3 Rows.confReadsRow.domain false w args ∧ laidMetH Tryd.prog Rows.confReadsRow.laid w) ∧ sizedMet enc Tryd.prog Tryd.f3 (OpenSpec.ofChange Rows.confReadsSpec) false w args)
      (Rows.confReadsSpec.post enc Tryd.prog Tryd.f3 false true false false) := by
  refine wrap_and_shaped (C := Tryd.checked) (X := fun w _ => laidMetH Tryd.prog Rows.confReadsRow.laid w) (fun _ _ _ hh h => h.of_heap hh) own started (by kernel_rfl) Tryd.func3
    (ChangeSpec.witness_shaped (enc := enc) (C := Tryd.checked) (os := os) (X := fun w _ => laidMetH Tryd.prog Rows.confReadsRow.laid w) false (World.laidAll Tryd.prog os Rows.confReadsRow.laid) #[.string ByteArray.empty, .string ByteArray.empty] 8 (World.laidAll_os _ _ _)
      (World.shaped_of_ZipB (by kernel_rfl) (by kernel_rfl)) (by kernel_rfl) (by kernel_rfl) (by kernel_rfl)
      (by rw [MakeChecks.laidMetH_plain _ _ _ (by kernel_rfl)]; exact laidMet_laidAll _ (by kernel_rfl) (by kernel_rfl))) ?_
  intro W base args ds gs before hval0 hW hcnd hz hL hsh
  have hval : ∀ (j : Nat) t v, Tryd.f3.params[j]? = some t → args[j]? = some v → Value.okWide Tryd.prog W .any base t v := hval0
  have hW' := hW
  obtain ⟨p, q, hA0, hV, rfl, hfz, hnd⟩ := hW
  have hA : DataW.TrodAll enc Tryd.prog W 0 (fun _ => true) true Tryd.f3.params.toList args.toList ds p := hA0
  rw [Tryd.params3] at hA hval
  obtain ⟨v0, vs0, d0, ds0, p0, q0, hargs, rfl, rfl, h0, r0⟩ := trodAll_cons hA
  obtain ⟨v1, vs1, d1, ds1, p1, q1, rfl, rfl, rfl, h1, r1⟩ := trodAll_cons r0
  obtain ⟨rfl, rfl, rfl⟩ := trodAll_nil r1
  obtain rfl : args = #[v0, v1] := by cases args; simp_all
  obtain ⟨rfl, rfl⟩ := trodVars_none hV
  have k0 := h0
  have lt0 : ∀ x ∈ p0, x.block < W.heap.size := by obtain ⟨m, hm⟩ := k0; exact DataW.trod_lt m _ _ _ hm
  have k1 := h1
  have lt1 : ∀ x ∈ p1, x.block < W.heap.size := by obtain ⟨m, hm⟩ := k1; exact DataW.trod_lt m _ _ _ hm
  obtain ⟨a0, rfl, rfl, rfl, w0⟩ := open_string Tryd.underlying9 (hval 0 9 v0 rfl rfl) h0
  obtain ⟨a1, rfl, rfl, rfl, w1⟩ := open_string Tryd.underlying9 (hval 1 9 v1 rfl rfl) h1
  clear hA0 hval0
  refine (walk a0 w0 a1 w1 W hsh hL).mono fun e W' ⟨he, bel⟩ => ?_
  subst he
  exact ⟨_, rfl, _, _, _, [], _, [], hW', trodAll_mk1 (shut_bool Tryd.underlying4 _), (trodAll_cons_mk (Below.trod laidOut (by kernel_rfl) (of_decide_eq_true (by kernel_rfl)) k0 bel lt0) (trodAll_cons_mk (Below.trod laidOut (by kernel_rfl) (of_decide_eq_true (by kernel_rfl)) k1 bel lt1) trodAll_mk0)), rfl, bel.frame _, fun h => by cases h⟩

theorem over : Rows.confReadsRow.holds Tryd.pinned (OpenSpec.ofChange Rows.confReadsSpec) :=
  OpenClaim.holds_of_wide 3 Tryd.f3 rfl rfl rfl rfl rfl rfl rfl ⟨rfl, rfl, rfl, rfl, rfl⟩ rfl rfl rfl rfl rfl (by kernel_rfl) Tryd.func3 (by kernel_rfl)
    (of_decide_eq_true (by kernel_rfl)) (by unfold Func.isWrapper; first | (rw [if_pos (by decide +kernel)]; kernel_rfl) | (rw [if_neg (by decide +kernel)]; exact ⟨rfl, rfl⟩))
    (fun os started H enc _ => lifted os started H enc)

theorem card : Claim7.holds Tryd.pinned (.plain (OpenSpec.ofChange Rows.confReadsSpec)) Rows.confReadsCard :=
  Claim7.holds_tied_plain_at .later [] [.data, .pinned] true (true, "eb07dbec49a8a1946eec2d17a25fdca3c68a579a6d3af342861f4b402f0f9484") false over (fun _ h => by cases h) (by kernel_rfl) (fun _ h => by cases h) confReads_row_tie rfl ⟨rfl, rfl⟩ (by kernel_rfl) rfl
    (fun f fn hf hfn => by
      obtain rfl : f = 3 := Option.some.inj ((show Tryd.prog.funcNamed Rows.confReadsRow.func = some 3 by kernel_rfl).symm.trans hf) |>.symm
      obtain rfl : fn = Tryd.f3 := (Option.some.inj (Tryd.func3.symm.trans hfn)).symm
      exact ⟨by kernel_rfl, fun j t ht => by
        rw [Tryd.params3] at ht
        have hm : t ∈ [9] := by simpa using Array.mem_of_getElem? ht
        have hall : ([9].all fun u => !Tryd.prog.wantsStandIn u) = true := by kernel_rfl
        exact (show Tryd.prog.wantsStandIn t = false by simpa using List.all_eq_true.1 hall t hm)⟩)
    (by kernel_rfl)
end LConfReads
theorem ConfReads_proved : Rows.ConfReadsCardSaid := LConfReads.card
end Go.Proofs.YtmcefflgbliehaaDoor
