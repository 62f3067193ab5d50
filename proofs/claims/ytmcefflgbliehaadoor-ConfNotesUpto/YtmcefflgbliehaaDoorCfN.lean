
/-
  Layer 18 (conf): the chapter's example (alive).
-/
import Derived.Test.YtmcefflgbliehaaDoorCfL
set_option linter.unusedVariables false
namespace Go.Proofs.YtmcefflgbliehaaDoor
open Go.RowKit Go.PlainAid Go.Sort
def al1 : List UInt8 := [100, 105, 114, 46, 97, 32, 61, 32, 47, 115, 121, 115, 116, 101, 109, 10, 91, 97, 93, 10, 120, 32, 61, 32, 49, 32, 35, 32, 111, 110, 101, 10, 120, 32, 43, 61, 32, 50, 10]
def alP : Pr := ⟨[120], [49, 58, 50], 4⟩
def alF : Cf := ⟨[⟨[97], [47, 115, 121, 115, 116, 101, 109], 1⟩], [⟨[97], [alP]⟩]⟩
theorem al_parse : parseC al1 = (alF, 0, 0) := by kernel_rfl
theorem al_choose : chooseC alF [47, 115, 121, 115, 116, 101, 109, 47, 98, 105, 110, 47, 97, 112, 112] = (⟨[97], [alP]⟩, 0) := by kernel_rfl
theorem al_getV : getV [alP] [120] = [49, 58, 50] := by kernel_rfl
theorem al_getB : getB [alP] [120] = true := by kernel_rfl
theorem al_bad : parseC [10, 120] = (noCf, 2, 180) := by kernel_rfl
set_option maxHeartbeats 4000000 in
set_option maxRecDepth 20000 in
theorem alive18 (w : World) (hm : Mx w) : Calls Tryd.prog 14 #[] w fun e w' => e = .returned (.bool true) ∧ Below w.heap.size w w' := by
  have h1 := conf_Parse w hm al1 (by decide)
  rw [al_parse] at h1
  have h2 := fun W hW dv sv (h : CfIs W dv sv alF) => conf_Choose W hW dv sv alF h [47, 115, 121, 115, 116, 101, 109, 47, 98, 105, 110, 47, 97, 112, 112] (by decide)
  simp only [al_choose] at h2
  have h3 := fun W v (h : ArgP W v [alP]) => conf_Get W (tx [97]) v [alP] h [120]
  simp only [al_getV, al_getB] at h3
  have h4 := fun W hW => conf_Parse W hW [10, 120] (by decide)
  simp only [al_bad] at h4
  have HM := hide hm
  unfold al1 tx at *
  clear hm
  go_enter Tryd.func14, Tryd.ntmps14
  go_wp2_with fail
  refine h1.mono ?_
  rintro e w1 ⟨⟨dv, sv, rfl, hcf⟩, hb1⟩
  obtain ⟨da, dc, hdv⟩ := hcf.1.form
  obtain ⟨ss, hss, hx⟩ := hcf.2
  obtain ⟨sa, sc, hsv⟩ := hx.form
  subst hdv hsv
  have HCF := hide hcf
  have HB1 := hide hb1
  clear h1 hcf hb1 hss hx
  go_wp2_with fail
  have HB2 := hide (fun o => HB1.out.alloc HB1.out.size o)
  refine (h2 _ (HM.out.below (HB2.out _)) _ _ (HCF.out.below (below_box _ _))).mono ?_
  rintro e w3 ⟨⟨pv, rfl, hpv, _⟩, hb3⟩
  have HB3 := hide ((HB2.out _).trans (hb3.mono (HB2.out _).size))
  obtain ⟨pa, pc, hpf⟩ := hpv.form
  subst hpf
  have HPV := hide hpv
  clear h2 hpv hb3 HCF HB1 HB2
  go_wp2_with fail
  have HB4 := hide (fun o => HB3.out.alloc HB3.out.size o)
  refine (h3 _ _ (HPV.out.below (below_box _ _))).mono ?_
  rintro e w4 ⟨rfl, hb4⟩
  have HS4 := hide (block_stay (block_new w3 _) hb4)
  have HB5 := hide ((HB4.out _).trans (hb4.mono (HB4.out _).size))
  clear hb4 h3 HPV HB3 HB4
  go_wp2_with fail
  refine (h4 w4 (HM.out.below HB5.out)).mono ?_
  rintro e w5 ⟨⟨dv2, sv2, rfl, hcf2⟩, hb5⟩
  obtain ⟨da2, dc2, hdv2⟩ := hcf2.1.form
  obtain ⟨ss2, _, hx2⟩ := hcf2.2
  obtain ⟨sa2, sc2, hsv2⟩ := hx2.form
  subst hdv2 hsv2
  have s0 : w5.cell? ⟨w3.heap.size, 0, none⟩ = some (.string ⟨#[97]⟩) := cells_of_block (block_stay HS4.out hb5) 0 _ rfl
  have s1 : ∀ o, (w5.alloc o).cell? ⟨w3.heap.size, 0, none⟩ = some (.string ⟨#[97]⟩) := fun o => cells_of_block (block_stay (block_stay HS4.out hb5) (below_box w5 o)) 0 _ rfl
  have HB6 := hide (HB5.out.trans (hb5.mono HB5.out.size))
  clear hb5 h4 hcf2 hx2 HS4 HB5
  go_wp2
  go_ret
  exact ⟨rfl, HB6.out.alloc HB6.out.size _⟩
end Go.Proofs.YtmcefflgbliehaaDoor
