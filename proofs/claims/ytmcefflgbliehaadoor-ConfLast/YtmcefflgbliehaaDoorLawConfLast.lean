
/-
  ConfLast returns true for every configuration and every line behind it: no condition (the listed tables of unicode/utf8 are tied to the program's text, and never read; internal/bytealg.MaxLen is whatever it is).
-/
import Derived.Test.YtmcefflgbliehaaDoorRows
import Derived.Test.YtmcefflgbliehaaDoorCards
import Derived.Test.YtmcefflgbliehaaDoorTie
import Derived.Test.YtmcefflgbliehaaDoorCfEa
import Derived.Test.YtmcefflgbliehaaDoorDoorK
import Derived.WalkKit
import Derived.ProofKit
import Derived.OpenShut
import Derived.ShutString
import Derived.ChangeOld
import Derived.ChangeSlices
import Derived.Below
import Derived.LaidMore
import Derived.Lay
import Derived.SevenTiedAt
import Derived.Stop.Joined
set_option linter.unusedVariables false
namespace Go.Proofs.YtmcefflgbliehaaDoor
namespace LConfLast
open Go.ChangeShapes Go.WideShapes Go.ChangeAt Go.RowKit Go.PlainAid Go.Sort
open Go.ChangeMaps (open_string shut_string)
theorem last_two {A : List Sx} {x : Sx} {ss2 : List Sx} {t : Td} {k : Int} (h2 : ss2.map Sx.sc = tellS ((A ++ [x]).map Sx.sc) t k) : ss2.length = A.length + 1 ∧ ∃ x2, ss2[A.length]? = some x2 ∧ x2.props = tellC x.props t k := by
  rw [← tellS_last A x t k (.slice none 0 0)] at h2
  have hl := congrArg List.length h2
  simp only [List.length_map, List.length_append, List.length_singleton] at hl
  refine ⟨hl, ?_⟩
  have hg := congrArg (fun l => l[A.length]?) h2
  simp only [List.getElem?_map] at hg
  rw [List.getElem?_append_right (Nat.le_refl _), Nat.sub_self] at hg
  cases h : ss2[A.length]? with
  | none => rw [h] at hg; cases hg
  | some x2 =>
    rw [h] at hg
    simp only [Option.map_some, List.getElem?_cons_zero, Option.some.injEq] at hg
    exact ⟨x2, rfl, congrArg Sc.props hg⟩
/-- The value that is asked for. -/
def wantV (m bb : Bool) (ov va : List UInt8) : List UInt8 := if m = true ∧ bb = true ∧ ov ≠ [] then ov ++ [58] ++ va else va
theorem told_facts {ps qs : List Pr} {nm va : List UInt8} {m : Bool} {kk : Int} (h : qs = tellC ps ⟨nm, va, m⟩ kk) (hb : betwC nm = [58]) : (getB qs nm = true ∧ getV qs nm = wantV m (getB ps nm) (getV ps nm) va) ∧ ∀ q, q ≠ nm → qs.find? (isP q) = ps.find? (isP q) := by
  subst h
  have := tell_get ps ⟨nm, va, m⟩ kk
  simp only [hb] at this
  exact ⟨this, fun q hq => tell_other ps ⟨nm, va, m⟩ kk q hq⟩
def wantB (m bb : Bool) (ov : List UInt8) (zv : ByteArray) : ByteArray := if m = true ∧ bb = true ∧ ov ≠ [] then tx ov ++ ⟨#[58]⟩ ++ zv else zv
theorem want_no {m bb : Bool} {ov : List UInt8} (zv : ByteArray) (h : m = false ∨ bb = false ∨ ov = []) : wantB m bb ov zv = zv := by
  unfold wantB
  rw [if_neg]
  rcases h with h | h | h <;> simp [h]
theorem want_yes {ov : List UInt8} (zv : ByteArray) (h : ov ≠ []) : wantB true true ov zv = tx ov ++ ⟨#[58]⟩ ++ zv := by
  unfold wantB
  rw [if_pos ⟨rfl, rfl, h⟩]
theorem getV_le (l : List Pr) (nm : List UInt8) (M : Nat) (h : ∀ p ∈ l, p.value.length ≤ M) : (getV l nm).length ≤ M := by
  unfold getV
  cases hf : l.find? (isP nm) with
  | none => simp
  | some p => simpa using h p (List.mem_of_find?_eq_some hf)
theorem now_is (zv : ByteArray) (va : List UInt8) (hz : zv.data.toList = va) {qs : List UInt8} {m bb : Bool} {ov : List UInt8} (h : qs = wantV m bb ov va) : tx qs = wantB m bb ov zv := by
  have hzv : zv = tx va := by rw [← hz, tx_data]
  rw [h]
  unfold wantV wantB
  split
  · rw [hzv, show (⟨#[58]⟩ : ByteArray) = tx [58] from rfl, tx_append, tx_append]
  · exact hzv.symm
theorem keep_is {ps qs : List Pr} {nm : List UInt8} {p : Pr} (hn : Nd ps) (hp : p ∈ ps) (h : ∀ q, q ≠ nm → qs.find? (isP q) = ps.find? (isP q)) : p.name ≠ nm → getB qs p.name = true ∧ getV qs p.name = p.value := fun hq => by
  have := h p.name hq
  rw [nd_find hn hp] at this
  unfold getB getV
  rw [this]
  exact ⟨rfl, rfl⟩
set_option maxHeartbeats 8000000 in
set_option maxRecDepth 20000 in
theorem core (w : World) (hm : Mx w) (a nm va : List UInt8) (m : Bool) (ha : a.length ≤ 8000) (hn : nm.length ≤ 100) (hv : va.length ≤ 1000) (h4 : nameC nm = true) (h5 : Lib.hasSuffix nm linksN = false) (h6 : nm ≠ spacesN) :
    Calls Tryd.prog 6 #[.agg (xC a nm va m)] w fun e w' => e = .returned (.bool true) ∧ Below w.heap.size w w' := by
  have HB0 := hide (below_box w (.cells (xC a nm va m) 57))
  have HX0 := hide (block_new w (.cells (xC a nm va m) 57))
  have hN := fun w => ref18_Name (tx nm) w (by rw [tx_size]; omega)
  have hE := fun w => ref18_Ends (tx nm) (tx linksN) w (by rw [tx_size]; omega) (by decide)
  simp only [data_tx] at hN hE
  rw [h4] at hN
  rw [h5] at hE
  have h6e : (nm == spacesN) = false := by simpa using h6
  have hP1 := fun W (hW : Mx W) => conf_Parse W hW a (by omega)
  have HM := hide hm
  have HNC := hide h4
  have HBT : Hid (betwC nm = [58]) := by unfold Hid betwC; rw [if_neg (by simp [h6, h5])]
  have hslen : (signOf m).length ≤ 4 := by cases m <;> decide
  have HL2 : Hid ((a ++ 10 :: (nm ++ signOf m ++ va ++ [10])).length ≤ 16384) := by
    unfold Hid; simp only [List.length_append, List.length_cons, List.length_nil]; omega
  have hP2 := fun W (hW : Mx W) => conf_Parse W hW (a ++ 10 :: (nm ++ signOf m ++ va ++ [10])) (by have := HL2.out; omega)
  have HST : Hid (tx (a ++ 10 :: (nm ++ signOf m ++ va ++ [10])) = tx a ++ ⟨#[10]⟩ ++ tx nm ++ tx (signOf m) ++ tx va ++ ⟨#[10]⟩) := by
    rw [Hid, show (⟨#[10]⟩ : ByteArray) = tx [10] from rfl, tx_append, tx_append, tx_append, tx_append, tx_append]
    congr 1
    simp
  rw [HST.out] at hP2
  have HAL := hide (fun W (hW : Mx W) => alive18 W hW)
  have i1 : ¬ (8000 : Int) < (a.length : Int) := by omega
  have i2 : ¬ (100 : Int) < (nm.length : Int) := by omega
  have i3 : ¬ (1000 : Int) < (va.length : Int) := by omega
  have HLA := hide ha
  have HLN := hide hn
  have HLV := hide hv
  clear hm h4 h5 ha hn hv hslen
  unfold linksN at hE
  unfold spacesN at h6 h6e
  unfold xC at *
  obtain ⟨zv, hzv⟩ : ∃ zv : ByteArray, tx va = zv := ⟨_, rfl⟩
  have HZD : Hid (zv.data.toList = va) := by rw [Hid, ← hzv, data_tx]
  have hzs : zv.size = va.length := by rw [← hzv, tx_size]
  rw [hzv] at HB0 hP2 ⊢
  rw [← hzs] at i3
  have HZS := hide hzs
  clear hzv HX0 hzs HST
  unfold tx at HB0 hN hE hP1 hP2 ⊢
  go_enter Tryd.func6, Tryd.ntmps6
  go_wp2_with fail
  go_quiet (fail)
  go_wp2_with (first
    | (go_at_call 19; refine (hN _).mono ?_; rintro e w1 ⟨rfl, rfl⟩)
    | (go_at_call 20; refine (hE _).mono ?_; rintro e w1 ⟨rfl, rfl⟩))
  have HW0 := hide (bel_drewN HB0.out nq)
  clear hN hE HB0 h6 h6e i1 i2
  generalize (w.alloc (.cells #[.string ⟨a.toArray⟩, .string ⟨nm.toArray⟩, .string zv, .bool m] 57)).drewN nq = W0 at *
  go_loop [7] (fun vi => ∃ k : Nat, vi = .int .i64 k ∧ k ≤ zv.size ∧ Hid ((va.take k).all vB = true)) (fun vi => zv.size - (intOf vi).toNat)
  case atStart => exact ⟨0, rfl, by omega, by simp [Hid]⟩
  case round =>
    obtain ⟨k, rfl, hk, HP⟩ := hrel
    by_cases hlt : k < zv.size
    · have hltI : (k : Int) < (zv.size : Int) := by omega
      obtain ⟨c, hc⟩ : ∃ c, zv[k]'hlt = c := ⟨_, rfl⟩
      have HC : Hid (va.getD k 0 = c) := by rw [Hid, ← HZD.out, ← get_list zv k hlt, hc]
      have hcl := c.toNat_lt
      have hvi := vB_int c
      clear hP1 hP2
      cases hb : vB c with
      | false =>
        rw [hb] at hvi
        have hr := hvi.mp rfl
        clear hvi hb
        have hr2 : ((c.toNat : Int) ≤ 32) ∨ (¬ (c.toNat : Int) ≤ 32 ∧ (126 : Int) < c.toNat) ∨ (¬ (c.toNat : Int) ≤ 32 ∧ ¬ (126 : Int) < c.toNat ∧ (c.toNat : Int) = 35) := by omega
        rcases hr2 with a1 | ⟨a1, a2⟩ | ⟨a1, a2, a3⟩
        all_goals
          go_wp2
          go_ret
          exact ⟨rfl, HW0.out⟩
      | true =>
        have hr : ¬ (c.toNat : Int) ≤ 32 ∧ ¬ (126 : Int) < c.toNat ∧ ¬ (c.toNat : Int) = 35 := by
          rw [hb] at hvi
          have : ¬ ((c.toNat : Int) ≤ 32 ∨ (126 : Int) < c.toNat ∨ (c.toNat : Int) = 35) := fun h => by have := hvi.mpr h; cases this
          omega
        obtain ⟨a1, a2, a3⟩ := hr
        have a4 : ((c.toNat : Int) == 35) = false := by simp; omega
        have HT := hide hb
        clear hvi hb
        go_wp2
        go_round
        case rel => exact ⟨k + 1, by go_num, by omega, by rw [Hid, all_take_snoc vB va k (by rw [← HZS.out]; exact hlt), HP.out, HC.out, HT.out]; rfl⟩
        case measure => simp [intOf]; omega
    · have hltI : ¬ (k : Int) < (zv.size : Int) := by omega
      have hpe : k = zv.size := by omega
      have HV : Hid (∀ c ∈ va, vB c = true) := by
        have := HP.out
        rw [hpe, HZS.out, List.take_length] at this
        exact List.all_eq_true.1 this
      clear hpe HP hk i3
      obtain ⟨T1, hT1⟩ : ∃ T, parseC a = T := ⟨_, rfl⟩
      obtain ⟨T2, hT2⟩ : ∃ T, parseC (a ++ 10 :: (nm ++ signOf m ++ va ++ [10])) = T := ⟨_, rfl⟩
      have HT1 := hide hT1
      have HT2 := hide hT2
      simp only [hT1] at hP1
      simp only [hT2] at hP2
      obtain ⟨F1, L1, E1⟩ := T1
      obtain ⟨F2, L2, E2⟩ := T2
      have z1 : (⟨#[10]⟩ : ByteArray).size = 1 := rfl
      have z2 : (⟨#[32, 61, 32]⟩ : ByteArray).size = 3 := rfl
      have z3 : (⟨#[32, 43, 61, 32]⟩ : ByteArray).size = 4 := rfl
      have i1 : a.length ≤ 8000 := HLA.out
      have i2 : nm.length ≤ 100 := HLN.out
      have i3 : zv.size ≤ 1000 := by rw [HZS.out]; exact HLV.out
      clear hT1 hT2
      cases m
      all_goals
        simp only [signOf, if_true, Bool.false_eq_true, if_false] at hP2
        go_wp2_with fail
        refine (hP1 _ (HM.out.below HW0.out)).mono ?_
        rintro e w1 ⟨⟨dv1, sv1, rfl, hcf1⟩, hb1⟩
        obtain ⟨hd1, ss1, hs1, hx1⟩ := hcf1
        obtain ⟨da1, dc1, hdv1⟩ := hd1.form
        obtain ⟨sa1, sc1, hsv1⟩ := hx1.form
        subst hdv1 hsv1
        have HB1 := hide (HW0.out.trans (hb1.mono HW0.out.size))
        have HX1 := hide hx1
        have HS1 := hide hs1
        clear hP1 hb1 hx1 hs1 hd1
        have HB1a := hide (fun o => HB1.out.alloc HB1.out.size o)
        go_wp2_with fail
        refine (hP2 _ (HM.out.below (HB1a.out _))).mono ?_
        rintro e w2 ⟨⟨dv2, sv2, rfl, hcf2⟩, hb2⟩
        obtain ⟨hd2, ss2, hs2, hx2⟩ := hcf2
        obtain ⟨da2, dc2, hdv2⟩ := hd2.form
        obtain ⟨sa2, sc2, hsv2⟩ := hx2.form
        subst hdv2 hsv2
        have HB2 := hide ((HB1a.out _).trans (hb2.mono (HB1a.out _).size))
        have HX2 := hide hx2
        have HS2 := hide hs2
        have HF1 := hide (block_stay (block_new w1 (.cells #[.slice da1 F1.dirs.length dc1, .slice sa1 ss1.length sc1] 25)) hb2)
        have HY1 := hide ((HX1.out.below (below_box w1 (.cells #[.slice da1 F1.dirs.length dc1, .slice sa1 ss1.length sc1] 25))).below hb2)
        clear hP2 hb2 hx2 hs2 hd2 HX1 HB1 HB1a z1 z2 z3
        have HB3 := hide (HB2.out.alloc HB2.out.size (.cells #[.slice da2 F2.dirs.length dc2, .slice sa2 ss2.length sc2] 25))
        have HF1b := hide (block_stay HF1.out (below_box w2 (.cells #[.slice da2 F2.dirs.length dc2, .slice sa2 ss2.length sc2] 25)))
        have HF2b := hide (block_new w2 (.cells #[.slice da2 F2.dirs.length dc2, .slice sa2 ss2.length sc2] 25))
        have c1 : ∀ o, (w2.alloc o).cell? ⟨w1.heap.size, 1, none⟩ = some (.slice sa1 ss1.length sc1) := fun o => cells_of_block (block_stay HF1.out (below_box w2 o)) 1 _ rfl
        have kA := HAL.out _ (HM.out.below HB3.out)
        have HFF := hide HF1.out
        clear HF1
        by_cases hE1 : E1 = 0
        · subst hE1
          rcases List.eq_nil_or_concat ss1 with hss | ⟨A, x, hss⟩
          · subst hss
            go_wp2_with (go_at_call 14; refine kA.mono ?_; rintro e w9 ⟨rfl, b9⟩)
            go_ret
            exact ⟨rfl, HB3.out.trans (b9.mono HB3.out.size)⟩
          · rw [List.concat_eq_append] at hss
            have hFs : F1.secs ≠ [] := by rw [← HS1.out, hss]; simp
            have hp0 : parseC a = (F1, 0, 0) := by
              have := parse_ok a (by rw [HT1.out])
              rw [HT1.out] at this ⊢
              exact this
            obtain ⟨kk, hk⟩ := parse_more hp0 hFs HNC.out va _ HV.out HL2.out
            rw [HT2.out] at hk
            injection hk with hkF hk2
            injection hk2 with hkL hkE
            subst hkF hkL hkE
            have hs2 := HS2.out
            simp only [] at hs2
            rw [← HS1.out, hss] at hs2
            obtain ⟨hl2, x2, hx2g, hx2p⟩ := last_two hs2
            have hl1 : ss1.length = A.length + 1 := by rw [hss]; simp
            have hx1g : ss1[A.length]? = some x := by rw [hss]; simp
            have hmem : x.sc ∈ F1.secs := by rw [← HS1.out]; exact List.mem_map_of_mem (List.mem_of_getElem? hx1g)
            have HND : Hid (Nd x.props) := by have := parse_nd a; rw [HT1.out] at this; exact this x.sc hmem
            have HVL : Hid (∀ p ∈ x.props, p.value.length ≤ 1000000000) := by have := parse_vl a HLA.out; rw [HT1.out] at this; exact this x.sc hmem
            obtain ⟨htg, hto⟩ := told_facts hx2p HBT.out
            have HTG := hide htg
            have HTO := hide hto
            have hn1 : A.length < ss1.length := by omega
            have hn2 : A.length < ss2.length := by omega
            have hxe1 : ss1[A.length]'hn1 = x := by rw [List.getElem?_eq_getElem hn1] at hx1g; injection hx1g
            have hxe2 : ss2[A.length]'hn2 = x2 := by rw [List.getElem?_eq_getElem hn2] at hx2g; injection hx2g
            have hnb : A.length ≤ 100000 := by have := HY1.out.1; omega
            obtain ⟨g1, o1, hga1, ca1, cb1, gl1, r0, r1⟩ := HY1.out.at A.length hn1
            obtain ⟨g2, o2, hga2, ca2, cb2, gl2, u0, u1⟩ := HX2.out.at A.length hn2
            rw [hxe1] at r0 r1
            rw [hxe2] at u0 u1
            have hap1 := HY1.out.2.1 x (List.mem_of_getElem? hx1g)
            have hap2 := HX2.out.2.1 x2 (List.mem_of_getElem? hx2g)
            subst hga1 hga2
            clear hx1g hx2g hxe1 hxe2 hmem hs2 hss hp0 hFs HT1 HT2 HS1 HS2 htg hto hx2p HY1 HX2
            generalize A.length = n at *
            obtain ⟨pa1, pc1, hpv1⟩ := hap1.form
            obtain ⟨pa2, pc2, hpv2⟩ := hap2.form
            rw [hpv1] at hap1 r1
            rw [hpv2] at hap2 u1
            have HAP1 := hide hap1
            have HAP2 := hide hap2
            have hw : IntKind.i64.wrap (n : Int) = (n : Int) := by rw [wrap_i64_is]; omega
            have HRU : Hid (∀ W, Below w2.heap.size w2 W → W.cell? ⟨g1, o1 + n * 2, none⟩ = some (.string (tx x.name)) ∧ W.cell? ⟨g1, o1 + n * 2 + 1, none⟩ = some (.slice pa1 x.props.length pc1) ∧ W.cell? ⟨g2, o2 + n * 2, none⟩ = some (.string (tx x2.name)) ∧ W.cell? ⟨g2, o2 + n * 2 + 1, none⟩ = some (.slice pa2 x2.props.length pc2) ∧ W.cell? ⟨w1.heap.size, 1, none⟩ = some (.slice (some ⟨g1, o1, none⟩) (n + 1) sc1)) := fun W hW =>
              ⟨(hW.cell (p := ⟨g1, _, none⟩) gl1).trans r0, (hW.cell (p := ⟨g1, _, none⟩) gl1).trans r1, (hW.cell (p := ⟨g2, _, none⟩) gl2).trans u0, (hW.cell (p := ⟨g2, _, none⟩) gl2).trans u1, by rw [← hl1]; exact cells_of_block (block_stay HFF.out hW) 1 _ rfl⟩
            have r0a := fun o => (HRU.out _ (below_box w2 o)).1
            have r1a := fun o => (HRU.out _ (below_box w2 o)).2.1
            have u0a := fun o => (HRU.out _ (below_box w2 o)).2.2.1
            have u1a := fun o => (HRU.out _ (below_box w2 o)).2.2.2.1
            unfold tx at r0a u0a
            clear hap1 hap2 r0 r1 u0 u1
            go_wp2_with fail
            generalize hW3 : w2.alloc (.cells #[.slice da2 F1.dirs.length dc2, .slice (some ⟨g2, o2, none⟩) (n + 1) sc2] 25) = W3 at *
            have HW3 : Hid (Below w2.heap.size w2 W3) := by rw [Hid, ← hW3]; exact below_box _ _
            have HF2c : Hid (W3.heap[w2.heap.size]? = some (.cells #[.slice da2 F1.dirs.length dc2, .slice (some ⟨g2, o2, none⟩) (n + 1) sc2] 25 (0, 0))) := by rw [Hid, ← hW3]; exact block_new _ _
            have HB3c : Hid (Below w.heap.size w W3) := by rw [Hid, ← hW3]; exact HB2.out.alloc HB2.out.size _
            clear hW3 r0a r1a u0a u1a c1 kA HB3 HF1b HF2b
            have hG1 := conf_Get W3 (tx x.name) _ x.props (HAP1.out.below HW3.out) nm
            have HLE := hide (getV_le x.props nm _ HVL.out)
            have HTW := hide (now_is zv va HZD.out HTG.out.2)
            have HTB := hide HTG.out.1
            generalize getV x.props nm = ov at *
            generalize getB x.props nm = bb at *
            unfold tx at hG1
            refine hG1.mono ?_
            rintro e W4 ⟨rfl, hb4⟩
            have HW4 := hide (HW3.out.trans (hb4.mono HW3.out.size))
            have HF2d := hide (block_stay HF2c.out hb4)
            have HB4 := hide (HB3c.out.trans (hb4.mono HB3c.out.size))
            clear hG1 hb4 HF2c HB3c HW3
            obtain ⟨q0, q1, q2, q3, q4⟩ := HRU.out W4 HW4.out
            have q5 : W4.cell? ⟨w2.heap.size, 1, none⟩ = some (.slice (some ⟨g2, o2, none⟩) (n + 1) sc2) := cells_of_block HF2d.out 1 _ rfl
            have hG2 := conf_Get W4 (tx x2.name) _ x2.props (HAP2.out.below HW4.out) nm
            rw [HTW.out, HTB.out] at hG2
            unfold tx at q0 q2 hG2
            go_wp2_with fail
            refine hG2.mono ?_
            rintro e W5 ⟨rfl, hb5⟩
            have HW5 := hide (HW4.out.trans (hb5.mono HW4.out.size))
            have HF2e := hide (block_stay HF2d.out hb5)
            have HB5 := hide (HB4.out.trans (hb5.mono HB4.out.size))
            clear hG2 hb5 HF2d HB4 HW4 q0 q1 q2 q3 q4 q5
            obtain ⟨q0, q1, q2, q3, q4⟩ := HRU.out W5 HW5.out
            have q5 : W5.cell? ⟨w2.heap.size, 1, none⟩ = some (.slice (some ⟨g2, o2, none⟩) (n + 1) sc2) := cells_of_block HF2e.out 1 _ rfl
            have ov1 : ov.length ≤ 1000000000 := HLE.out
            have HPL : Hid (x.props.length ≤ 100000) := HAP1.out.1
            have hcs : ((bb = false ∨ ov = []) ∧ True) ∨ (bb = true ∧ ov ≠ []) := by
              cases bb with
              | false => exact .inl ⟨.inl rfl, trivial⟩
              | true => by_cases e : ov = []; exact .inl ⟨.inr e, trivial⟩; exact .inr ⟨rfl, e⟩
            have z1 : (⟨#[58]⟩ : ByteArray).size = 1 := rfl
            rcases hcs with ⟨hcs, _⟩ | ⟨rfl, hov⟩
            · rw [want_no zv (.inr hcs)]
              have hov2 : bb = false ∨ ov.isEmpty = true := by rcases hcs with h | h; exact .inl h; exact .inr (by rw [h]; rfl)
              have hov3 : bb = false ∨ (bb = true ∧ ov = []) := by
                cases bb with
                | false => exact .inl rfl
                | true => rcases hcs with h | h; cases h; exact .inr ⟨rfl, h⟩
              clear hcs hov2 HTW
              rcases hov3 with rfl | ⟨rfl, rfl⟩
              all_goals
                go_wp2_with fail
                go_loopw [21, 22, 23, 24] (fun vi _ _ _ wr => ∃ i : Nat, i ≤ x.props.length ∧ vi = .int .i64 i ∧ Hid (Below W5.heap.size W5 wr)) (fun vi _ _ _ _ => x.props.length - (intOf vi).toNat)
                case atStart => exact ⟨0, by omega, rfl, Below.refl _ _⟩
                case round =>
                  obtain ⟨i, hi, rfl, HB⟩ := hrel
                  have HWr := hide (HW5.out.trans (HB.out.mono HW5.out.size))
                  have HBr := hide (HB5.out.trans (HB.out.mono HB5.out.size))
                  have HFr := hide (block_stay HF2e.out HB.out)
                  obtain ⟨q0, q1, q2, q3, q4⟩ := HRU.out wr HWr.out
                  by_cases hlt : i < x.props.length
                  · have hltI : (i : Int) < (x.props.length : Int) := by omega
                    obtain ⟨g, o, hpa, pca, pcb, gl, d0, d1, d2⟩ := (HAP1.out.below HWr.out).at i hlt
                    subst hpa
                    have hmem := List.getElem_mem hlt
                    obtain ⟨p, hp⟩ : ∃ p, x.props[i] = p := ⟨_, rfl⟩
                    rw [hp] at d0 d1 d2 hmem
                    have hG := fun W (hW : Below w2.heap.size w2 W) => conf_Get W (tx x2.name) _ x2.props (HAP2.out.below hW) p.name
                    have HKE := hide (keep_is HND.out hmem HTO.out)
                    obtain ⟨gv, hgv⟩ : ∃ gv, getV x2.props p.name = gv := ⟨_, rfl⟩
                    obtain ⟨gb, hgb⟩ : ∃ gb, getB x2.props p.name = gb := ⟨_, rfl⟩
                    simp only [hgv, hgb] at hG
                    have HGV := hide hgv
                    have HGB := hide hgb
                    clear hp hmem hgv hgb
                    unfold tx at d0 d1 hG
                    go_wp2_with fail
                    generalize hW6 : wr.alloc (.cells #[.string ⟨p.name.toArray⟩, .string ⟨p.value.toArray⟩, .int .i64 p.line] 60) = W6 at *
                    have HW6 : Hid (Below wr.heap.size wr W6) := by rw [Hid, ← hW6]; exact below_box _ _
                    have HX6 : Hid (W6.heap[wr.heap.size]? = some (.cells #[.string ⟨p.name.toArray⟩, .string ⟨p.value.toArray⟩, .int .i64 p.line] 60 (0, 0))) := by rw [Hid, ← hW6]; exact block_new _ _
                    have HV6 := hide (HWr.out.trans (HW6.out.mono HWr.out.size))
                    have HT6 := hide (HB.out.trans (HW6.out.mono HB.out.size))
                    clear hW6 q0 q1 q2 q3 q4 d0 d1 d2
                    obtain ⟨q0, q1, q2, q3, q4⟩ := HRU.out W6 HV6.out
                    unfold tx at q2
                    have k2 := cell_regrown q2
                    have k3 := cell_regrown q3
                    have k5 := cell_regrown (w := W6) (cells_of_block (block_stay HFr.out HW6.out) 1 (.slice (some ⟨g2, o2, none⟩) (n + 1) sc2) rfl)
                    have k0 := cell_regrown (w := W6) (cells_of_block HX6.out 0 (.string ⟨p.name.toArray⟩) rfl)
                    have hn0 : (0 : Int) ≤ (n : Int) ∧ (n : Int) < (n : Int) + 1 := ⟨by omega, by omega⟩
                    have hG6 := fun d os => hG (grow (redrawn W6 d) os) (HV6.out.trans ((below_regrown W6 d os).mono HV6.out.size))
                    clear q0 q1 q2 q3 q4 hG
                    refine wp_region_quiet_below (by kernel_rfl) (by kernel_rfl) ?_
                    repeat (go_big_quiet_step (exact Calls.regrown_of (hG6 _ _)))
                    refine wpQuiet_nil ?_
                    intro _ hw'
                    obtain ⟨⟨dq, osq⟩, hw''⟩ := hw'
                    subst hw''
                    have HB7 : Hid (Below W5.heap.size W5 (grow (redrawn W6 dq) osq)) := HT6.out.trans ((below_regrown W6 dq osq).mono HT6.out.size)
                    have v0 : (grow (redrawn W6 dq) osq).cell? ⟨wr.heap.size, 0, none⟩ = some (.string ⟨p.name.toArray⟩) := k0 dq osq
                    have v1 : (grow (redrawn W6 dq) osq).cell? ⟨wr.heap.size, 1, none⟩ = some (.string ⟨p.value.toArray⟩) := cell_regrown (w := W6) (cells_of_block HX6.out 1 (.string ⟨p.value.toArray⟩) rfl) dq osq
                    clear k0 k2 k3 k5 hG6
                    simp only [] at HB7 v0 v1 ⊢
                    generalize grow (redrawn W6 dq) osq = W7 at *
                    by_cases hq : p.name = nm
                    · have hq2 : (p.name == nm) = true := by simpa using hq
                      go_wp2
                      go_roundw
                      case rel => exact ⟨i + 1, by omega, by go_num, HB7.out⟩
                      case measure => simp [intOf]; omega
                    · have hq2 : (p.name == nm) = false := by simpa using hq
                      have hk := HKE.out hq
                      rw [HGV.out, HGB.out] at hk
                      obtain ⟨rfl, rfl⟩ := hk
                      go_wp2
                      go_roundw
                      case rel => exact ⟨i + 1, by omega, by go_num, HB7.out⟩
                      case measure => simp [intOf]; omega
                  · have hltI : ¬ (i : Int) < (x.props.length : Int) := by omega
                    have kA := HAL.out wr (HM.out.below HBr.out)
                    go_wp2_with (go_at_call 14; refine kA.mono ?_; rintro e w9 ⟨rfl, b9⟩)
                    go_ret
                    exact ⟨rfl, HBr.out.trans (b9.mono HBr.out.size)⟩
            · have hovE := empty_of hov
              first
                | rw [want_yes zv hov]
                | rw [want_no zv (.inl rfl)]
              try unfold tx
              clear HTW
              go_wp2_with fail
              go_loopw [21, 22, 23, 24] (fun vi _ _ _ wr => ∃ i : Nat, i ≤ x.props.length ∧ vi = .int .i64 i ∧ Hid (Below W5.heap.size W5 wr)) (fun vi _ _ _ _ => x.props.length - (intOf vi).toNat)
              case atStart => exact ⟨0, by omega, rfl, Below.refl _ _⟩
              case round =>
                obtain ⟨i, hi, rfl, HB⟩ := hrel
                have HWr := hide (HW5.out.trans (HB.out.mono HW5.out.size))
                have HBr := hide (HB5.out.trans (HB.out.mono HB5.out.size))
                have HFr := hide (block_stay HF2e.out HB.out)
                obtain ⟨q0, q1, q2, q3, q4⟩ := HRU.out wr HWr.out
                by_cases hlt : i < x.props.length
                · have hltI : (i : Int) < (x.props.length : Int) := by omega
                  obtain ⟨g, o, hpa, pca, pcb, gl, d0, d1, d2⟩ := (HAP1.out.below HWr.out).at i hlt
                  subst hpa
                  have hmem := List.getElem_mem hlt
                  obtain ⟨p, hp⟩ : ∃ p, x.props[i] = p := ⟨_, rfl⟩
                  rw [hp] at d0 d1 d2 hmem
                  have hG := fun W (hW : Below w2.heap.size w2 W) => conf_Get W (tx x2.name) _ x2.props (HAP2.out.below hW) p.name
                  have HKE := hide (keep_is HND.out hmem HTO.out)
                  obtain ⟨gv, hgv⟩ : ∃ gv, getV x2.props p.name = gv := ⟨_, rfl⟩
                  obtain ⟨gb, hgb⟩ : ∃ gb, getB x2.props p.name = gb := ⟨_, rfl⟩
                  simp only [hgv, hgb] at hG
                  have HGV := hide hgv
                  have HGB := hide hgb
                  clear hp hmem hgv hgb
                  unfold tx at d0 d1 hG
                  go_wp2_with fail
                  generalize hW6 : wr.alloc (.cells #[.string ⟨p.name.toArray⟩, .string ⟨p.value.toArray⟩, .int .i64 p.line] 60) = W6 at *
                  have HW6 : Hid (Below wr.heap.size wr W6) := by rw [Hid, ← hW6]; exact below_box _ _
                  have HX6 : Hid (W6.heap[wr.heap.size]? = some (.cells #[.string ⟨p.name.toArray⟩, .string ⟨p.value.toArray⟩, .int .i64 p.line] 60 (0, 0))) := by rw [Hid, ← hW6]; exact block_new _ _
                  have HV6 := hide (HWr.out.trans (HW6.out.mono HWr.out.size))
                  have HT6 := hide (HB.out.trans (HW6.out.mono HB.out.size))
                  clear hW6 q0 q1 q2 q3 q4 d0 d1 d2
                  obtain ⟨q0, q1, q2, q3, q4⟩ := HRU.out W6 HV6.out
                  unfold tx at q2
                  have k2 := cell_regrown q2
                  have k3 := cell_regrown q3
                  have k5 := cell_regrown (w := W6) (cells_of_block (block_stay HFr.out HW6.out) 1 (.slice (some ⟨g2, o2, none⟩) (n + 1) sc2) rfl)
                  have k0 := cell_regrown (w := W6) (cells_of_block HX6.out 0 (.string ⟨p.name.toArray⟩) rfl)
                  have hn0 : (0 : Int) ≤ (n : Int) ∧ (n : Int) < (n : Int) + 1 := ⟨by omega, by omega⟩
                  have hG6 := fun d os => hG (grow (redrawn W6 d) os) (HV6.out.trans ((below_regrown W6 d os).mono HV6.out.size))
                  clear q0 q1 q2 q3 q4 hG
                  refine wp_region_quiet_below (by kernel_rfl) (by kernel_rfl) ?_
                  repeat (go_big_quiet_step (exact Calls.regrown_of (hG6 _ _)))
                  refine wpQuiet_nil ?_
                  intro _ hw'
                  obtain ⟨⟨dq, osq⟩, hw''⟩ := hw'
                  subst hw''
                  have HB7 : Hid (Below W5.heap.size W5 (grow (redrawn W6 dq) osq)) := HT6.out.trans ((below_regrown W6 dq osq).mono HT6.out.size)
                  have v0 : (grow (redrawn W6 dq) osq).cell? ⟨wr.heap.size, 0, none⟩ = some (.string ⟨p.name.toArray⟩) := k0 dq osq
                  have v1 : (grow (redrawn W6 dq) osq).cell? ⟨wr.heap.size, 1, none⟩ = some (.string ⟨p.value.toArray⟩) := cell_regrown (w := W6) (cells_of_block HX6.out 1 (.string ⟨p.value.toArray⟩) rfl) dq osq
                  clear k0 k2 k3 k5 hG6
                  simp only [] at HB7 v0 v1 ⊢
                  generalize grow (redrawn W6 dq) osq = W7 at *
                  by_cases hq : p.name = nm
                  · have hq2 : (p.name == nm) = true := by simpa using hq
                    go_wp2
                    go_roundw
                    case rel => exact ⟨i + 1, by omega, by go_num, HB7.out⟩
                    case measure => simp [intOf]; omega
                  · have hq2 : (p.name == nm) = false := by simpa using hq
                    have hk := HKE.out hq
                    rw [HGV.out, HGB.out] at hk
                    obtain ⟨rfl, rfl⟩ := hk
                    go_wp2
                    go_roundw
                    case rel => exact ⟨i + 1, by omega, by go_num, HB7.out⟩
                    case measure => simp [intOf]; omega
                · have hltI : ¬ (i : Int) < (x.props.length : Int) := by omega
                  have kA := HAL.out wr (HM.out.below HBr.out)
                  go_wp2_with (go_at_call 14; refine kA.mono ?_; rintro e w9 ⟨rfl, b9⟩)
                  go_ret
                  exact ⟨rfl, HBr.out.trans (b9.mono HBr.out.size)⟩
        · have e1 : (E1 != 0) = true := by simpa using hE1
          have e2 : (E1 == 0) = false := by simpa using hE1
          go_wp2_with (go_at_call 14; refine kA.mono ?_; rintro e w9 ⟨rfl, b9⟩)
          go_ret
          exact ⟨rfl, HB3.out.trans (b9.mono HB3.out.size)⟩
theorem cells4L : Tryd.prog.cellsOf 57 = 4 := by kernel_rfl
theorem cellsSL : Tryd.prog.cellsOf 9 = 1 := by kernel_rfl
theorem cellsBL : Tryd.prog.cellsOf 4 = 1 := by kernel_rfl
theorem fourL {l : List Value} (h : l.length = 4) : ∃ a b c d, l = [a, b, c, d] := by
  match l, h with
  | [a, b, c, d], _ => exact ⟨a, b, c, d, rfl⟩
section
variable {H : Type} {enc : TypeId × Value → H}
theorem opAgg_of {W : World} {cs : Array Value} {d : DataW H} {p : List MemPlace}
    (h : DataW.Trod enc Tryd.prog W 0 (fun _ => true) true 57 (.agg cs) d p) : ∃ (x : ByteArray × ByteArray × ByteArray) (m : Bool), cs = #[.string x.1, .string x.2.1, .string x.2.2, .bool m] ∧ (x.1.size ≤ maxLen ∧ x.2.1.size ≤ maxLen ∧ x.2.2.size ≤ maxLen) ∧ True := by
  obtain ⟨fuel, h2⟩ := h
  have h2 : DataW.trod enc Tryd.prog W 0 (fun _ => true) true fuel 57 cs.toList = some (d, p) := h2
  obtain ⟨xs, n, _, _, hlen, hl4, hf⟩ := DataW.trod_struct Tryd.underlying57 h2
  rw [cells4L] at hlen
  obtain ⟨v0, v1, v2, v3, hcs⟩ := fourL hlen
  rw [hcs] at hf
  match xs, hl4 with
  | [y0, y1, y2, y3], _ =>
    have g0 : DataW.trod enc Tryd.prog W 0 (fun _ => true) true n 9 [v0] = some y0 := by have := hf 0 _ rfl; simpa [cellsSL] using this
    have g1 : DataW.trod enc Tryd.prog W 0 (fun _ => true) true n 9 [v1] = some y1 := by have := hf 1 _ rfl; simpa [cellsSL] using this
    have g2 : DataW.trod enc Tryd.prog W 0 (fun _ => true) true n 9 [v2] = some y2 := by have := hf 2 _ rfl; simpa [cellsSL] using this
    have g3 : DataW.trod enc Tryd.prog W 0 (fun _ => true) true n 4 [v3] = some y3 := by have := hf 3 _ rfl; simpa [cellsSL, cellsBL] using this
    obtain ⟨s0, q0, _, b0⟩ := DataW.trod_string Tryd.underlying9 g0
    obtain ⟨s1, q1, _, b1⟩ := DataW.trod_string Tryd.underlying9 g1
    obtain ⟨s2, q2, _, b2⟩ := DataW.trod_string Tryd.underlying9 g2
    obtain ⟨m3, q3, _⟩ := DataW.trod_bool Tryd.underlying4 g3
    simp only [List.cons.injEq, and_true] at q0 q1 q2 q3
    subst q0 q1 q2 q3
    refine ⟨(s0, s1, s2), m3, ?_, ⟨b0, b1, b2⟩, trivial⟩
    apply Array.toList_inj.1
    rw [hcs]
end
theorem walk (W : World) (x : ByteArray × ByteArray × ByteArray) (m : Bool) (hx : x.1.size ≤ maxLen ∧ x.2.1.size ≤ maxLen ∧ x.2.2.size ≤ maxLen) (_ : True) (hsh : W.ShapedOpen Tryd.prog) (hL : laidMetH Tryd.prog Rows.confLastRow.laid W) :
    Calls Tryd.prog 6 #[.agg #[.string x.1, .string x.2.1, .string x.2.2, .bool m]] W fun e w' => e = .returned (.bool true) ∧ Below W.heap.size W w' := by
  obtain ⟨s0, s1, s2⟩ := x
  obtain ⟨b0, b1, b2⟩ := hx
  simp only [] at b0 b1 b2 ⊢
  rw [size_list] at b0 b1 b2
  unfold maxLen at b0 b1 b2
  have key : ∀ (a nm va : List UInt8), a.length ≤ 9223372036854775807 → nm.length ≤ 9223372036854775807 → va.length ≤ 9223372036854775807 →
      Calls Tryd.prog 6 #[.agg (xC a nm va m)] W fun e w' => e = .returned (.bool true) ∧ Below W.heap.size W w' := by
    intro a nm va ha hn hv
    by_cases hc : 8000 < a.length ∨ 100 < nm.length ∨ 1000 < va.length ∨ nameC nm = false ∨ Lib.hasSuffix nm linksN = true ∨ nm = spacesN
    · exact early W a nm va m ha hn hv hc
    · simp only [not_or] at hc
      obtain ⟨h1, h2, h3, h4, h5, h6⟩ := hc
      exact core W (mx_of_shape hsh) a nm va m (by omega) (by omega) (by omega) (by simpa using h4) (by simpa using h5) h6
  have := key s0.data.toList s1.data.toList s2.data.toList (by omega) (by omega) (by omega)
  unfold xC at this
  rwa [tx_data, tx_data, tx_data] at this
theorem own : ownKnob Tryd.prog.godebug = none := by kernel_rfl
theorem laidOut : laidOutB Tryd.prog = true := by kernel_rfl
set_option maxRecDepth 100000 in
theorem lifted (os : Os) (started : os.Started) (H : Type) (enc : TypeId × Value → H) :
    ReturnsInHanded {} Tryd.checked os 6 .any (fun w args => (Rows.confLastSpec.pre enc Tryd.prog Tryd.f6 Rows.confLastRow.domain false w args ∧ laidMetH Tryd.prog Rows.confLastRow.laid w) ∧ sizedMet enc Tryd.prog Tryd.f6 (OpenSpec.ofChange Rows.confLastSpec) false w args)
      (Rows.confLastSpec.post enc Tryd.prog Tryd.f6 false true false false) := by
  refine wrap_and_shaped (C := Tryd.checked) (X := fun w _ => laidMetH Tryd.prog Rows.confLastRow.laid w) (fun _ _ _ hh h => h.of_heap hh) own started (by kernel_rfl) Tryd.func6
    (ChangeSpec.witness_shaped (enc := enc) (C := Tryd.checked) (os := os) (X := fun w _ => laidMetH Tryd.prog Rows.confLastRow.laid w) false (World.laidAll Tryd.prog os Rows.confLastRow.laid) #[.agg #[.string ByteArray.empty, .string ByteArray.empty, .string ByteArray.empty, .bool false]] 8 (World.laidAll_os _ _ _)
      (World.shaped_of_ZipB (by kernel_rfl) (by kernel_rfl)) (by kernel_rfl) (by kernel_rfl) (by kernel_rfl)
      (by rw [MakeChecks.laidMetH_plain _ _ _ (by kernel_rfl)]; exact laidMet_laidAll _ (by kernel_rfl) (by kernel_rfl))) ?_
  intro W base args ds gs before hval0 hW hcnd hz hL hsh
  have hval : ∀ (j : Nat) t v, Tryd.f6.params[j]? = some t → args[j]? = some v → Value.okWide Tryd.prog W .any base t v := hval0
  have hW' := hW
  obtain ⟨p, q, hA0, hV, rfl, hfz, hnd⟩ := hW
  have hA : DataW.TrodAll enc Tryd.prog W 0 (fun _ => true) true Tryd.f6.params.toList args.toList ds p := hA0
  rw [Tryd.params6] at hA hval
  obtain ⟨v0, vs0, d0, ds0, p0, q0, hargs, rfl, rfl, h0, r0⟩ := trodAll_cons hA
  obtain ⟨rfl, rfl, rfl⟩ := trodAll_nil r0
  obtain rfl : args = #[v0] := by cases args; simp_all
  obtain ⟨rfl, rfl⟩ := trodVars_none hV
  have k0 := h0
  have lt0 : ∀ x ∈ p0, x.block < W.heap.size := by obtain ⟨m, hm⟩ := k0; exact DataW.trod_lt m _ _ _ hm
  obtain ⟨cs0, rfl, _⟩ := okWide_struct Tryd.underlying57 (hval 0 57 v0 rfl rfl)
  obtain ⟨x0, vd0, rfl, o0, s0⟩ := opAgg_of h0
  clear hA0 hval0
  refine (walk W x0 vd0 o0 s0 hsh hL).mono fun e W' ⟨he, bel⟩ => ?_
  subst he
  exact ⟨_, rfl, _, _, _, [], _, [], hW', trodAll_mk1 (shut_bool Tryd.underlying4 _), (trodAll_cons_mk (Below.trod laidOut (by kernel_rfl) (of_decide_eq_true (by kernel_rfl)) k0 bel lt0) trodAll_mk0), rfl, bel.frame _, fun h => by cases h⟩

theorem over : Rows.confLastRow.holds Tryd.pinned (OpenSpec.ofChange Rows.confLastSpec) :=
  OpenClaim.holds_of_wide 6 Tryd.f6 rfl rfl rfl rfl rfl rfl rfl ⟨rfl, rfl, rfl, rfl, rfl⟩ rfl rfl rfl rfl rfl (by kernel_rfl) Tryd.func6 (by kernel_rfl)
    (of_decide_eq_true (by kernel_rfl)) (by unfold Func.isWrapper; first | (rw [if_pos (by decide +kernel)]; kernel_rfl) | (rw [if_neg (by decide +kernel)]; exact ⟨rfl, rfl⟩))
    (fun os started H enc _ => lifted os started H enc)

theorem card : Claim7.holds Tryd.pinned (.plain (OpenSpec.ofChange Rows.confLastSpec)) Rows.confLastCard :=
  Claim7.holds_tied_plain_at .later [] [.data, .pinned] true (true, "eb07dbec49a8a1946eec2d17a25fdca3c68a579a6d3af342861f4b402f0f9484") false over (fun _ h => by cases h) (by kernel_rfl) (fun _ h => by cases h) confLast_row_tie rfl ⟨rfl, rfl⟩ (by kernel_rfl) rfl
    (fun f fn hf hfn => by
      obtain rfl : f = 6 := Option.some.inj ((show Tryd.prog.funcNamed Rows.confLastRow.func = some 6 by kernel_rfl).symm.trans hf) |>.symm
      obtain rfl : fn = Tryd.f6 := (Option.some.inj (Tryd.func6.symm.trans hfn)).symm
      exact ⟨by kernel_rfl, fun j t ht => by
        rw [Tryd.params6] at ht
        have hm : t ∈ [57] := by simpa using Array.mem_of_getElem? ht
        have hall : ([57].all fun u => !Tryd.prog.wantsStandIn u) = true := by kernel_rfl
        exact (show Tryd.prog.wantsStandIn t = false by simpa using List.all_eq_true.1 hall t hm)⟩)
    (by kernel_rfl)
end LConfLast
theorem ConfLast_proved : Rows.ConfLastCardSaid := LConfLast.card
end Go.Proofs.YtmcefflgbliehaaDoor
