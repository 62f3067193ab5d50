
/-
  Layer 18 (conf): Expand.
-/
import Derived.Test.YtmcefflgbliehaaDoorCfT
import Derived.Test.YtmcefflgbliehaaDoorCfU
import Derived.Test.YtmcefflgbliehaaDoorCfD
import Derived.Test.YtmcefflgbliehaaDoorShelfW
set_option linter.unusedVariables false
namespace Go.Proofs.YtmcefflgbliehaaDoor
open Go.RowKit Go.PlainAid Go.Sort
set_option maxHeartbeats 1000000 in
theorem conf_meaning (l : List UInt8) (n : Int) (w : World) (h1 : -9223372036854775808 ≤ n) (h2 : n ≤ 9223372036854775807) :
    Calls Tryd.prog 37 #[.string (tx l), .int .i64 n] w fun e w' => e = .returned (.tuple #[.string (tx (meanT (levT n) l)), .bool (meanB l)]) ∧ Below w.heap.size w w' := by
  have hT := tn_Text n w h1 h2
  unfold meanT meanB
  generalize levT n = lv at *
  by_cases ha : l = libW
  · subst ha
    rw [if_pos rfl]
    show Calls Tryd.prog 37 #[.string ⟨#[76, 73, 66]⟩, .int .i64 n] w fun e w' => e = .returned (.tuple #[.string ⟨#[108, 105, 98, 54, 52]⟩, .bool true]) ∧ Below w.heap.size w w'
    go_enter Tryd.func37, Tryd.ntmps37
    go_wp2
    go_ret2
    exact ⟨rfl, Below.refl _ _⟩
  · rw [if_neg ha]
    have hae : (l == libW) = false := by simpa using ha
    by_cases hb : l = levW
    · subst hb
      rw [if_pos rfl]
      unfold tx at hT ⊢
      show Calls Tryd.prog 37 #[.string ⟨#[76, 69, 86, 69, 76]⟩, .int .i64 n] w fun e w' => e = .returned (.tuple #[.string ⟨lv.toArray⟩, .bool true]) ∧ Below w.heap.size w w'
      go_enter Tryd.func37, Tryd.ntmps37
      go_wp2_with (go_at_call 61; refine hT.mono ?_; rintro e w1 ⟨rfl, hb⟩)
      go_ret2
      exact ⟨rfl, hb⟩
    · rw [if_neg hb]
      have hbe : (l == levW) = false := by simpa using hb
      rw [hae, hbe]
      unfold libW at hae ha
      unfold levW at hbe hb
      clear hT
      unfold tx
      go_enter Tryd.func37, Tryd.ntmps37
      go_wp2
      go_ret2
      exact ⟨rfl, Below.refl _ _⟩
def expT (lv l : List UInt8) : List UInt8 := (expO lv l).getD []
def expE (lv l : List UInt8) : Int := if (expO lv l).isSome then 0 else 192
theorem cut_len2 (l sep : List UInt8) (h : (Lib.cut l sep).2.2 = true) : (Lib.cut l sep).1.length + sep.length + (Lib.cut l sep).2.1.length = l.length := by
  unfold Lib.cut at h ⊢
  by_cases hi : 0 ≤ Lib.index l sep
  · rw [if_pos hi]
    obtain ⟨i, hik⟩ := Int.eq_ofNat_of_zero_le hi
    have hb := Lib.index_room l sep hi
    rw [hik] at hb ⊢
    simp only [Int.toNat_natCast, List.length_take, List.length_drop]
    omega
  · rw [if_neg hi] at h; cases h
theorem meanT_le (n : Int) (wd : List UInt8) : (meanT (levT n) wd).length ≤ 20 := by
  unfold meanT
  split
  · decide
  · split
    · exact levT_le n
    · simp
/-- What holds at each round of Expand: l has still to be read, acc lies in the builder. -/
structure ExAt (w wr : World) (n : Int) (l0 l acc : List UInt8) : Prop where
  b : Below w.heap.size w wr
  d : Lib.IsBuilder 81 5 w.heap.size w.heap.size (Lib.byteCells acc) wr
  o : expO (levT n) l0 = (expO (levT n) l).map (acc ++ ·)
  s : acc.length + 20 * l.length ≤ 20 * l0.length
theorem byteCells_app (a b : List UInt8) : Lib.byteCells (a ++ b) = Lib.byteCells a ++ Lib.byteCells b := by simp [Lib.byteCells]
theorem strCells_tx (a : List UInt8) : Lib.strCells (tx a) = Lib.byteCells a := by unfold Lib.strCells Lib.byteCells; rw [data_tx]
theorem bld_keep {T e : TypeId} {B b : Nat} {p : Value} {bs : List Value} {w w' : World} (h : Lib.BuilderAt T e B b p bs w) (hb : Below w.heap.size w w') : Lib.BuilderAt T e B b p bs w' := by
  obtain ⟨h1, v, h2, h3, h4⟩ := h
  exact ⟨h1, v, block_stay h2 hb, row_keep h3 (fun g hg => hb.block g (World.ownsRow.lt h3 g hg).2), h4⟩
theorem isb_keep {T e : TypeId} {B b : Nat} {bs : List Value} {w w' : World} (h : Lib.IsBuilder T e B b bs w) (hb : Below w.heap.size w w') : Lib.IsBuilder T e B b bs w' := by
  rcases h with h | h
  · exact .inl (bld_keep h hb)
  · exact .inr (bld_keep h hb)
theorem isb_lt {T e : TypeId} {B b : Nat} {bs : List Value} {w : World} (h : Lib.IsBuilder T e B b bs w) : b < w.heap.size := by
  rcases h with ⟨_, v, h2, _⟩ | ⟨_, v, h2, _⟩
  · exact block_lt h2
  · exact block_lt h2
theorem tn_Write (B b : Nat) (acc a : List UInt8) (w : World) (h : Lib.IsBuilder 81 5 B b (Lib.byteCells acc) w) (hl : acc.length + a.length ≤ 1000000) (hB : B ≤ w.heap.size) :
    Calls Tryd.prog 35 #[.pointer (some ⟨b, 0, none⟩), .string (tx a)] w fun e w' => e = .returned (.tuple #[.int .i64 (a.length : Nat), .nilIface]) ∧ Lib.IsBuilder 81 5 B b (Lib.byteCells (acc ++ a)) w' ∧ Below B w w' := by
  refine (Tryd.Builder_WriteString B b (Lib.byteCells acc) (tx a) w h (by rw [Lib.byteCells_length, tx_size]; omega) hB).mono ?_
  rintro e w' ⟨rfl, h1, h2⟩
  rw [strCells_tx, ← byteCells_app] at h1
  rw [tx_size]
  exact ⟨rfl, .inr h1, h2⟩
set_option maxHeartbeats 4000000 in
set_option maxRecDepth 20000 in
theorem conf_Expand (w : World) (hm : Mx w) (l0 : List UInt8) (hl0 : l0.length ≤ 40000) (n : Int) (h1 : -9223372036854775808 ≤ n) (h2 : n ≤ 9223372036854775807) :
    Calls Tryd.prog 17 #[.string (tx l0), .int .i64 n] w fun e w' => e = .returned (.tuple #[.string (tx (expT (levT n) l0)), .int .i64 (expE (levT n) l0)]) ∧ Below w.heap.size w w' := by
  have hb0 := below_box w (.cells #[.pointer none, .slice none 0 0] 81)
  have HP0 : Hid (ExAt w (w.alloc (.cells #[.pointer none, .slice none 0 0] 81)) n l0 l0 []) := by
    refine ⟨hb0, .inl ⟨Nat.le_refl _, .slice none 0 0, block_new _ _, World.ownsRow_nil _ _ _ _, fun e => by cases e⟩, ?_, by simp⟩
    cases expO (levT n) l0 <;> simp
  obtain ⟨V, hV⟩ : ∃ V, expT (levT n) l0 = V := ⟨_, rfl⟩
  obtain ⟨E, hE⟩ : ∃ E, expE (levT n) l0 = E := ⟨_, rfl⟩
  rw [hV, hE]
  have HV : Hid ((expO (levT n) l0).getD [] = V) := hV
  have HE : Hid ((if (expO (levT n) l0).isSome then (0 : Int) else 192) = E) := hE
  have HM := hide hm
  have HL := hide hl0
  have HN := hide (And.intro h1 h2)
  clear hV hE hb0 hm h1 h2
  unfold tx
  go_enter Tryd.func17, Tryd.ntmps17
  go_wp2
  go_loopw [0, 7, 8, 9, 10, 11, 12, 13, 14] (fun v0 _ _ _ _ _ _ _ _ wr => ∃ l acc : List UInt8, v0 = .string (tx l) ∧ Hid (ExAt w wr n l0 l acc)) (fun v0 _ _ _ _ _ _ _ _ _ => strLen v0)
  case atStart => exact ⟨l0, [], rfl, HP0.out⟩
  case round =>
    obtain ⟨l, acc, rfl, HP⟩ := hrel
    have hls : l.length ≤ 40000 := by have := HP.out.s; have := HL.out; omega
    have hC := lib_Cut l [36, 123] wr (HM.out.below HP.out.b) (by omega)
    have hcut := expO_cut (levT n) l
    have hcl := cut_len l [36, 123]
    have hc2 := cut_len2 l [36, 123]
    cases hf : (Lib.cut l [36, 123]).2.2 with
    | false =>
      rw [hf] at hC hcut
      rw [if_neg (by simp)] at hcut
      generalize (Lib.cut l [36, 123]).1 = a at *
      generalize (Lib.cut l [36, 123]).2.1 = r at *
      have HR : Hid (acc ++ a = V ∧ E = 0) := by
        have h1 := HP.out.o
        rw [hcut] at h1
        have hv := HV.out
        have he := HE.out
        rw [h1] at hv he
        exact ⟨hv, he.symm⟩
      have HAL : Hid (acc.length + a.length ≤ 1000000) := by have := HP.out.s; have := HL.out; unfold Hid; omega
      clear hcut hc2 hf hcl
      go_wp2_with fail
      refine hC.mono ?_
      rintro e w1 ⟨rfl, hb1⟩
      have HD1 := hide (isb_keep HP.out.d hb1)
      have HB1 := hide (HP.out.b.trans (hb1.mono HP.out.b.size))
      clear hb1 hC
      go_wp2_with fail
      refine (tn_Write _ _ acc a w1 HD1.out HAL.out HB1.out.size).mono ?_
      rintro e w2 ⟨rfl, hd2, hb2⟩
      have HD2 := hide hd2
      have HB2 := hide (HB1.out.trans hb2)
      clear hd2 hb2
      go_wp2_with fail
      refine (Tryd.Builder_String_any _ _ (acc ++ a) w2 HD2.out HB2.out.size).mono ?_
      rintro e w3 ⟨rfl, hb3⟩
      go_wp2
      go_ret2
      rw [← HR.out.1, HR.out.2]
      exact ⟨rfl, HB2.out.trans hb3⟩
    | true =>
      rw [hf] at hC hcut
      rw [if_pos rfl] at hcut
      have hc2 := hc2 hf
      generalize (Lib.cut l [36, 123]).1 = a at *
      generalize (Lib.cut l [36, 123]).2.1 = r at *
      simp only [List.length_cons, List.length_nil] at hc2
      have hC2 := fun w hm => lib_Cut r [125] w hm (by omega)
      have hc3 := cut_len2 r [125]
      have hMe := fun w => conf_meaning (Lib.cut r [125]).1 n w HN.out.1 HN.out.2
      have hml := meanT_le n (Lib.cut r [125]).1
      have HAL : Hid (acc.length + a.length ≤ 1000000) := by have := HP.out.s; have := HL.out; unfold Hid; omega
      have hbod : bodO (levT n) r = if (Lib.cut r [125]).2.2 = true ∧ meanB (Lib.cut r [125]).1 = true then (expO (levT n) (Lib.cut r [125]).2.1).map (meanT (levT n) (Lib.cut r [125]).1 ++ ·) else none := rfl
      by_cases hok : (Lib.cut r [125]).2.2 = true ∧ meanB (Lib.cut r [125]).1 = true
      · rw [if_pos hok] at hbod
        obtain ⟨hk1, hk2⟩ := hok
        rw [hk1] at hC2
        rw [hk2] at hMe
        have hc3 := hc3 hk1
        generalize (Lib.cut r [125]).1 = wd at *
        generalize (Lib.cut r [125]).2.1 = bh at *
        generalize meanT (levT n) wd = m at *
        simp only [List.length_cons, List.length_nil] at hc3
        have HO2 : Hid (expO (levT n) l0 = (expO (levT n) bh).map (acc ++ a ++ m ++ ·)) := by
          rw [Hid, HP.out.o, hcut, hbod, Option.map_map, Option.map_map]
          congr 1
          funext z
          simp
        have HS2 : Hid ((acc ++ a ++ m).length + 20 * bh.length ≤ 20 * l0.length) := by
          have := HP.out.s
          unfold Hid
          rw [List.length_append, List.length_append]
          omega
        have HBL : Hid (bh.length < l.length) := by unfold Hid; omega
        have HAM : Hid ((acc ++ a).length + m.length ≤ 1000000) := by have := HS2.out; have := HL.out; unfold Hid; rw [List.length_append, List.length_append] at *; omega
        clear hcut hbod hc2 hc3 hk1 hk2 hf hcl hml
        go_wp2_with fail
        refine hC.mono ?_
        rintro e w1 ⟨rfl, hb1⟩
        have HD1 := hide (isb_keep HP.out.d hb1)
        have HB1 := hide (HP.out.b.trans (hb1.mono HP.out.b.size))
        clear hb1 hC
        go_wp2_with fail
        refine (tn_Write _ _ acc a w1 HD1.out HAL.out HB1.out.size).mono ?_
        rintro e w2 ⟨rfl, hd2, hb2⟩
        have HD2 := hide hd2
        have HB2 := hide (HB1.out.trans hb2)
        clear hd2 hb2
        go_wp2_with fail
        refine (hC2 w2 (HM.out.below HB2.out)).mono ?_
        rintro e w3 ⟨rfl, hb3⟩
        have HD3 := hide (isb_keep HD2.out hb3)
        have HB3 := hide (HB2.out.trans (hb3.mono HB2.out.size))
        clear hb3 hC2
        go_wp2_with fail
        refine (hMe w3).mono ?_
        rintro e w4 ⟨rfl, hb4⟩
        have HD4 := hide (isb_keep HD3.out hb4)
        have HB4 := hide (HB3.out.trans (hb4.mono HB3.out.size))
        clear hb4 hMe
        go_wp2_with fail
        refine (tn_Write _ _ (acc ++ a) m w4 HD4.out HAM.out HB4.out.size).mono ?_
        rintro e w5 ⟨rfl, hd5, hb5⟩
        have HD5 := hide hd5
        have HB5 := hide (HB4.out.trans hb5)
        clear hd5 hb5
        go_wp2
        go_roundw
        case rel => exact ⟨bh, acc ++ a ++ m, rfl, ⟨HB5.out, HD5.out, HO2.out, HS2.out⟩⟩
        case measure =>
          have := HBL.out
          simp only [strLen, tx_size]
          exact this
      · rw [if_neg hok] at hbod
        have hcs : (Lib.cut r [125]).2.2 = false ∨ ((Lib.cut r [125]).2.2 = true ∧ meanB (Lib.cut r [125]).1 = false) := by
          cases h1 : (Lib.cut r [125]).2.2 with
          | false => exact .inl rfl
          | true =>
            cases h2 : meanB (Lib.cut r [125]).1 with
            | false => exact .inr ⟨rfl, rfl⟩
            | true => exact absurd ⟨h1, h2⟩ hok
        have HR : Hid (([] : List UInt8) = V ∧ E = 192) := by
          have h1 := HP.out.o
          rw [hcut, hbod] at h1
          have hv := HV.out
          have he := HE.out
          rw [h1] at hv he
          exact ⟨hv, he.symm⟩
        generalize (Lib.cut r [125]).2.2 = en at *
        generalize meanB (Lib.cut r [125]).1 = mk at *
        generalize meanT (levT n) (Lib.cut r [125]).1 = m at *
        generalize (Lib.cut r [125]).1 = wd at *
        generalize (Lib.cut r [125]).2.1 = bh at *
        clear hcut hbod hc2 hc3 hf hcl hml hok
        rcases hcs with rfl | ⟨rfl, rfl⟩
        all_goals
          go_wp2_with fail
          refine hC.mono ?_
          rintro e w1 ⟨rfl, hb1⟩
          have HD1 := hide (isb_keep HP.out.d hb1)
          have HB1 := hide (HP.out.b.trans (hb1.mono HP.out.b.size))
          clear hb1 hC
          go_wp2_with fail
          refine (tn_Write _ _ acc a w1 HD1.out HAL.out HB1.out.size).mono ?_
          rintro e w2 ⟨rfl, hd2, hb2⟩
          have HB2 := hide (HB1.out.trans hb2)
          clear hd2 hb2
          go_wp2_with fail
          refine (hC2 w2 (HM.out.below HB2.out)).mono ?_
          rintro e w3 ⟨rfl, hb3⟩
          have HB3 := hide (HB2.out.trans (hb3.mono HB2.out.size))
          clear hb3 hC2
          go_wp2_with fail
          refine (hMe w3).mono ?_
          rintro e w4 ⟨rfl, hb4⟩
          have HB4 := hide (HB3.out.trans (hb4.mono HB3.out.size))
          clear hb4 hMe
          go_wp2
          go_ret2
          rw [← HR.out.1, HR.out.2]
          exact ⟨rfl, HB4.out⟩
end Go.Proofs.YtmcefflgbliehaaDoor
