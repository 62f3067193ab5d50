
/-
  ConfNotes returns true for every text and every row of bools that hold together at most 1048576 values and letters, and both read afterwards as they read before (the second form: the statement splits its text ahead of looking at its length; the listed tables of unicode/utf8 are tied to the program's text, and never read; internal/bytealg.MaxLen is whatever it is).
-/
import Derived.Test.YtmcefflgbliehaaDoorRows
import Derived.Test.YtmcefflgbliehaaDoorCards
import Derived.Test.YtmcefflgbliehaaDoorTie
import Derived.Test.YtmcefflgbliehaaDoorCnA
import Derived.Test.YtmcefflgbliehaaDoorCfN
import Derived.Test.YtmcefflgbliehaaDoorDoorK
import Derived.Deep.DeepHandedRow
import Derived.Deep.Slices
import Derived.WalkKit
import Derived.ProofKit
import Derived.OpenShut
import Derived.ShutString
import Derived.ChangeOld
import Derived.ChangeSlices
import Derived.Below
import Derived.LaidMore
import Derived.Lay
import Derived.SevenTiedAt
import Derived.Stop.Joined
set_option linter.unusedVariables false
namespace Go.Proofs.YtmcefflgbliehaaDoor
namespace LConfNotes
open Go.ChangeShapes Go.WideShapes Go.ChangeAt Go.RowKit Go.PlainAid Go.Sort
open Go.ChangeMaps (open_string shut_string)
/-- What the walk is told of a slice of bools. -/
def IsOps (w : World) (a : Option Addr) (len cap : Nat) : Prop :=
  (a = none ∧ len = 0 ∧ cap = 0) ∨ ∃ x, a = some x ∧ len ≤ cap ∧ cap ≤ maxLen ∧ ∀ i, i < len → ∃ b, w.cell? (x.add i) = some (.bool b)
theorem isOps_of {H : Type} {enc : TypeId × Value → H} {W : World} {s : Option Addr} {len cap : Nat} {d : DataW H} {p : List MemPlace}
    (h : DataW.Trod enc Tryd.prog W 0 (fun _ => true) true 62 (.slice s len cap) d p) : IsOps W s len cap := by
  obtain ⟨fuel, hf⟩ := h
  rcases Go.Deep.open_slice1 Tryd.underlying62 (by kernel_rfl) hf with ⟨hcs, _⟩ | ⟨a, l, c, m, n, V, D, Pl, hcs, _, hl, hm, hmm, _, hx⟩
  · simp [Value.cells] at hcs
    obtain ⟨rfl, rfl, rfl⟩ := hcs
    exact .inl ⟨rfl, rfl, rfl⟩
  · simp [Value.cells] at hcs
    obtain ⟨rfl, rfl, rfl⟩ := hcs
    refine .inr ⟨_, rfl, hl, hm, fun i hi => ?_⟩
    obtain ⟨h1, h2⟩ := hx i (by rw [hmm]; simp; omega)
    obtain ⟨b, q, _⟩ := DataW.trod_bool Tryd.underlying4 h2
    simp only [List.cons.injEq, and_true] at q
    exact ⟨b, by rw [h1, q]⟩
/-- The bools, one behind the other; false behind them. -/
def Bools (w : World) (bf : Nat → Bool) (a : Option Addr) (len : Nat) : Prop :=
  (∀ i, len ≤ i → bf i = false) ∧ ∀ i, i < len → ∃ x : Addr, a = some x ∧ (x.add i).block < w.heap.size ∧ w.cell? (x.add i) = some (.bool (bf i))
theorem bools_of {w : World} {a : Option Addr} {len cap : Nat} (h : IsOps w a len cap) : ∃ bf, Bools w bf a len := by
  have key : ∀ i : Nat, ∃ b : Bool, (len ≤ i → b = false) ∧ (i < len → ∃ x : Addr, a = some x ∧ (x.add i).block < w.heap.size ∧ w.cell? (x.add i) = some (.bool b)) := by
    intro i
    rcases h with ⟨rfl, rfl, rfl⟩ | ⟨x, rfl, _, _, hc⟩
    · exact ⟨false, fun _ => rfl, fun h => by omega⟩
    · by_cases hi : i < len
      · obtain ⟨b, hb⟩ := hc i hi
        have hlt : (x.add i).block < w.heap.size := World.block_lt_of_cell? _ _ hb
        exact ⟨b, fun h => by omega, fun _ => ⟨x, rfl, hlt, hb⟩⟩
      · exact ⟨false, fun _ => rfl, fun h => absurd h hi⟩
  obtain ⟨bf, hbf⟩ := Classical.axiomOfChoice key
  exact ⟨bf, fun i => (hbf i).1, fun i => (hbf i).2⟩
theorem Bools.below {w w' : World} {bf : Nat → Bool} {a : Option Addr} {len : Nat} (h : Bools w bf a len) (hb : Below w.heap.size w w') : Bools w' bf a len :=
  ⟨h.1, fun i hi => by
    obtain ⟨x, h1, h2, h3⟩ := h.2 i hi
    refine ⟨x, h1, Nat.lt_of_lt_of_le h2 hb.size, ?_⟩
    rw [hb.cell h2]; exact h3⟩
def preT (bf : Nat → Bool) (xs : List (List UInt8)) (i : Nat) : List UInt8 := if i = 0 then [] else moreT bf xs i ++ [10]
theorem more_step (bf : Nat → Bool) (xs : List (List UInt8)) (i : Nat) : moreT bf xs (i + 1) = preT bf xs i ++ piece (bf i) (xs.getD i []) := rfl
theorem piece_no (x : List UInt8) : tx (piece false x) = (⟨#[32]⟩ : ByteArray) ++ tx x ++ ⟨#[32, 35, 32, 121]⟩ := by
  rw [show (⟨#[32]⟩ : ByteArray) = tx [32] from rfl, show (⟨#[32, 35, 32, 121]⟩ : ByteArray) = tx ntB from rfl, tx_append, tx_append]; rfl
theorem piece_yes (x : List UInt8) : tx (piece true x) = (⟨#[35, 32, 120, 32, 61, 32, 49, 10, 32, 9, 10]⟩ : ByteArray) ++ ((⟨#[32]⟩ : ByteArray) ++ tx x ++ ⟨#[32, 35, 32, 121]⟩) := by
  rw [show (⟨#[32]⟩ : ByteArray) = tx [32] from rfl, show (⟨#[32, 35, 32, 121]⟩ : ByteArray) = tx ntB from rfl, show (⟨#[35, 32, 120, 32, 61, 32, 49, 10, 32, 9, 10]⟩ : ByteArray) = tx (ntA ++ 10 :: (ntC ++ [10])) from rfl, tx_append, tx_append, tx_append]; rfl
theorem same_secs {F G : Cf} (h : erF F = erF G) : F.dirs.length = G.dirs.length ∧ F.secs.length = G.secs.length ∧ ∀ i (h1 : i < F.secs.length) (h2 : i < G.secs.length), F.secs[i].name = G.secs[i].name ∧ F.secs[i].props.length = G.secs[i].props.length ∧
    ∀ k (h3 : k < F.secs[i].props.length) (h4 : k < G.secs[i].props.length), F.secs[i].props[k].name = G.secs[i].props[k].name ∧ F.secs[i].props[k].value = G.secs[i].props[k].value := by
  unfold erF at h
  injection h with hd hs
  have hdl := congrArg List.length hd
  have hsl := congrArg List.length hs
  rw [List.length_map, List.length_map] at hdl hsl
  refine ⟨hdl, hsl, fun i h1 h2 => ?_⟩
  have hi := congrArg (fun l => l[i]?) hs
  simp only [List.getElem?_map, List.getElem?_eq_getElem h1, List.getElem?_eq_getElem h2, Option.map_some, Option.some.injEq] at hi
  unfold erS at hi
  injection hi with hn hp
  have hpl := congrArg List.length hp
  rw [List.length_map, List.length_map] at hpl
  refine ⟨hn, hpl, fun k h3 h4 => ?_⟩
  have hk := congrArg (fun l => l[k]?) hp
  simp only [List.getElem?_map, List.getElem?_eq_getElem h3, List.getElem?_eq_getElem h4, Option.map_some, Option.some.injEq] at hk
  unfold erP at hk
  injection hk with e1 e2
  exact ⟨e1, e2⟩
set_option maxHeartbeats 4000000 in
set_option maxRecDepth 20000 in
theorem core (w : World) (hm : Mx w) (l : List UInt8) (hl : l.length ≤ 1048576) (a : Option Addr) (len cap : Nat) (bf : Nat → Bool) (hb : Bools w bf a len) (hlen : len ≤ 9223372036854775807) (hcap : cap ≤ 9223372036854775807) :
    Calls Tryd.prog 7 #[.string (tx l), .slice a len cap] w fun e w' => e = .returned (.bool true) ∧ Below w.heap.size w w' := by
  have hSp := ref_Split (tx l) 10 10 rfl w (by rw [tx_size]; omega)
  rw [data_tx] at hSp
  have HM := hide hm
  have HBL := hide hb
  have HXP := hide (List.length_pos_iff.2 (sp_ne 10 l))
  have HXL := hide (sp_len 10 l)
  have HXM := hide (sp_le 10 l)
  have HLE := hide (more_le bf l)
  have HNS := hide (notes_same bf l)
  have hSX : ∃ xs, sp 10 l = xs := ⟨_, rfl⟩
  obtain ⟨xs, hxs⟩ := hSX
  rw [hxs] at hSp HXP HXL HXM HLE HNS
  have HL := hide hl
  clear hm hb hxs
  unfold tx at hSp ⊢
  go_enter Tryd.func7, Tryd.ntmps7
  go_wp2_with fail
  refine hSp.mono ?_
  rintro e w1 ⟨v, rfl, hown, hb1⟩
  obtain ⟨L, c, hv, hc1, hc2⟩ := row_pos hown (by rw [List.length_map]; exact HXP.out)
  rw [List.length_map] at hv hc1
  subst hv
  have HB1 := hide hb1
  have HO := hide hown
  have hcI : c ≤ 9223372036854775807 := by unfold maxLen at hc2; omega
  clear hSp hown hb1 hc2
  by_cases hbig : 4000 < l.length ∨ 100 < xs.length
  · have hcs : (4000 : Int) < (l.length : Int) ∨ (¬ (4000 : Int) < (l.length : Int) ∧ (100 : Int) < (xs.length : Int)) := by omega
    clear hbig
    rcases hcs with i1 | ⟨i1, i2⟩
    all_goals
      go_wp2
      go_ret
      exact ⟨rfl, HB1.out⟩
  · have i1 : ¬ (4000 : Int) < (l.length : Int) := by omega
    have i2 : ¬ (100 : Int) < (xs.length : Int) := by omega
    have h1 : l.length ≤ 4000 := by omega
    have h2 : xs.length ≤ 100 := by omega
    have HLM := hide (HLE.out h1 h2)
    have HN2 := hide (HNS.out h1 h2)
    have HXT : Hid (∀ x ∈ xs, x.length ≤ 4000) := fun x hx => by have := HXM.out x hx; omega
    clear hbig HLE HNS HXM
    go_wp2_with fail
    go_loop [6, 7] (fun v6 v7 => ∃ (i : Nat) (zm : ByteArray), v6 = .string zm ∧ v7 = .int .i64 i ∧ i ≤ xs.length ∧ Hid (zm = tx (moreT bf xs i))) (fun _ v7 => xs.length - (intOf v7).toNat)
    case atStart => exact ⟨0, _, rfl, rfl, by omega, rfl⟩
    case round =>
      obtain ⟨i, zm, rfl, rfl, hi, HZ⟩ := hrel
      by_cases hlt : i < xs.length
      · have hltI : (i : Int) < (xs.length : Int) := by omega
        obtain ⟨g, he, _, hgl, _, _, hcell⟩ := HO.out.cells (by rw [List.length_map]; omega)
        injection he with he; injection he with he
        subst he
        have d0 := hcell i (tx xs[i]) (by rw [List.getElem?_map, List.getElem?_eq_getElem hlt]; rfl)
        have hxl := HXT.out _ (List.getElem_mem hlt)
        have hgd : xs.getD i [] = xs[i] := by rw [List.getD, List.getElem?_eq_getElem hlt]; rfl
        have hms := more_step bf xs i
        rw [hgd] at hms
        have hzl := HLM.out i (by omega)
        generalize xs[i] = x at *
        obtain ⟨zx, hzx⟩ : ∃ z, tx x = z := ⟨_, rfl⟩
        have hzxs : zx.size ≤ 4000 := by rw [← hzx, tx_size]; exact hxl
        have hzms : zm.size ≤ 6000 := by rw [HZ.out, tx_size]; exact hzl
        rw [hzx] at d0
        have HGX := hide hzx
        have HMS := hide hms
        clear hcell hxl hgd hms hzl hzx
        have z1 : (⟨#[10]⟩ : ByteArray).size = 1 := rfl
        have z2 : (⟨#[32]⟩ : ByteArray).size = 1 := rfl
        have z3 : (⟨#[32, 35, 32, 121]⟩ : ByteArray).size = 4 := rfl
        have z4 : (⟨#[35, 32, 120, 32, 61, 32, 49, 10, 32, 9, 10]⟩ : ByteArray).size = 11 := rfl
        by_cases h0 : i = 0
        · as_aux_lemma =>
            have hpos : ¬ (0 : Int) < (i : Int) := by omega
            have HPR : Hid (tx (preT bf xs i) = zm) := by
              unfold Hid preT
              rw [if_pos h0, HZ.out, h0]; rfl
            clear h0
            by_cases hil : i < len
            · have hilI : (i : Int) < (len : Int) := by omega
              obtain ⟨xa, rfl, hxa, hbc⟩ := (HBL.out.below HB1.out).2 i hil
              cases hbf : bf i with
              | true =>
                rw [hbf] at hbc
                have HNX : Hid (tx (moreT bf xs (i + 1)) = zm ++ (⟨#[35, 32, 120, 32, 61, 32, 49, 10, 32, 9, 10]⟩ : ByteArray) ++ ((⟨#[32]⟩ : ByteArray) ++ zx ++ ⟨#[32, 35, 32, 121]⟩)) := by
                  rw [Hid, HMS.out, ← tx_append, HPR.out, hbf, piece_yes, HGX.out]
                  simp only [ByteArray.append_assoc]
                clear hbf
                go_wp2
                go_round
                case rel => exact ⟨i + 1, _, rfl, by go_num, by omega, HNX.out.symm⟩
                case measure => simp [intOf]; omega
              | false =>
                rw [hbf] at hbc
                have HNX : Hid (tx (moreT bf xs (i + 1)) = zm ++ ((⟨#[32]⟩ : ByteArray) ++ zx ++ ⟨#[32, 35, 32, 121]⟩)) := by
                  rw [Hid, HMS.out, ← tx_append, HPR.out, hbf, piece_no, HGX.out]
                clear hbf
                go_wp2
                go_round
                case rel => exact ⟨i + 1, _, rfl, by go_num, by omega, HNX.out.symm⟩
                case measure => simp [intOf]; omega
            · have hilI : ¬ (i : Int) < (len : Int) := by omega
              have hbf := HBL.out.1 i (by omega)
              have HNX : Hid (tx (moreT bf xs (i + 1)) = zm ++ ((⟨#[32]⟩ : ByteArray) ++ zx ++ ⟨#[32, 35, 32, 121]⟩)) := by
                rw [Hid, HMS.out, ← tx_append, HPR.out, hbf, piece_no, HGX.out]
              clear hbf
              go_wp2
              go_round
              case rel => exact ⟨i + 1, _, rfl, by go_num, by omega, HNX.out.symm⟩
              case measure => simp [intOf]; omega
        · as_aux_lemma =>
            have hpos : (0 : Int) < (i : Int) := by omega
            have HPR : Hid (tx (preT bf xs i) = zm ++ ⟨#[10]⟩) := by
              unfold Hid preT
              rw [if_neg h0, HZ.out, show (⟨#[10]⟩ : ByteArray) = tx [10] from rfl, tx_append]
            clear h0
            by_cases hil : i < len
            · have hilI : (i : Int) < (len : Int) := by omega
              obtain ⟨xa, rfl, hxa, hbc⟩ := (HBL.out.below HB1.out).2 i hil
              cases hbf : bf i with
              | true =>
                rw [hbf] at hbc
                have HNX : Hid (tx (moreT bf xs (i + 1)) = zm ++ ⟨#[10]⟩ ++ (⟨#[35, 32, 120, 32, 61, 32, 49, 10, 32, 9, 10]⟩ : ByteArray) ++ ((⟨#[32]⟩ : ByteArray) ++ zx ++ ⟨#[32, 35, 32, 121]⟩)) := by
                  rw [Hid, HMS.out, ← tx_append, HPR.out, hbf, piece_yes, HGX.out]
                  simp only [ByteArray.append_assoc]
                clear hbf
                go_wp2
                go_round
                case rel => exact ⟨i + 1, _, rfl, by go_num, by omega, HNX.out.symm⟩
                case measure => simp [intOf]; omega
              | false =>
                rw [hbf] at hbc
                have HNX : Hid (tx (moreT bf xs (i + 1)) = zm ++ ⟨#[10]⟩ ++ ((⟨#[32]⟩ : ByteArray) ++ zx ++ ⟨#[32, 35, 32, 121]⟩)) := by
                  rw [Hid, HMS.out, ← tx_append, HPR.out, hbf, piece_no, HGX.out]
                clear hbf
                go_wp2
                go_round
                case rel => exact ⟨i + 1, _, rfl, by go_num, by omega, HNX.out.symm⟩
                case measure => simp [intOf]; omega
            · have hilI : ¬ (i : Int) < (len : Int) := by omega
              have hbf := HBL.out.1 i (by omega)
              have HNX : Hid (tx (moreT bf xs (i + 1)) = zm ++ ⟨#[10]⟩ ++ ((⟨#[32]⟩ : ByteArray) ++ zx ++ ⟨#[32, 35, 32, 121]⟩)) := by
                rw [Hid, HMS.out, ← tx_append, HPR.out, hbf, piece_no, HGX.out]
              clear hbf
              go_wp2
              go_round
              case rel => exact ⟨i + 1, _, rfl, by go_num, by omega, HNX.out.symm⟩
              case measure => simp [intOf]; omega
      · have hltI : ¬ (i : Int) < (xs.length : Int) := by omega
        have hie : i = xs.length := by omega
        subst hie
        have hlm := HLM.out xs.length (Nat.le_refl _)
        have hz := HZ.out
        have HN := hide HN2.out
        generalize moreT bf xs xs.length = M at *
        subst hz
        obtain ⟨T1, hT1⟩ : ∃ T, parseC l = T := ⟨_, rfl⟩
        obtain ⟨T2, hT2⟩ : ∃ T, parseC M = T := ⟨_, rfl⟩
        have hP1 := fun W (hW : Mx W) => conf_Parse W hW l (by omega)
        have hP2 := fun W (hW : Mx W) => conf_Parse W hW M (by omega)
        have hns := HN.out
        rw [hT1, hT2] at hns
        simp only [hT1] at hP1
        simp only [hT2] at hP2
        obtain ⟨F1, L1, E1⟩ := T1
        obtain ⟨F2, L2, E2⟩ := T2
        obtain ⟨hne, hnE⟩ := hns
        simp only [] at hne hnE
        subst hnE
        obtain ⟨hdl, hsl, hsec⟩ := same_secs hne
        have HSEC := hide hsec
        have hdl2 := hdl.symm
        have hsl2 := hsl.symm
        have HAL := hide (fun W (hW : Mx W) => alive18 W hW)
        clear hT1 hT2 HN HN2 HZ hne hdl hsl hsec HLM HXT
        unfold tx at hP1 hP2 ⊢
        go_wp2_with fail
        refine (hP1 _ (HM.out.below HB1.out)).mono ?_
        rintro e w2 ⟨⟨dv1, sv1, rfl, hcf1⟩, hb2⟩
        obtain ⟨da1, dc1, sa1, sc1, rfl, rfl⟩ := hcf1.forms
        have HB2 := hide (HB1.out.trans (hb2.mono HB1.out.size))
        have HC1 := hide hcf1
        clear hP1 hb2 hcf1
        have HB2a := hide (fun o => HB2.out.alloc HB2.out.size o)
        go_wp2_with fail
        refine (hP2 _ (HM.out.below (HB2a.out _))).mono ?_
        rintro e w3 ⟨⟨dv2, sv2, rfl, hcf2⟩, hb3⟩
        obtain ⟨da2, dc2, sa2, sc2, rfl, rfl⟩ := hcf2.forms
        rw [hdl2, hsl2] at hcf2 ⊢
        have HB3 := hide ((HB2a.out _).trans (hb3.mono (HB2a.out _).size))
        have HF1 := hide (block_stay (block_new w2 (.cells #[.slice da1 F1.dirs.length dc1, .slice sa1 F1.secs.length sc1] 25)) hb3)
        have HY1 := hide ((HC1.out.below (below_box w2 (.cells #[.slice da1 F1.dirs.length dc1, .slice sa1 F1.secs.length sc1] 25))).below hb3)
        have HY2 := hide hcf2
        have HB4 := hide (HB3.out.alloc HB3.out.size (.cells #[.slice da2 F1.dirs.length dc2, .slice sa2 F1.secs.length sc2] 25))
        have HF1b := hide (block_stay HF1.out (below_box w3 (.cells #[.slice da2 F1.dirs.length dc2, .slice sa2 F1.secs.length sc2] 25)))
        have HF2b := hide (block_new w3 (.cells #[.slice da2 F1.dirs.length dc2, .slice sa2 F1.secs.length sc2] 25))
        have HY1b := hide (HY1.out.below (below_box w3 (.cells #[.slice da2 F1.dirs.length dc2, .slice sa2 F1.secs.length sc2] 25)))
        have HY2b := hide (HY2.out.below (below_box w3 (.cells #[.slice da2 F1.dirs.length dc2, .slice sa2 F1.secs.length sc2] 25)))
        have c0 : ∀ o, (w3.alloc o).cell? ⟨w2.heap.size, 0, none⟩ = some (.slice da1 F1.dirs.length dc1) := fun o => cells_of_block (block_stay HF1.out (below_box w3 o)) 0 _ rfl
        have c1 : ∀ o, (w3.alloc o).cell? ⟨w2.heap.size, 1, none⟩ = some (.slice sa1 F1.secs.length sc1) := fun o => cells_of_block (block_stay HF1.out (below_box w3 o)) 1 _ rfl
        have HS2 := hide hsl2
        clear hP2 hb3 hcf2 HC1 HB2 HB2a HF1 HY1 HY2 HB3 hdl2 hsl2
        go_wp2_with fail
        generalize w3.alloc (.cells #[.slice da2 F1.dirs.length dc2, .slice sa2 F1.secs.length sc2] 25) = W4 at *
        clear c0 c1
        go_loopw [14, 15, 16, 17] (fun vi _ _ _ wr => ∃ i : Nat, i ≤ F1.secs.length ∧ vi = .int .i64 i ∧ Hid (Below W4.heap.size W4 wr)) (fun vi _ _ _ _ => F1.secs.length - (intOf vi).toNat)
        case atStart => exact ⟨0, by omega, rfl, Below.refl _ _⟩
        case round =>
          obtain ⟨i, hi, rfl, HB⟩ := hrel
          have x0 := cells_of_block (block_stay HF1b.out HB.out) 1 _ rfl
          have x1 := cells_of_block (block_stay HF2b.out HB.out) 1 _ rfl
          have HBr := hide (HB4.out.trans (HB.out.mono HB4.out.size))
          by_cases hlt : i < F1.secs.length
          · have hltI : (i : Int) < (F1.secs.length : Int) := by omega
            have hlt2 : i < F2.secs.length := by rw [HS2.out]; exact hlt
            obtain ⟨hnm, hpl, hpk⟩ := HSEC.out i hlt hlt2
            obtain ⟨g1, o1, cap1, a1, n1, k1, e1, q1, q2, hc1⟩ := HY1b.out.sec i hlt
            obtain ⟨g2, o2, cap2, a2, n2, k2, e2, r1, r2, hc2⟩ := HY2b.out.sec i hlt2
            injection e1 with e1 e1b e1c
            injection e2 with e2 e2b e2c
            clear e1b e2b
            subst e1 e1c e2 e2c
            obtain ⟨d0, d1, d2⟩ := hc1 wr HB.out
            obtain ⟨f0, f1, f2⟩ := hc2 wr HB.out
            obtain ⟨pa1, pc1, hv1⟩ := d2.form
            obtain ⟨pa2, pc2, hv2⟩ := f2.form
            injection hv1 with u1 u2 u3
            injection hv2 with v1 v2 v3
            subst u1 u2 u3 v1 v2 v3
            rw [← hnm] at f0
            rw [← hpl] at f1 f2
            have HD2 := hide d2
            have HF2 := hide f2
            have HPK := hide hpk
            generalize F1.secs[i] = s1 at *
            generalize F2.secs[i] = s2 at *
            have HPL := hide hpl
            unfold tx at d0 f0
            have hA1 : ∀ o, Below wr.heap.size wr (wr.alloc o) := fun o => below_box wr o
            have hA2 : ∀ o o', Below wr.heap.size wr ((wr.alloc o).alloc o') := fun o o' => (below_box wr o).trans ((below_box _ o').mono (below_box wr o).size)
            have x0a := fun o => ((hA1 o).cell (World.block_lt_of_cell? _ _ x0)).trans x0
            have x0b := fun o o' => ((hA2 o o').cell (World.block_lt_of_cell? _ _ x0)).trans x0
            have x1a := fun o => ((hA1 o).cell (World.block_lt_of_cell? _ _ x1)).trans x1
            have x1b := fun o o' => ((hA2 o o').cell (World.block_lt_of_cell? _ _ x1)).trans x1
            have d0a := fun o => ((hA1 o).cell (World.block_lt_of_cell? _ _ d0)).trans d0
            have d0b := fun o o' => ((hA2 o o').cell (World.block_lt_of_cell? _ _ d0)).trans d0
            have d1a := fun o => ((hA1 o).cell (World.block_lt_of_cell? _ _ d1)).trans d1
            have d1b := fun o o' => ((hA2 o o').cell (World.block_lt_of_cell? _ _ d1)).trans d1
            have f0a := fun o => ((hA1 o).cell (World.block_lt_of_cell? _ _ f0)).trans f0
            have f0b := fun o o' => ((hA2 o o').cell (World.block_lt_of_cell? _ _ f0)).trans f0
            have f1a := fun o => ((hA1 o).cell (World.block_lt_of_cell? _ _ f1)).trans f1
            have f1b := fun o o' => ((hA2 o o').cell (World.block_lt_of_cell? _ _ f1)).trans f1
            clear d2 f2 hpk hpl hnm hc1 hc2 hA1 hA2
            go_wp2_with fail
            go_region
            all_goals clear x0a x0b x1a x1b d0a d0b d1a d1b f0a f0b f1a f1b
            · as_aux_lemma =>
                have hsz : (wr.alloc (.cells #[.string ⟨s1.name.toArray⟩, .slice a1 s1.props.length k1] 38)).heap.size = wr.heap.size + 1 := by simp
                generalize hE : World.drew _ = W6
                have HW6 : Hid (Below wr.heap.size wr W6) := by rw [Hid, ← hE]; exact ((below_box wr _).trans ((below_box _ _).mono (below_box wr _).size)).drew
                have Hp : Hid (W6.heap[wr.heap.size]? = some (.cells #[.string ⟨s1.name.toArray⟩, .slice a1 s1.props.length k1] 38 (0, 0))) := by rw [Hid, ← hE]; exact block_stay (block_new wr (.cells #[.string ⟨s1.name.toArray⟩, .slice a1 s1.props.length k1] 38)) (below_box _ (.cells #[.string ⟨s1.name.toArray⟩, .slice a2 s1.props.length k2] 38)).drew
                have Hq : Hid (W6.heap[wr.heap.size + 1]? = some (.cells #[.string ⟨s1.name.toArray⟩, .slice a2 s1.props.length k2] 38 (0, 0))) := by rw [Hid, ← hE]; exact hsz ▸ block_new (wr.alloc (.cells #[.string ⟨s1.name.toArray⟩, .slice a1 s1.props.length k1] 38)) (.cells #[.string ⟨s1.name.toArray⟩, .slice a2 s1.props.length k2] 38)
                clear hsz hE
                have p0 := cells_of_block Hp.out 0 _ rfl
                have p1 := cells_of_block Hp.out 1 _ rfl
                have q0 := cells_of_block Hq.out 0 _ rfl
                have q1' := cells_of_block Hq.out 1 _ rfl
                clear x0 x1 d0 d1 f0 f1
                go_wp2_with fail
                go_loopw [17] (fun vk wk => ∃ k : Nat, k ≤ s1.props.length ∧ vk = .int .i64 k ∧ Hid (Below W6.heap.size W6 wk)) (fun vk _ => s1.props.length - (intOf vk).toNat)
                case atStart => exact ⟨0, by omega, rfl, Below.refl _ _⟩
                case round =>
                  obtain ⟨k, hk, rfl, HBk⟩ := hrel
                  have p1k := cells_of_block (block_stay Hp.out HBk.out) 1 _ rfl
                  have q1k := cells_of_block (block_stay Hq.out HBk.out) 1 _ rfl
                  have HWk := hide (HW6.out.trans (HBk.out.mono HW6.out.size))
                  by_cases hlk : k < s1.props.length
                  · have hlkI : (k : Int) < (s1.props.length : Int) := by omega
                    have hlk2 : k < s2.props.length := by rw [← HPL.out]; exact hlk
                    obtain ⟨hkn, hkv⟩ := HPK.out k hlk hlk2
                    obtain ⟨y1, t1, rfl, m1, m2, m3, e0, e1, e2⟩ := (HD2.out.below HWk.out).at k hlk
                    obtain ⟨y2, t2, rfl, n1, n2, n3, b0, b1, b2⟩ := (HF2.out.below HWk.out).at k hlk2
                    rw [← hkn] at b0
                    rw [← hkv] at b1
                    have m4 : s1.props.length ≤ k1 := m1
                    have n4 : s1.props.length ≤ k2 := by rw [HPL.out]; exact n1
                    clear hkn hkv e2 b2 n1
                    generalize s1.props[k] = pr1 at *
                    generalize s2.props[k] = pr2 at *
                    unfold tx at e0 e1 b0 b1
                    have g1 := cell_regrown (w := wr) p1k
                    have g2 := cell_regrown (w := wr) q1k
                    have g3 := cell_regrown e0
                    have g4 := cell_regrown e1
                    have g5 := cell_regrown b0
                    have g6 := cell_regrown b1
                    have hn0 : (0 : Int) ≤ (k : Int) := by omega
                    clear p0 p1 q0 q1' e0 e1 b0 b1
                    go_wp2_with fail
                    clear p1k q1k
                    refine wp_region_quiet_below (by kernel_rfl) (by kernel_rfl) ?_
                    repeat (go_big_quiet_step (fail))
                    refine wpQuiet_nil ?_
                    intro _ hw'
                    obtain ⟨⟨dq, osq⟩, hw''⟩ := hw'
                    subst hw''
                    have HB7 : Hid (Below W6.heap.size W6 (grow (redrawn wr dq) osq)) := HBk.out.trans ((below_regrown wr dq osq).mono HBk.out.size)
                    clear g1 g2 g3 g4 g5 g6
                    simp only [] at HB7 ⊢
                    generalize grow (redrawn wr dq) osq = W7 at *
                    go_wp2
                    go_roundw
                    case rel => exact ⟨k + 1, by omega, by go_num, HB7.out⟩
                    case measure => simp [intOf]; omega
                  · have hlkI : ¬ (k : Int) < (s1.props.length : Int) := by omega
                    go_wp2
                    go_roundw
                    case rel => exact ⟨i + 1, by omega, by go_num, HB.out.trans (HWk.out.mono HB.out.size)⟩
                    case measure => simp [intOf]; omega
            · as_aux_lemma =>
                have hsz : (wr.alloc (.cells #[.string ⟨s1.name.toArray⟩, .slice a2 s1.props.length k2] 38)).heap.size = wr.heap.size + 1 := by simp
                generalize hE : World.drew _ = W6
                have HW6 : Hid (Below wr.heap.size wr W6) := by rw [Hid, ← hE]; exact ((below_box wr _).trans ((below_box _ _).mono (below_box wr _).size)).drew
                have Hp : Hid (W6.heap[wr.heap.size + 1]? = some (.cells #[.string ⟨s1.name.toArray⟩, .slice a1 s1.props.length k1] 38 (0, 0))) := by rw [Hid, ← hE]; exact hsz ▸ block_new (wr.alloc (.cells #[.string ⟨s1.name.toArray⟩, .slice a2 s1.props.length k2] 38)) (.cells #[.string ⟨s1.name.toArray⟩, .slice a1 s1.props.length k1] 38)
                have Hq : Hid (W6.heap[wr.heap.size]? = some (.cells #[.string ⟨s1.name.toArray⟩, .slice a2 s1.props.length k2] 38 (0, 0))) := by rw [Hid, ← hE]; exact block_stay (block_new wr (.cells #[.string ⟨s1.name.toArray⟩, .slice a2 s1.props.length k2] 38)) (below_box _ (.cells #[.string ⟨s1.name.toArray⟩, .slice a1 s1.props.length k1] 38)).drew
                clear hsz hE
                have p0 := cells_of_block Hp.out 0 _ rfl
                have p1 := cells_of_block Hp.out 1 _ rfl
                have q0 := cells_of_block Hq.out 0 _ rfl
                have q1' := cells_of_block Hq.out 1 _ rfl
                clear x0 x1 d0 d1 f0 f1
                go_wp2_with fail
                go_loopw [17] (fun vk wk => ∃ k : Nat, k ≤ s1.props.length ∧ vk = .int .i64 k ∧ Hid (Below W6.heap.size W6 wk)) (fun vk _ => s1.props.length - (intOf vk).toNat)
                case atStart => exact ⟨0, by omega, rfl, Below.refl _ _⟩
                case round =>
                  obtain ⟨k, hk, rfl, HBk⟩ := hrel
                  have p1k := cells_of_block (block_stay Hp.out HBk.out) 1 _ rfl
                  have q1k := cells_of_block (block_stay Hq.out HBk.out) 1 _ rfl
                  have HWk := hide (HW6.out.trans (HBk.out.mono HW6.out.size))
                  by_cases hlk : k < s1.props.length
                  · have hlkI : (k : Int) < (s1.props.length : Int) := by omega
                    have hlk2 : k < s2.props.length := by rw [← HPL.out]; exact hlk
                    obtain ⟨hkn, hkv⟩ := HPK.out k hlk hlk2
                    obtain ⟨y1, t1, rfl, m1, m2, m3, e0, e1, e2⟩ := (HD2.out.below HWk.out).at k hlk
                    obtain ⟨y2, t2, rfl, n1, n2, n3, b0, b1, b2⟩ := (HF2.out.below HWk.out).at k hlk2
                    rw [← hkn] at b0
                    rw [← hkv] at b1
                    have m4 : s1.props.length ≤ k1 := m1
                    have n4 : s1.props.length ≤ k2 := by rw [HPL.out]; exact n1
                    clear hkn hkv e2 b2 n1
                    generalize s1.props[k] = pr1 at *
                    generalize s2.props[k] = pr2 at *
                    unfold tx at e0 e1 b0 b1
                    have g1 := cell_regrown (w := wr) p1k
                    have g2 := cell_regrown (w := wr) q1k
                    have g3 := cell_regrown e0
                    have g4 := cell_regrown e1
                    have g5 := cell_regrown b0
                    have g6 := cell_regrown b1
                    have hn0 : (0 : Int) ≤ (k : Int) := by omega
                    clear p0 p1 q0 q1' e0 e1 b0 b1
                    go_wp2_with fail
                    clear p1k q1k
                    refine wp_region_quiet_below (by kernel_rfl) (by kernel_rfl) ?_
                    repeat (go_big_quiet_step (fail))
                    refine wpQuiet_nil ?_
                    intro _ hw'
                    obtain ⟨⟨dq, osq⟩, hw''⟩ := hw'
                    subst hw''
                    have HB7 : Hid (Below W6.heap.size W6 (grow (redrawn wr dq) osq)) := HBk.out.trans ((below_regrown wr dq osq).mono HBk.out.size)
                    clear g1 g2 g3 g4 g5 g6
                    simp only [] at HB7 ⊢
                    generalize grow (redrawn wr dq) osq = W7 at *
                    go_wp2
                    go_roundw
                    case rel => exact ⟨k + 1, by omega, by go_num, HB7.out⟩
                    case measure => simp [intOf]; omega
                  · have hlkI : ¬ (k : Int) < (s1.props.length : Int) := by omega
                    go_wp2
                    go_roundw
                    case rel => exact ⟨i + 1, by omega, by go_num, HB.out.trans (HWk.out.mono HB.out.size)⟩
                    case measure => simp [intOf]; omega
          · have hltI : ¬ (i : Int) < (F1.secs.length : Int) := by omega
            have kA := HAL.out wr (HM.out.below HBr.out)
            go_wp2_with (go_at_call 14; refine kA.mono ?_; rintro e w9 ⟨rfl, b9⟩)
            go_ret
            exact ⟨rfl, HBr.out.trans (b9.mono HBr.out.size)⟩
theorem walk (W : World) (x : ByteArray) (hx : x.size ≤ maxLen) (a : Option Addr) (len cap : Nat) (ho : IsOps W a len cap) (hsh : W.ShapedOpen Tryd.prog) (hL : laidMetH Tryd.prog Rows.confNotesUptoRow.laid W) (hb : x.size ≤ 1048576) :
    Calls Tryd.prog 7 #[.string x, .slice a len cap] W fun e w' => e = .returned (.bool true) ∧ Below W.heap.size W w' := by
  obtain ⟨bf, hbf⟩ := bools_of ho
  have hc : len ≤ 9223372036854775807 ∧ cap ≤ 9223372036854775807 := by
    rcases ho with ⟨_, rfl, rfl⟩ | ⟨_, _, h1, h2, _⟩
    · exact ⟨by omega, by omega⟩
    · unfold maxLen at h2; omega
  have := core W (mx_of_shape hsh) x.data.toList (by rw [← size_list]; exact hb) a len cap bf hbf hc.1 hc.2
  rwa [tx_data] at this
theorem own : ownKnob Tryd.prog.godebug = none := by kernel_rfl
theorem laidOut : laidOutB Tryd.prog = true := by kernel_rfl
theorem laid_met (os : Os) : laidMetH Tryd.prog Rows.confNotesUptoRow.laid ((World.laidAll Tryd.prog os Rows.confNotesUptoRow.laid).forCall (fun _ _ => 0) ⟨#[], #[.string ByteArray.empty, .slice none 0 0], []⟩).memory := by
  rw [MakeChecks.laidMetH_plain _ _ _ (by kernel_rfl)]; exact laidMet_laidAll _ (by kernel_rfl) (by kernel_rfl)
theorem reads (os : Os) {H : Type} (enc : TypeId × Value → H) : ∃ places, DataW.whole enc Tryd.prog ((World.laidAll Tryd.prog os Rows.confNotesUptoRow.laid).forCall (fun _ _ => 0) ⟨#[], #[.string ByteArray.empty, .slice none 0 0], []⟩).memory Tryd.f7.params.toList Rows.confNotesSpec.vars false #[.string ByteArray.empty, .slice none 0 0].toList 8 = some ([.lit (.string []), .nil], [], places) :=
  ⟨[], by kernel_rfl⟩
set_option maxRecDepth 100000 in
theorem lifted (os : Os) (started : os.Started) (H : Type) (enc : TypeId × Value → H) (F : Stop.Interp) :
    ReturnsInHanded {} Tryd.checked os 7 .any ((Rows.OpenSpec.upto Rows.confNotesSpec).preRow enc Tryd.prog Tryd.f7 Rows.confNotesUptoRow.domain false Rows.confNotesUptoRow.laid)
      (((Rows.OpenSpec.upto Rows.confNotesSpec).at F).post enc Tryd.prog Tryd.f7 false true false false) := by
  obtain ⟨places, hrd⟩ := reads os enc
  have hok : Input.okWideB Tryd.prog ((World.laidAll Tryd.prog os Rows.confNotesUptoRow.laid).forCall (fun _ _ => 0) ⟨#[], #[.string ByteArray.empty, .slice none 0 0], []⟩) 7 ⟨#[], #[.string ByteArray.empty, .slice none 0 0], []⟩ = true := by kernel_rfl
  refine returnsInHanded_of_row (C := Tryd.checked) (s := Rows.OpenSpec.upto Rows.confNotesSpec) own started (by kernel_rfl) Tryd.func7
    ⟨World.laidAll Tryd.prog os Rows.confNotesUptoRow.laid, fun _ _ => 0, ⟨#[], #[.string ByteArray.empty, .slice none 0 0], []⟩, World.laidAll_os _ _ _, World.shaped_of_ZipB (by kernel_rfl) (by kernel_rfl),
      (Input.okWide_of_okWideB (base := 0) hok).1, (Input.okWide_of_okWideB hok).2,
      OpenSpec.preRow_of_cond 8 hrd (by kernel_rfl) (fun k hk => by cases hk; kernel_rfl) (by kernel_rfl) (laid_met os), by
        simp only [Assume.holds]
        refine ⟨?_, ?_, ?_, ?_, ?_⟩ <;> simp⟩ ?_
  intro W base args ds gs before hval0 hW hcnd hcond hz hL hsh _
  have hval : ∀ (j : Nat) t v, Tryd.f7.params[j]? = some t → args[j]? = some v → Value.okWide Tryd.prog W .any base t v := hval0
  have hbulk : Rows.uptoBulkAll (ds ++ gs) ≤ 1048576 := of_decide_eq_true (hcond _ rfl)
  have hW' := hW
  obtain ⟨p, q, hA0, hV, rfl, hfz, hnd⟩ := hW
  have hA : DataW.TrodAll enc Tryd.prog W 0 (fun _ => true) true Tryd.f7.params.toList args.toList ds p := hA0
  rw [Tryd.params7] at hA hval
  obtain ⟨v0, vs0, d0, ds0, p0, q0, hargs, rfl, rfl, h0, r0⟩ := trodAll_cons hA
  obtain ⟨v1, vs1, d1, ds1, p1, q1, rfl, rfl, rfl, h1, r1⟩ := trodAll_cons r0
  obtain ⟨rfl, rfl, rfl⟩ := trodAll_nil r1
  obtain rfl : args = #[v0, v1] := by cases args; simp_all
  obtain ⟨rfl, rfl⟩ := trodVars_none hV
  have k0 := h0
  have lt0 : ∀ x ∈ p0, x.block < W.heap.size := by obtain ⟨m, hm⟩ := k0; exact DataW.trod_lt m _ _ _ hm
  have k1 := h1
  have lt1 : ∀ x ∈ p1, x.block < W.heap.size := by obtain ⟨m, hm⟩ := k1; exact DataW.trod_lt m _ _ _ hm
  obtain ⟨a0, rfl, rfl, rfl, w0⟩ := open_string Tryd.underlying9 (hval 0 9 v0 rfl rfl) h0
  obtain ⟨s1, len1, cap1, rfl⟩ := okWide_slice Tryd.underlying62 (hval 1 62 v1 rfl rfl)
  have w1 := isOps_of h1
  clear hA0 hval0
  refine (walk W a0 w0 s1 len1 cap1 w1 hsh hL (by rw [size_list]; have h := hbulk; simp only [List.cons_append, List.nil_append, Rows.uptoBulkAll, Rows.uptoBulk] at h; omega)).mono fun e W' ⟨he, bel⟩ => ?_
  subst he
  exact ⟨_, rfl, _, _, _, [], _, [], hW', trodAll_mk1 (shut_bool Tryd.underlying4 _), (trodAll_cons_mk (Below.trod laidOut (by kernel_rfl) (of_decide_eq_true (by kernel_rfl)) k0 bel lt0) (trodAll_cons_mk (Below.trod laidOut (by kernel_rfl) (of_decide_eq_true (by kernel_rfl)) k1 bel lt1) trodAll_mk0)), rfl, bel.frame _, fun h => by cases h⟩

theorem over : Rows.confNotesUptoRow.holds Tryd.pinned (Rows.OpenSpec.upto Rows.confNotesSpec) :=
  OpenClaim.holds_of_cond 7 Tryd.f7 rfl rfl rfl rfl rfl rfl rfl ⟨rfl, rfl, rfl, rfl, rfl⟩ rfl rfl rfl rfl rfl (by kernel_rfl) Tryd.func7 (by kernel_rfl)
    (of_decide_eq_true (by kernel_rfl)) (by unfold Func.isWrapper; first | (rw [if_pos (by decide +kernel)]; kernel_rfl) | (rw [if_neg (by decide +kernel)]; exact ⟨rfl, rfl⟩))
    (fun os started H enc _ F => by rw [OpenClaim.pre_eq_preRow]; exact lifted os started H enc F)

theorem card : Claim7.holds Tryd.pinned (.plain (Rows.OpenSpec.upto Rows.confNotesSpec)) Rows.confNotesUptoCard :=
  Claim7.holds_tied_plain_at .later [] [.data, .pinned] true (true, "eb07dbec49a8a1946eec2d17a25fdca3c68a579a6d3af342861f4b402f0f9484") false over (fun _ h => by cases h) (by kernel_rfl) (fun _ h => by cases h) confNotesUpto_row_tie rfl ⟨rfl, rfl⟩ (by kernel_rfl) rfl
    (fun f fn hf hfn => by
      obtain rfl : f = 7 := Option.some.inj ((show Tryd.prog.funcNamed Rows.confNotesUptoRow.func = some 7 by kernel_rfl).symm.trans hf) |>.symm
      obtain rfl : fn = Tryd.f7 := (Option.some.inj (Tryd.func7.symm.trans hfn)).symm
      exact ⟨by kernel_rfl, fun j t ht => by
        rw [Tryd.params7] at ht
        have hm : t ∈ [9, 62] := by simpa using Array.mem_of_getElem? ht
        have hall : ([9, 62].all fun u => !Tryd.prog.wantsStandIn u) = true := by kernel_rfl
        exact (show Tryd.prog.wantsStandIn t = false by simpa using List.all_eq_true.1 hall t hm)⟩)
    (by kernel_rfl)
end LConfNotes
theorem ConfNotesUpto_proved : Rows.ConfNotesUptoCardSaid := LConfNotes.card
end Go.Proofs.YtmcefflgbliehaaDoor
