/-
  VfsOwn returns true for every row of nodes and every path, and what came in reads afterwards as it read before: no condition (the listed tables of unicode/utf8 are tied to the program's text, and never read; internal/bytealg.MaxLen is whatever it is).
-/
import Derived.Test.YtleejifhpgokiaaDoorRows
import Derived.Test.YtleejifhpgokiaaDoorCards
import Derived.Test.YtleejifhpgokiaaDoorTie
import Derived.Test.YtleejifhpgokiaaDoorFsY
import Derived.WalkKit
import Derived.ProofKit
import Derived.OpenShut
import Derived.ShutString
import Derived.ChangeOld
import Derived.Below
import Derived.LaidMore
import Derived.Lay
import Derived.SevenTiedAt
import Derived.Stop.Joined
set_option linter.unusedVariables false
namespace Go.Proofs.YtleejifhpgokiaaDoor
namespace LVfsOwn
open Go.ChangeShapes Go.WideShapes Go.ChangeAt Go.RowKit
open Go.ChangeMaps (open_string shut_string)
def openD (l : List Nd) (p : List UInt8) : List UInt8 := if (openN l p).1 = 0 then dataAt l (openN l p).2 else []
theorem openB_any {w w' : World} {l : List Nd} {p : List UInt8} {e : Ending} (h : OpenB w w' l p e) : ∃ (nv : Int) (pv : ByteArray) (va : Value), e = .returned (.tuple #[.int .i64 nv, .string pv, va, .int .i64 (openN l p).1]) ∧ OwnB w' w.heap.size va (openD l p) := by
  unfold openD
  rcases h with ⟨h1, rfl⟩ | ⟨h1, _, vb, rfl, h2⟩
  · rw [if_neg h1]
    exact ⟨_, _, _, rfl, World.ownsRow_nil _ _ _ _⟩
  · rw [if_pos h1]
    exact ⟨_, _, vb, by rw [h1], h2⟩
/-- Between the two answers. -/
structure St (w wr : World) (B F M : Nat) (v : Value) (lf l : List Nd) (sv : Option Addr) : Prop where
  fs : FsAt wr B F M v lf
  below : Below w.heap.size w wr
  own : l = [] ∨ ∃ g, sv = some ⟨g, 0, none⟩ ∧ OwnN wr w.heap.size B g l
set_option maxHeartbeats 8000000 in
set_option maxRecDepth 20000 in
theorem walk (w : World) (s0 : Option Addr) (len0 cap0 : Nat) (h0 : IsNds w s0 len0 cap0 ∧ ∀ L, L.length = len0 → NdsAt w s0 L → ∀ n ∈ L, n.data.length ≤ 140737488355328) (p : ByteArray) (hp0 : p.size ≤ maxLen) (hsh : w.ShapedOpen Tryd.prog) (hL : laidMetH Tryd.prog Rows.vfsOwnRow.laid w) :
    Calls Tryd.prog 5 #[.slice s0 len0 cap0, .string p] w fun e w' => e = .returned (.bool true) ∧ Below w.heap.size w w' := by
  have hm := mx_of_shape hsh
  have hg : 0 < w.heap.size := by
    obtain ⟨m, h⟩ := hm
    exact World.block_lt_of_cell? _ _ h
  obtain ⟨h0, hdl⟩ := h0
  obtain ⟨L, hl, hn⟩ := h0.list
  obtain ⟨hlc, hcm, _⟩ := h0
  have hdL := hdl L hl hn
  subst hl
  have hcap2 : cap0 ≤ 9223372036854775807 := by unfold maxLen at hcm; omega
  have hpm : p.size ≤ 9223372036854775807 := by unfold maxLen at hp0; omega
  have hGr := law_Great w s0 cap0 L hlc hcm hn
  have HN := hide hn
  have HM := hide hm
  have HG := hide hg
  have HC := hide hcm
  have HDL := hide hdL
  have HKI : Hid (∀ n ∈ L, -9223372036854775808 ≤ n.kind ∧ n.kind ≤ 9223372036854775807) := fun n hm => by
    obtain ⟨j, hj, e⟩ := List.getElem_of_mem hm
    rcases HN.out.at_ with e2 | ⟨y, o, _, hx⟩
    · rw [e2] at hj; simp at hj
    · have := hx j hj
      rw [e] at this
      exact ⟨this.k0, this.k1⟩
  clear hsh hL hn hm hg hcm hp0 hdl hdL
  go_enter Tryd.func5, Tryd.ntmps5
  go_wp2_with fail
  refine hGr.mono ?_
  rintro e w' ⟨⟨b, rfl, hB⟩, hw⟩
  rw [← hw]
  clear hw hGr
  rcases hB with rfl | ⟨rfl, h400, hsm⟩
  · go_wp2
    go_ret
    exact ⟨rfl, Below.refl _ _⟩
  by_cases hp : 4096 < p.size
  · have hpI : (4096 : Int) < (p.size : Int) := by omega
    clear hp
    go_wp2
    go_ret
    exact ⟨rfl, Below.refl _ _⟩
  have hpI : ¬ (4096 : Int) < (p.size : Int) := by omega
  have hCp := ref_Copy w s0 cap0 L hlc HC.out HN.out h400 HDL.out
  have HSM := hide hsm
  clear hsm
  go_wp2_with fail
  refine hCp.mono ?_
  rintro e w1 ⟨vo, rfl, l, hcp⟩
  have hst : l.map strip = L.map strip := by have := hcp.same; rwa [List.take_length] at this
  have HST := hide hst
  have HCP := hide hcp
  have HB1 : Hid (Below w.heap.size w w1) := hcp.below
  obtain ⟨sv, cv, hvo, hv1, hv2, hnd⟩ := hcp.at_.nds hst HKI.out
  have HFM : Hid (l = [] ∨ ∃ g, sv = some ⟨g, 0, none⟩ ∧ OwnN w1 w.heap.size w1.heap.size g l) := by
    rcases hcp.at_.form with ⟨_, e⟩ | ⟨g, cap, e, _, _, h⟩
    · exact .inl e
    · rw [hvo] at e
      injection e with e1 e2 e3
      exact .inr ⟨g, e1, h⟩
  have hcv : cv ≤ 9223372036854775807 := by unfold maxLen at hv2; omega
  have hll : l.length ≤ 400 := by have := congrArg List.length hst; rw [List.length_map, List.length_map] at this; omega
  have hsl : ∀ n ∈ l, SmallN n := fun n hm => by
    have e1 : strip n ∈ L.map strip := by rw [← hst]; exact List.mem_map_of_mem hm
    obtain ⟨m, h1, h2⟩ := List.mem_map.1 e1
    have hs := HSM.out m h1
    unfold SmallN at hs ⊢
    have p1 : m.path = n.path := congrArg Prod.fst h2
    have p2 : m.to = n.to := congrArg (fun x => x.2.2.2) h2
    rw [← p1, ← p2]
    exact hs
  have hNew := vfs_New w1 (HM.out.below HB1.out) sv cv l hv1 hv2 hnd hsl
  rw [hvo]
  clear hCp hcp hst hnd hsl HCP hvo
  go_wp2_with fail
  refine hNew.mono ?_
  rintro e w2 ⟨hE, hb2⟩
  have HB12 := hide hb2
  have HB2 : Hid (Below w.heap.size w w2) := HB1.out.trans (hb2.mono HB1.out.size)
  clear hNew hb2
  rcases hE with ⟨c, hc, _, rfl⟩ | ⟨F, rfl, M, v, l2, hfs, hso⟩
  · go_wp2_with (go_at_call 10; refine (alive06 w2 (HM.out.below HB2.out) (Nat.lt_of_lt_of_le HG.out HB2.out.size)).mono ?_; rintro e w9 ⟨rfl, hb9⟩)
    go_ret
    exact ⟨rfl, HB2.out.trans (hb9.mono HB2.out.size)⟩
  have hO := vfs_OpenB w2 (HM.out.below HB2.out) (Nat.lt_of_lt_of_le HG.out HB2.out.size) w1.heap.size F M v (rootN :: l2) hfs p (by omega) (chk_datas hso.grow)
  have HF2 := hide hfs
  have HDT := hide (chk_datas hso.grow)
  clear hfs hso
  generalize rootN :: l2 = lf at *
  go_wp2_with fail
  refine hO.mono ?_
  rintro e w3 ⟨hE, hb3⟩
  obtain ⟨nv, pv, va, rfl, hva⟩ := openB_any hE
  have HB23 := hide hb3
  have tb := (hva.src (F := fun _ => False) (fun _ _ => id)).text
  have HVA := hide hva
  obtain ⟨sa, an, ac, hav, hac, HBY⟩ : ∃ sa an ac, va = .slice sa an ac ∧ ac ≤ 9223372036854775807 ∧ Hid (an ≤ ac ∧ (an = 0 ∨ ∃ ga, sa = some ⟨ga, 0, none⟩ ∧ w2.heap.size ≤ ga ∧ BytesAt w3 ga an)) := by
    rcases hva.bytes with ⟨e, e2⟩ | ⟨ga, cap, e, c1, c2, lo, b⟩
    · exact ⟨none, 0, 0, e, by omega, hide ⟨Nat.le_refl _, .inl rfl⟩⟩
    · exact ⟨_, _, cap, e, by unfold maxLen at c1; omega, hide ⟨c2, .inr ⟨ga, rfl, lo, b⟩⟩⟩
  have hanc : an ≤ ac := HBY.out.1
  rw [hav] at tb ⊢
  clear hO hb3 hE hva hav HVA
  obtain ⟨da, hda⟩ : ∃ da, openD lf p.data.toList = da := ⟨_, rfl⟩
  rw [hda] at tb
  have HDA := hide hda
  clear hda
  go_wp2
  go_loopw [13] (fun vi wr => ∃ i : Nat, i ≤ an ∧ vi = .int .i64 i ∧ Hid (Below w2.heap.size w2 wr ∧ (an = 0 ∨ ∃ ga, sa = some ⟨ga, 0, none⟩ ∧ w2.heap.size ≤ ga ∧ BytesAt wr ga an))) (fun vi _ => an - (intOf vi).toNat)
  case atStart => exact ⟨0, by omega, rfl, hide ⟨HB23.out, HBY.out.2⟩⟩
  case round =>
    obtain ⟨i, hi, rfl, H1⟩ := hrel
    by_cases hlt : i < an
    · have hltI : (i : Int) < (an : Int) := by omega
      obtain ⟨ga, rfl, hga, hby⟩ : ∃ ga, sa = some ⟨ga, 0, none⟩ ∧ w2.heap.size ≤ ga ∧ BytesAt wr ga an := by
        rcases H1.out.2 with e | e
        · omega
        · exact e
      obtain ⟨z, hz, hzf⟩ := hby.cell i hlt
      have HNX : Hid (∀ q : Int, Below w2.heap.size w2 (wr.setCell ⟨ga, i, none⟩ (.int .u8 q)) ∧ (an = 0 ∨ ∃ ga', (some ⟨ga, 0, none⟩ : Option Addr) = some ⟨ga', 0, none⟩ ∧ w2.heap.size ≤ ga' ∧ BytesAt (wr.setCell ⟨ga, i, none⟩ (.int .u8 q)) ga' an)) := fun q =>
        ⟨H1.out.1.trans ((Turn.setCell wr ⟨ga, i, none⟩ _).below H1.out.1.size (fun k e => by rw [e]; exact hga)), .inr ⟨ga, rfl, hga, hby.set ga i q⟩⟩
      clear hby H1
      go_wp2
      go_roundw
      case rel => exact ⟨i + 1, by omega, by go_num, hide (HNX.out _)⟩
      case measure => simp [intOf]; omega
    · have hltI : ¬ (i : Int) < (an : Int) := by omega
      have H3 : Hid (St w wr w1.heap.size F M v lf l sv) := ⟨HF2.out.stay H1.out.1, HB2.out.trans (H1.out.1.mono HB2.out.size), by
        rcases HFM.out with e | ⟨g, e, h⟩
        · exact .inl e
        · exact .inr ⟨g, e, h.heap (fun k hk => by rw [H1.out.1.block k (Nat.lt_of_lt_of_le hk HB12.out.size), HB12.out.block k hk])⟩⟩
      clear H1 HBY
      go_wp2
      go_loopw [14] (fun vi wr => ∃ i : Nat, i ≤ l.length ∧ vi = .int .i64 i ∧ Hid (St w wr w1.heap.size F M v lf l sv)) (fun vi _ => l.length - (intOf vi).toNat)
      case atStart => exact ⟨0, by omega, rfl, H3⟩
      case round =>
        obtain ⟨i, hi, rfl, H4⟩ := hrel
        by_cases hlt : i < l.length
        · have hltI : (i : Int) < (l.length : Int) := by omega
          obtain ⟨g, rfl, hon⟩ : ∃ g, sv = some ⟨g, 0, none⟩ ∧ OwnN wr w.heap.size w1.heap.size g l := by
            rcases H4.out.own with e | e
            · rw [e] at hlt; simp at hlt
            · exact e
          obtain ⟨dd, hdd⟩ : ∃ dd, l[i].data.length = dd := ⟨_, rfl⟩
          have hdt := hon.dat l[i] (List.getElem_mem hlt)
          rw [hdd] at hdt
          have HSL : Hid (∃ da' dc', l[i].vd = .slice da' dd dc') := by
            rcases hdt with ⟨e1, e2⟩ | ⟨gd, cap, e1, _⟩
            · exact ⟨none, 0, by rw [e1, ← hdd, e2]; rfl⟩
            · exact ⟨_, _, e1⟩
          obtain ⟨ea, ec, hve⟩ := HSL
          have HEG : Hid (dd = 0 ∨ ∃ gd, ea = some ⟨gd, 0, none⟩ ∧ dd ≤ ec ∧ ec ≤ maxLen ∧ w.heap.size ≤ gd ∧ gd < w1.heap.size ∧ gd ≠ g) := by
            rcases hdt with ⟨e1, e2⟩ | ⟨gd, cap, e1, c1, c2, a1, a2, a3, _⟩
            · left; rw [← hdd, e2]; rfl
            · rw [hve] at e1
              injection e1 with x1 x2 x3
              subst x3
              exact .inr ⟨gd, x1, c2, c1, a1, a2, a3⟩
          have HBT : Hid (∀ W, OwnN W w.heap.size w1.heap.size g l → ∀ gd, ea = some ⟨gd, 0, none⟩ → dd ≠ 0 → BytesAt W gd dd) := fun W hW gd he hz => by
            have := hW.dat l[i] (List.getElem_mem hlt)
            rw [hdd, hve] at this
            rcases this with ⟨e1, e2⟩ | ⟨gd', cap, e1, _, _, _, _, _, b⟩
            · injection e1 with x1 x2 x3
              exact absurd x2 hz
            · injection e1 with x1 x2 x3
              rw [he] at x1
              injection x1 with x1
              injection x1 with x1
              rw [x1]; exact b
          have HC2 : Hid (∀ W, OwnN W w.heap.size w1.heap.size g l → W.cell? ⟨g, i * 4 + 2, none⟩ = some (.slice ea dd ec)) := fun W hW => by rw [← hve]; exact (hW.cell2 i hlt).1
          have HC0 : Hid (∀ W, OwnN W w.heap.size w1.heap.size g l → (∃ u, W.cell? ⟨g, i * 4, none⟩ = some u) ∧ W.frozen? ⟨g, i * 4, none⟩ = false) := fun W hW => (hW.cell2 i hlt).2
          have hec : ec ≤ 9223372036854775807 ∨ dd = 0 := by
            rcases HEG.out with e | ⟨_, _, _, h, _⟩
            · exact .inr e
            · left; unfold maxLen at h; omega
          have HEC := hide hec
          have HSW : Hid (∀ W, St w W w1.heap.size F M v lf l (some ⟨g, 0, none⟩) → OwnN W w.heap.size w1.heap.size g l) := fun W hW => by
            rcases hW.own with e | ⟨g', e, h⟩
            · rw [e] at hlt; simp at hlt
            · injection e with e
              injection e with e
              rw [e]; exact h
          clear hdt hve hdd hon hec
          go_wp2
          go_loopw [15] (fun vk wr => ∃ k : Nat, k ≤ dd ∧ vk = .int .i64 k ∧ Hid (St w wr w1.heap.size F M v lf l (some ⟨g, 0, none⟩))) (fun vk _ => dd - (intOf vk).toNat)
          case atStart => exact ⟨0, by omega, rfl, H4⟩
          case round =>
            obtain ⟨k, hk, rfl, H5⟩ := hrel
            have hon := HSW.out wr H5.out
            have c2 := HC2.out wr hon
            by_cases hkd : k < dd
            · have hkI : (k : Int) < (dd : Int) := by omega
              obtain ⟨gd, rfl, hde, hem, hlo, hhi, hgd⟩ : ∃ gd, ea = some ⟨gd, 0, none⟩ ∧ dd ≤ ec ∧ ec ≤ maxLen ∧ w.heap.size ≤ gd ∧ gd < w1.heap.size ∧ gd ≠ g := by
                rcases HEG.out with e | e
                · omega
                · exact e
              obtain ⟨z, hz, hzf⟩ := (HBT.out wr hon gd rfl (by omega)).cell k hkd
              have hec2 : ec ≤ 9223372036854775807 := by unfold maxLen at hem; omega
              have HNX : Hid (∀ (W : World) (q : Int), Below wr.heap.size wr W → St w (W.setCell ⟨gd, k, none⟩ (.int .u8 q)) w1.heap.size F M v lf l (some ⟨g, 0, none⟩)) := fun W q hW => by
                have ht : Turn (fun j => j < w1.heap.size) W (W.setCell ⟨gd, k, none⟩ (.int .u8 q)) := (Turn.setCell W ⟨gd, k, none⟩ _).mono (fun j _ e => by rw [e]; exact hhi)
                have hbW : Below w.heap.size w W := H5.out.below.trans (hW.mono H5.out.below.size)
                exact ⟨(H5.out.fs.stay hW).low ht, hbW.trans ((Turn.setCell W ⟨gd, k, none⟩ _).below hbW.size (fun j e => by rw [e]; exact hlo)), .inr ⟨g, rfl, (hon.heap (w' := W) (fun j hj => hW.block j (by have := H5.out.fs.hF; have := (Array.getElem?_eq_some_iff.1 H5.out.fs.head).1; omega))).setB hgd k q⟩⟩
              have BD : Hid (Below wr.heap.size wr wr.drew) := ⟨rfl, rfl, rfl, Nat.le_refl _, fun _ _ => rfl⟩
              have c2d : wr.drew.cell? ⟨g, i * 4 + 2, none⟩ = some (.slice (some ⟨gd, 0, none⟩) dd ec) := c2
              have hzd : wr.drew.cell? ⟨gd, k, none⟩ = some (.int .u8 z) := hz
              have hzfd : wr.drew.frozen? ⟨gd, k, none⟩ = false := hzf
              clear hon H5
              go_wp2
              go_region
              all_goals
                go_wp2
                go_roundw
                case rel => exact ⟨k + 1, by omega, by go_num, hide (HNX.out _ _ BD.out)⟩
                case measure => simp [intOf]; omega
            · have hkI : ¬ (k : Int) < (dd : Int) := by omega
              obtain ⟨⟨u, hu⟩, huf⟩ := HC0.out wr hon
              have HNX : Hid (∀ q : Value, St w (wr.setCell ⟨g, i * 4, none⟩ q) w1.heap.size F M v lf l (some ⟨g, 0, none⟩)) := fun q => by
                have ht : Turn (fun j => j < w1.heap.size) wr (wr.setCell ⟨g, i * 4, none⟩ q) := (Turn.setCell wr ⟨g, i * 4, none⟩ _).mono (fun j _ e => by rw [e]; exact hon.ghi)
                exact ⟨H5.out.fs.low ht, H5.out.below.trans ((Turn.setCell wr ⟨g, i * 4, none⟩ _).below H5.out.below.size (fun j e => by rw [e]; exact hon.glo)), .inr ⟨g, rfl, hon.setP i q⟩⟩
              clear hon H5
              go_wp2
              go_roundw
              case rel => exact ⟨i + 1, by omega, by go_num, hide (HNX.out _)⟩
              case measure => simp [intOf]; omega
        · have hltI : ¬ (i : Int) < (l.length : Int) := by omega
          have hO2 := vfs_OpenB wr (HM.out.below H4.out.below) (Nat.lt_of_lt_of_le HG.out H4.out.below.size) w1.heap.size F M v lf H4.out.fs p (by omega) HDT.out
          go_wp2_with fail
          refine hO2.mono ?_
          rintro e w5 ⟨hE, hb5⟩
          obtain ⟨nv2, pv2, vb, rfl, hvb⟩ := openB_any hE
          have tb2 := (hvb.src (F := fun _ => False) (fun _ _ => id)).text
          rw [HDA.out] at tb2
          have HB5 : Hid (Below w.heap.size w w5) := H4.out.below.trans (hb5.mono H4.out.below.size)
          have hAl := alive06 w5 (HM.out.below HB5.out) (Nat.lt_of_lt_of_le HG.out HB5.out.size)
          clear hO2 hE hb5 hvb
          generalize (openN lf p.data.toList).1 = oe at *
          go_wp2_with (go_at_call 10; refine hAl.mono ?_; rintro e w9 ⟨rfl, hb9⟩)
          go_ret
          exact ⟨rfl, HB5.out.trans (hb9.mono HB5.out.size)⟩
theorem own : ownKnob Tryd.prog.godebug = none := by kernel_rfl
theorem laidOut : laidOutB Tryd.prog = true := by kernel_rfl
set_option maxRecDepth 100000 in
theorem lifted (os : Os) (started : os.Started) (H : Type) (enc : TypeId × Value → H) :
    ReturnsInHanded {} Tryd.checked os 5 .any (fun w args => (Rows.vfsOwnSpec.pre enc Tryd.prog Tryd.f5 Rows.vfsOwnRow.domain false w args ∧ laidMetH Tryd.prog Rows.vfsOwnRow.laid w) ∧ sizedMet enc Tryd.prog Tryd.f5 (OpenSpec.ofChange Rows.vfsOwnSpec) false w args)
      (Rows.vfsOwnSpec.post enc Tryd.prog Tryd.f5 false true false false) := by
  refine wrap_and_shaped (C := Tryd.checked) (X := fun w _ => laidMetH Tryd.prog Rows.vfsOwnRow.laid w) (fun _ _ _ hh h => h.of_heap hh) own started (by kernel_rfl) Tryd.func5
    (ChangeSpec.witness_shaped (enc := enc) (C := Tryd.checked) (os := os) (X := fun w _ => laidMetH Tryd.prog Rows.vfsOwnRow.laid w) false (World.laidAll Tryd.prog os Rows.vfsOwnRow.laid) #[.slice none 0 0, .string ByteArray.empty] 8 (World.laidAll_os _ _ _)
      (World.shaped_of_ZipB (by kernel_rfl) (by kernel_rfl)) (by kernel_rfl) (by kernel_rfl) (by kernel_rfl)
      (by rw [MakeChecks.laidMetH_plain _ _ _ (by kernel_rfl)]; exact laidMet_laidAll _ (by kernel_rfl) (by kernel_rfl))) ?_
  intro W base args ds gs before hval0 hW hcnd hz hL hsh
  have hval : ∀ (j : Nat) t v, Tryd.f5.params[j]? = some t → args[j]? = some v → Value.okWide Tryd.prog W .any base t v := hval0
  have hW' := hW
  obtain ⟨p, q, hA0, hV, rfl, hfz, hnd⟩ := hW
  have hA : DataW.TrodAll enc Tryd.prog W 0 (fun _ => true) true Tryd.f5.params.toList args.toList ds p := hA0
  rw [Tryd.params5] at hA hval
  obtain ⟨v0, vs0, d0, ds0, p0, q0, hargs, rfl, rfl, h0, r0⟩ := trodAll_cons hA
  obtain ⟨v1, vs1, d1, ds1, p1, q1, rfl, rfl, rfl, h1, r1⟩ := trodAll_cons r0
  obtain ⟨rfl, rfl, rfl⟩ := trodAll_nil r1
  obtain rfl : args = #[v0, v1] := by cases args; simp_all
  obtain ⟨rfl, rfl⟩ := trodVars_none hV
  have k0 := h0
  have lt0 : ∀ x ∈ p0, x.block < W.heap.size := by obtain ⟨m, hm⟩ := k0; exact DataW.trod_lt m _ _ _ hm
  have k1 := h1
  have lt1 : ∀ x ∈ p1, x.block < W.heap.size := by obtain ⟨m, hm⟩ := k1; exact DataW.trod_lt m _ _ _ hm
  obtain ⟨s0, len0, cap0, rfl⟩ := okWide_slice Tryd.underlying22 (hval 0 22 v0 rfl rfl)
  have w0 := isOpsz_of h0 (fun k hk => by have := List.all_eq_true.1 hz k (DataW.weights_mem_each (j := 0) (t := 22) (d := d0) (by rw [Tryd.params5]; rfl) rfl k hk); simpa using this)
  obtain ⟨a1, rfl, rfl, rfl, w1⟩ := open_string Tryd.underlying9 (hval 1 9 v1 rfl rfl) h1
  clear hA0 hval0
  refine (walk W s0 len0 cap0 w0 a1 w1 hsh hL).mono fun e W' ⟨he, bel⟩ => ?_
  subst he
  exact ⟨_, rfl, _, _, _, [], _, [], hW', trodAll_mk1 (shut_bool Tryd.underlying4 _), (trodAll_cons_mk (Below.trod laidOut (by kernel_rfl) (of_decide_eq_true (by kernel_rfl)) k0 bel lt0) (trodAll_cons_mk (Below.trod laidOut (by kernel_rfl) (of_decide_eq_true (by kernel_rfl)) k1 bel lt1) trodAll_mk0)), rfl, bel.frame _, fun h => by cases h⟩

theorem over : Rows.vfsOwnRow.holds Tryd.pinned (OpenSpec.ofChange Rows.vfsOwnSpec) :=
  OpenClaim.holds_of_wide 5 Tryd.f5 rfl rfl rfl rfl rfl rfl rfl ⟨rfl, rfl, rfl, rfl, rfl⟩ rfl rfl rfl rfl rfl (by kernel_rfl) Tryd.func5 (by kernel_rfl)
    (of_decide_eq_true (by kernel_rfl)) (by unfold Func.isWrapper; first | (rw [if_pos (by decide +kernel)]; kernel_rfl) | (rw [if_neg (by decide +kernel)]; exact ⟨rfl, rfl⟩))
    (fun os started H enc _ => lifted os started H enc)

theorem card : Claim7.holds Tryd.pinned (.plain (OpenSpec.ofChange Rows.vfsOwnSpec)) Rows.vfsOwnCard :=
  Claim7.holds_tied_plain_at .later [] [.data, .pinned] true (true, "a7eb2e7b05ced29e8ca615c7860188a0d6c16829fa131a224f90777978a0019e") false over (fun _ h => by cases h) (by kernel_rfl) (fun _ h => by cases h) vfsOwn_row_tie rfl ⟨rfl, rfl⟩ (by kernel_rfl) rfl
    (fun f fn hf hfn => by
      obtain rfl : f = 5 := Option.some.inj ((show Tryd.prog.funcNamed Rows.vfsOwnRow.func = some 5 by kernel_rfl).symm.trans hf) |>.symm
      obtain rfl : fn = Tryd.f5 := (Option.some.inj (Tryd.func5.symm.trans hfn)).symm
      exact ⟨by kernel_rfl, fun j t ht => by
        rw [Tryd.params5] at ht
        have hm : t ∈ [22, 9] := by simpa using Array.mem_of_getElem? ht
        have hall : ([22, 9].all fun u => !Tryd.prog.wantsStandIn u) = true := by kernel_rfl
        exact (show Tryd.prog.wantsStandIn t = false by simpa using List.all_eq_true.1 hall t hm)⟩)
    (by kernel_rfl)
end LVfsOwn
theorem VfsOwn_proved : Rows.VfsOwnCardSaid := LVfsOwn.card
end Go.Proofs.YtleejifhpgokiaaDoor
