/-
  VmemApart's walk, where the space is made.
-/
import Derived.Test.YtnmeabefledjlaaVmPe
import Derived.WalkKit
import Derived.ProofKit
import Derived.OpenShut
import Derived.ShutString
import Derived.ChangeOld
import Derived.Below
set_option linter.unusedVariables false
namespace Go.Proofs.Ytnmeabefledjlaa
namespace LVmemApart
open Go.ChangeShapes Go.WideShapes Go.ChangeAt Go.RowKit Go.PlainAid
open Go.ChangeMaps (open_string shut_string)
/-- Where the rooms ahead of one have ended. -/
def endAt (l : List Rm) : Nat → Nat
  | 0 => 256
  | i + 1 => ((l[i]?).map Rm.fin).getD 0
theorem endAt_le {l : List Rm} (ho : ∀ r ∈ l, r.ok) (hs : l.Pairwise (fun a b => a.fin ≤ b.pos)) (i : Nat) (hi : i < l.length) : endAt l i ≤ l[i].pos := by
  cases i with
  | zero => exact (ho _ (List.getElem_mem hi)).low
  | succ i =>
    show ((l[i]?).map Rm.fin).getD 0 ≤ _
    rw [List.getElem?_eq_getElem (show i < l.length by omega)]
    exact List.pairwise_iff_getElem.1 hs i (i + 1) (by omega) hi (by omega)
theorem endAt_top {l : List Rm} (ho : ∀ r ∈ l, r.ok) (i : Nat) (hi : i ≤ l.length) : endAt l i ≤ 1099511627776 := by
  cases i with
  | zero => show 256 ≤ _; omega
  | succ i =>
    show ((l[i]?).map Rm.fin).getD 0 ≤ _
    rw [List.getElem?_eq_getElem (show i < l.length by omega)]
    exact (ho _ (List.getElem_mem (by omega))).top
theorem regs_get (l : List Rm) (j : Nat) (h : j < (regs l).length) (h2 : j < l.length) : (regs l)[j] = (l[j].pos, l[j].pages.length) := List.getElem_map (fun r : Rm => (r.pos, r.pages.length))
/-- Does a place lie in one of the first k rooms? -/
def inR (l : List Rm) (q k : Nat) : Bool := (l.take k).any (fun r => decide (r.pos ≤ q) && decide (q < r.fin))
theorem inR_succ (l : List Rm) (q k : Nat) (h : k < l.length) : inR l q (k + 1) = (inR l q k || (decide (l[k].pos ≤ q) && decide (q < l[k].fin))) := by
  unfold inR
  rw [List.take_add_one, List.getElem?_eq_getElem h, List.any_append]; simp
def PlayI (w wr : World) (S : Nat) (bud : Nat) (vr : Value) (i : Nat) : Prop := ∃ v sp rs, PlayAt w wr S v sp vr rs ∧ sp.budget = bud ∧ rs.length ≤ i
theorem doS_budget (sp : Sp) (x : OpN) (rs : List Nat) (hint blk : Nat) : (doS sp x rs hint blk).budget = sp.budget := by
  have h1 : ∀ h n b, (rvS sp h n b).budget = sp.budget := fun h n b => by unfold rvS; split <;> rfl
  have h2 : ∀ a n p d, (mpS sp a n p d).budget = sp.budget := fun a n p d => by
    unfold mpS
    split
    · rfl
    · split
      · rfl
      · split
        · rfl
        · split
          · rfl
          · split <;> rfl
  have h3 : ∀ a n p, (prS sp a n p).budget = sp.budget := fun a n p => by
    unfold prS
    split
    · rfl
    · split
      · rfl
      · split <;> rfl
  have h4 : ∀ a, (rlS sp a).budget = sp.budget := fun a => by unfold rlS; split <;> rfl
  have h5 : ∀ a d, (wrS sp a d).budget = sp.budget := fun a d => by unfold wrS; split <;> rfl
  unfold doS
  split <;> first | exact h1 _ _ _ | exact h2 _ _ _ _ | exact h3 _ _ _ | exact h4 _ | exact h5 _ _ | rfl
set_option maxHeartbeats 4000000 in
set_option maxRecDepth 20000 in
theorem walk_ok (w : World) (b : Nat) (hb0 : 1 ≤ b) (hb1 : b ≤ 1024) (a : Option Addr) (len cap : Nat) (h : IsOps w a len cap) :
    Calls Try.prog 4 #[.int .i64 b, .slice a len cap] w fun e w' => e = .returned (.bool true) ∧ Below w.heap.size w w' := by
  have hBig := law_big w a len cap h
  obtain ⟨hlc, hcm, _⟩ := h
  have hcap : cap ≤ 9223372036854775807 := by unfold maxLen at hcm; omega
  have hNew := vm_New w b hb0 hb1
  go_enter Try.func4, Try.ntmps4
  go_wp2_with fail
  refine hBig.mono ?_
  rintro e w' ⟨⟨bb, rfl, hBB⟩, hw⟩
  rw [← hw]
  clear hw hBig
  rcases hBB with rfl | ⟨rfl, hops⟩
  · go_wp2
    go_ret
    exact ⟨rfl, Below.refl _ _⟩
  have HOPS : Hid (OpsOk w a len) := hops
  have hl60 : len ≤ 60 := hops.1
  clear hops
  go_wp2_with fail
  refine hNew.mono ?_
  rintro e w1 ⟨rfl, n1, n2⟩
  have hok0 : (⟨b, []⟩ : Sp).ok := ⟨hb0, hb1, Nat.zero_le _, fun r hr => absurd hr (by simp), List.Pairwise.nil⟩
  have P0 : Hid (PlayI w w1 w.heap.size b (.slice none 0 0) 0) := ⟨_, ⟨b, []⟩, [], ⟨⟨n1, fun k hk => by simp [foot, Value.ownBlock] at hk; omega, n2⟩, hok0, OwnU.nil _ _, fun g hg => by simp [Value.ownBlock] at hg⟩, rfl, by simp⟩
  clear n1 n2 hNew hok0
  go_wp2
  go_loopw [7, 8] (fun vr vi wr => ∃ i : Nat, i ≤ len ∧ vi = .int .i64 i ∧ Hid (PlayI w wr w.heap.size b vr i)) (fun _ vi _ => len - (intOf vi).toNat)
  case atStart => exact ⟨0, by omega, rfl, P0⟩
  case round =>
    obtain ⟨i, hi, rfl, HP⟩ := hrel
    obtain ⟨v, sp, rs, hP, hbud, hrl⟩ := HP
    have PA : Hid (PlayAt w wr w.heap.size v sp u7 rs) := hP
    by_cases hlt : i < len
    · have hltI : (i : Int) < (len : Int) := by omega
      obtain ⟨y, o, rfl, hx⟩ : ∃ y o, a = some ⟨y, o, none⟩ ∧ ∀ i, i < len → ∃ x vd, IsOp7 w y (o + i * 7) x vd ∧ x.ok := by
        rcases HOPS.out.2 with e | e
        · omega
        · exact e
      obtain ⟨x, vd, I, hxok⟩ := hx i hlt
      have hyl : y < w.heap.size := World.block_lt_of_cell? _ _ I.c0
      have hyne : y ≠ wr.heap.size := by have := hP.spn.below.size; omega
      have HS7 : Hid (∀ W, Below w.heap.size w W → S7 y (o + i * 7) x vd W) := fun W hW => I.s7.below hyl hW
      have HDN : Hid (∀ W, Below wr.heap.size wr W → Calls Try.prog 11 #[.pointer (some ⟨w.heap.size, 0, none⟩), .agg (x.cells vd), u7, .int .u64 x.hint] W fun e W' => e = .returned (.agg (doO sp x rs x.hint).cells) ∧ ∃ blk v', PlayAt w W' w.heap.size v' (doS sp x rs x.hint blk) u7 rs ∧ Turn (· ∈ foot w.heap.size v sp.rooms) W W' ∧ ∀ k ∈ foot w.heap.size v' (doS sp x rs x.hint blk).rooms, k ∈ foot w.heap.size v sp.rooms ∨ W.heap.size ≤ k) := fun W hW => play_done w W w.heap.size v sp u7 rs (hP.stay hW) x hxok vd I.src x.hint hxok.h1
      have bw1 : Below wr.heap.size wr wr.drew := ⟨rfl, rfl, rfl, Nat.le_refl _, fun _ _ => rfl⟩
      have bw2 : Below wr.heap.size wr ((wr.alloc (.cells #[.int .i64 0, .string ⟨#[]⟩, .int .u64 0, .bool false] 37)).drew) := (((Below.refl _ wr).alloc (Nat.le_refl _) _)).drew
      have DD := HS7.out wr.drew (hP.spn.below.trans (bw1.mono hP.spn.below.size))
      have EE := HS7.out _ (hP.spn.below.trans (bw2.mono hP.spn.below.size))
      unfold S7 at DD EE
      obtain ⟨d0, d1, d2, d3, d4, d5, d6⟩ := id DD
      obtain ⟨e0, e1, e2, e3, e4, e5, e6⟩ := id EE
      have BW1 := hide bw1
      have BW2 := hide bw2
      have HNF : Hid (¬ (wr.heap.size ∈ foot w.heap.size v sp.rooms)) := fun hm => Nat.lt_irrefl _ (hP.spn.at_.foot_lt _ hm)
      obtain ⟨sa, sc, rfl, _, _, _⟩ := I.src
      obtain ⟨ra, rc, hra⟩ := hP.own.isSlice
      have HBUD : Hid (sp.budget = b) := hbud
      have HRL : Hid (rs.length ≤ i) := hrl
      obtain ⟨O, hO⟩ : ∃ O, doO sp x rs x.hint = O := ⟨_, rfl⟩
      rw [hO] at HDN
      unfold Out.cells OpN.cells at HDN
      have HO : Hid (doO sp x rs x.hint = O) := hO
      clear hP hbud hrl I hx hO bw1 bw2
      subst hra
      go_wp2_with fail
      go_region_held_law (fun w' => w'.cell? ⟨y, o + i * 7, none⟩ = some (.int .i64 x.kind) ∧ w'.cell? ⟨y, o + i * 7 + 1, none⟩ = some (.int .i64 x.room) ∧ w'.cell? ⟨y, o + i * 7 + 2, none⟩ = some (.int .u64 x.off) ∧ w'.cell? ⟨y, o + i * 7 + 3, none⟩ = some (.int .u64 x.size) ∧ w'.cell? ⟨y, o + i * 7 + 4, none⟩ = some (.int .i64 x.prot) ∧ w'.cell? ⟨y, o + i * 7 + 5, none⟩ = some (.int .u64 x.hint) ∧ w'.cell? ⟨y, o + i * 7 + 6, none⟩ = some (.slice sa x.data.length sc))
        (first | with_reducible assumption | with_reducible exact GA | with_reducible exact GP _ _ _ _ | with_reducible exact GB _)
        (first
          | (go_at_call 11; refine (HDN.out _ (by first | exact BW1.out | exact BW2.out)).mono ?_; rintro e W2 ⟨rfl, blk, v2, P2, T2, F2⟩; have HF2 := hide F2; clear F2; have GG := HS7.out W2 P2.spn.below; have GA := S7.alloc GG (.cells #[.int .i64 0, .string ⟨#[]⟩, .int .u64 0, .bool false] 37); have GB := fun o => S7.alloc GG o; have GP := fun a b c d => S7.put4 GG hyne a b c d; have H2 := hide P2; first | (obtain ⟨a0, a1, a2, a3, f0, f1, f2, f3⟩ := anB_of T2 HNF.out; clear P2 T2) | (clear P2 T2)))
      · have P3 := hide (H2.out.stay ((Below.refl _ W2).alloc (Nat.le_refl _) (.cells #[.int .i64 O.e, .string (txt O.b), .int .u64 O.at_, .bool O.room] 37)))
        have q2 : (W2.alloc (.cells #[.int .i64 O.e, .string (txt O.b), .int .u64 O.at_, .bool O.room] 37)).cell? ⟨W2.heap.size, 2, none⟩ = some (.int .u64 O.at_) := by simp
        have q3 : (W2.alloc (.cells #[.int .i64 O.e, .string (txt O.b), .int .u64 O.at_, .bool O.room] 37)).cell? ⟨W2.heap.size, 3, none⟩ = some (.bool O.room) := by simp
        clear GG GA GB GP DD EE d0 d1 d2 d3 d4 d5 d6 e0 e1 e2 e3 e4 e5 e6 H2
        generalize W2.alloc (.cells #[.int .i64 O.e, .string (txt O.b), .int .u64 O.at_, .bool O.room] 37) = W3 at *
        generalize W2.heap.size = bx at *
        have HB3 : Hid ((doS sp x rs x.hint blk).budget = b) := by unfold Hid; rw [doS_budget]; exact HBUD.out
        cases hroom : O.room with
        | false =>
          rw [hroom] at q3
          go_wp2
          go_roundw
          case rel => exact ⟨i + 1, by omega, by go_num, _, _, _, P3.out, HB3.out, Nat.le_succ_of_le HRL.out⟩
          case measure => simp [intOf]; omega
        | true =>
          rw [hroom] at q3
          go_wp2_with (at_builtin; refine append_u64 rfl _ _ rfl w.heap.size W3 _ rs P3.out.own O.at_ rfl rfl (by have := HRL.out; omega) P3.out.spn.below.size ?_)
          intro vr4 W4 h1 h2 h3
          have P4 : Hid (PlayAt w W4 w.heap.size v2 (doS sp x rs x.hint blk) vr4 (rs ++ [O.at_])) := P3.out.append h1 h2 h3
          obtain ⟨ra4, rc4, hra4⟩ := h1.isSlice
          clear h1 h2 h3
          go_wp2
          go_roundw
          case rel => exact ⟨i + 1, by omega, by go_num, _, _, _, P4.out, HB3.out, by rw [List.length_append]; have := HRL.out; simp; omega⟩
          case measure => simp [intOf]; omega
      · have hvb : Value.ownBlock (.slice ra rs.length rc) ≠ some wr.heap.size := fun e => Nat.lt_irrefl _ (World.ownsRow.lt PA.out.own _ e).2
        have P3 := hide (H2.out.turn1 (turn_put W2 wr.heap.size (.int .i64 O.e) (.string (txt O.b)) (.int .u64 O.at_) (.bool O.room)) (fun hm => by
          rcases HF2.out _ hm with e | e
          · exact HNF.out e
          · have : ((wr.alloc (.cells #[.int .i64 0, .string ⟨#[]⟩, .int .u64 0, .bool false] 37)).drew).heap.size = wr.heap.size + 1 := by simp
            omega) hvb PA.out.spn.below.size)
        have q2 : ((((W2.setCell ⟨wr.heap.size, 0, none⟩ (.int .i64 O.e)).setCell ⟨wr.heap.size, 1, none⟩ (.string (txt O.b))).setCell ⟨wr.heap.size, 2, none⟩ (.int .u64 O.at_)).setCell ⟨wr.heap.size, 3, none⟩ (.bool O.room)).cell? ⟨wr.heap.size, 2, none⟩ = some (.int .u64 O.at_) := by go_simp
        have q3 : ((((W2.setCell ⟨wr.heap.size, 0, none⟩ (.int .i64 O.e)).setCell ⟨wr.heap.size, 1, none⟩ (.string (txt O.b))).setCell ⟨wr.heap.size, 2, none⟩ (.int .u64 O.at_)).setCell ⟨wr.heap.size, 3, none⟩ (.bool O.room)).cell? ⟨wr.heap.size, 3, none⟩ = some (.bool O.room) := by go_simp
        clear GG GA GB GP DD EE d0 d1 d2 d3 d4 d5 d6 e0 e1 e2 e3 e4 e5 e6 H2 a0 a1 a2 a3 f0 f1 f2 f3
        generalize (((W2.setCell ⟨wr.heap.size, 0, none⟩ (.int .i64 O.e)).setCell ⟨wr.heap.size, 1, none⟩ (.string (txt O.b))).setCell ⟨wr.heap.size, 2, none⟩ (.int .u64 O.at_)).setCell ⟨wr.heap.size, 3, none⟩ (.bool O.room) = W3 at *
        have HB3 : Hid ((doS sp x rs x.hint blk).budget = b) := by unfold Hid; rw [doS_budget]; exact HBUD.out
        cases hroom : O.room with
        | false =>
          rw [hroom] at q3
          go_wp2
          go_roundw
          case rel => exact ⟨i + 1, by omega, by go_num, _, _, _, P3.out, HB3.out, Nat.le_succ_of_le HRL.out⟩
          case measure => simp [intOf]; omega
        | true =>
          rw [hroom] at q3
          go_wp2_with (at_builtin; refine append_u64 rfl _ _ rfl w.heap.size W3 _ rs P3.out.own O.at_ rfl rfl (by have := HRL.out; omega) P3.out.spn.below.size ?_)
          intro vr4 W4 h1 h2 h3
          have P4 : Hid (PlayAt w W4 w.heap.size v2 (doS sp x rs x.hint blk) vr4 (rs ++ [O.at_])) := P3.out.append h1 h2 h3
          obtain ⟨ra4, rc4, hra4⟩ := h1.isSlice
          clear h1 h2 h3
          go_wp2
          go_roundw
          case rel => exact ⟨i + 1, by omega, by go_num, _, _, _, P4.out, HB3.out, by rw [List.length_append]; have := HRL.out; simp; omega⟩
          case measure => simp [intOf]; omega
    · have hltI : ¬ (i : Int) < (len : Int) := by omega
      have HBUD : Hid (sp.budget = b) := hbud
      have HK : Hid sp.ok := hP.ok
      have hn := hP.ok.len
      clear hrl hbud hP
      go_wp2_with fail
      refine (vm_Regions wr _ _ _ PA.out.spn.at_ PA.out.ok).mono ?_
      rintro e w2 ⟨⟨vg, rfl, og⟩, b2⟩
      have PA2 := hide (PA.out.stay b2)
      have OG := hide og
      clear og b2
      go_wp2_with fail
      refine (vm_Pages w2 _ _ _ PA2.out.spn.at_ PA2.out.ok).mono ?_
      rintro e w3 ⟨⟨vp, rfl, op⟩, b3⟩
      have PA3 := hide (PA2.out.stay b3)
      have OP := hide op
      have OG3 : Hid (OwnG w3 wr.heap.size vg (regs sp.rooms)) := by
        refine ⟨OG.out.1, ?_⟩
        rcases OG.out.2 with hn | ⟨g, cap, cur, rfl, hB, hg, rest⟩
        · exact .inl hn
        · exact .inr ⟨g, cap, cur, rfl, hB, by rw [b3.block g (Array.getElem?_eq_some_iff.1 hg).1]; exact hg, rest⟩
      obtain ⟨sg, cg, hvg⟩ := OG.out.isSlice
      obtain ⟨sq, cq, hvp⟩ := OP.out.isSlice
      have hrn : (regs sp.rooms).length = sp.rooms.length := by unfold regs; rw [List.length_map]
      rw [hrn] at hvg
      subst hvg hvp
      have hpn : (pgsOf sp.rooms).length ≤ 1024 := Nat.le_trans (pgsOf_len _) (Nat.le_trans HK.out.use HK.out.b1)
      clear op b3 OG hrn PA PA2
      generalize hR : sp.rooms = R at *
      have HRR : Hid (sp.rooms = R) := hR
      clear hR
      have HRO : Hid (∀ r ∈ R, r.ok) := fun r hr => HK.out.each r (by rw [HRR.out]; exact hr)
      have HRS : Hid (R.Pairwise (fun a b => a.fin ≤ b.pos)) := by have := HK.out.srt; rwa [HRR.out] at this
      have hu0 : used R ≤ 1024 := by have := HK.out.use; have := HK.out.b1; rw [← HRR.out]; omega
      go_wp2
      go_loopw [12, 13, 14] (fun ve va vi wq => ∃ j : Nat, j ≤ R.length ∧ vi = .int .i64 j ∧ ve = .int .u64 (endAt R j) ∧ va = .int .i64 (used (R.take j) : Nat) ∧ Hid (Below w3.heap.size w3 wq)) (fun _ _ vi _ => R.length - (intOf vi).toNat)
      case atStart => exact ⟨0, by omega, rfl, rfl, rfl, Below.refl _ _⟩
      case round =>
        obtain ⟨j, hj, rfl, rfl, rfl, HB⟩ := hrel
        by_cases hlt2 : j < R.length
        · have hltJ : (j : Int) < (R.length : Int) := by omega
          have hjr : j < (regs R).length := by unfold regs; rw [List.length_map]; exact hlt2
          obtain ⟨gg, rfl, hnn, hgb, hgl, hcg1, hcg2, hcell⟩ := OG3.out.cells (by omega)
          clear hnn hgb
          obtain ⟨k0, k1⟩ := hcell j hjr
          have e0 : (regs R)[j] = (R[j].pos, R[j].pages.length) := regs_get R j hjr hlt2
          rw [e0] at k0 k1
          have c0 : wr.cell? ⟨gg, j * 2, none⟩ = some (.int .u64 (R[j].pos : Nat)) := by rw [HB.out.cell (p := ⟨gg, j * 2, none⟩) hgl]; exact k0
          have c1 : wr.cell? ⟨gg, j * 2 + 1, none⟩ = some (.int .i64 (R[j].pages.length : Nat)) := by rw [HB.out.cell (p := ⟨gg, j * 2 + 1, none⟩) hgl]; exact k1
          have hro := HRO.out _ (List.getElem_mem hlt2)
          have h1 := hro.page
          have h2 := endAt_le HRO.out HRS.out j hlt2
          have h3 := hro.one
          have h4 := hro.top
          have h5 := hro.most
          have hcg : cg ≤ 9223372036854775807 := by unfold maxLen at hcg2; omega
          unfold Rm.fin Rm.size at h4
          have HE : Hid (endAt R (j + 1) = R[j].pos + R[j].pages.length * 256) := by
            show ((R[j]?).map Rm.fin).getD 0 = _
            rw [List.getElem?_eq_getElem hlt2]; rfl
          have HU : Hid (used (R.take (j + 1)) = used (R.take j) + R[j].pages.length) := used_take_succ R j hlt2
          have hu1 : used (R.take j) + R[j].pages.length ≤ 1024 := by have := used_take_le R (j + 1); have := HU.out; omega
          have hu2 : used (R.take j) ≤ 1024 := by omega
          unfold regs at hcg1
          rw [List.length_map] at hcg1
          clear k0 k1 hcell e0 hro
          clear hjr
          generalize R[j].pos = p at *
          generalize R[j].pages.length = m at *
          generalize endAt R j = en at *
          generalize used (R.take j) = us at *
          have hpm : ((p : Int) % 256 != 0) = false := by rw [bne_eq_false_iff_eq]; omega
          have hpe : ¬ (p : Int) < (en : Int) := by omega
          have hpl : ¬ (m : Int) < 1 := by omega
          go_wp2_with fail
          go_quiet (fail)
          all_goals go_wp2
          go_roundw
          case rel => exact ⟨j + 1, by omega, by go_num, by rw [HE.out]; go_num, by rw [HU.out]; go_num, HB.out.os, HB.out.tape, HB.out.output, HB.out.size, HB.out.block⟩
          case measure => simp [intOf]; omega
        · have hltJ : ¬ (j : Int) < (R.length : Int) := by omega
          have hjn : j = R.length := by omega
          subst hjn
          rw [List.take_length]
          have het := endAt_top HRO.out R.length (Nat.le_refl _)
          have HPM : Hid (∀ x ∈ pgsOf R, ∃ r ∈ R, r.pos ≤ x.pos ∧ x.pos < r.fin ∧ (x.pos - r.pos) % 256 = 0 ∧ ∃ s ∈ r.pages, x.data = s.data) := fun x hx => pgsOf_mem hx
          have HPS : Hid ((pgsOf R).Pairwise (fun a b => a.pos < b.pos)) := pgsOf_sorted HRS.out
          have HPD : Hid (∀ p ∈ pgsOf R, p.data.length = 256) := fun p hp => by
            obtain ⟨r, hr, _, _, _, s, hs, e⟩ := pgsOf_mem hp
            rw [e]; exact ((HRO.out r hr).each s hs).len
          obtain ⟨PP, hPP⟩ : ∃ PP, pgsOf R = PP := ⟨_, rfl⟩
          rw [hPP] at HPM HPS HPD OP hpn
          rw [hPP]
          clear hPP
          generalize endAt R R.length = en at *
          go_wp2
          go_loopw [15] (fun vi wz => ∃ q : Nat, q ≤ PP.length ∧ vi = .int .i64 q ∧ Hid (Below w3.heap.size w3 wz)) (fun vi _ => PP.length - (intOf vi).toNat)
          case atStart => exact ⟨0, by omega, rfl, HB⟩
          case round =>
            obtain ⟨q, hq, rfl, HB4⟩ := hrel
            by_cases hlt4 : q < PP.length
            · have hltQ : (q : Int) < (PP.length : Int) := by omega
              obtain ⟨gp, rfl, hnn, hgb, hgl, hcq1, hcq2, hcell⟩ := OP.out.cells (by omega) HPD.out
              clear hnn hgb
              have hcq : cq ≤ 9223372036854775807 := by unfold maxLen at hcq2; omega
              obtain ⟨r, hr, hr1, hr2, hr3, hr4⟩ := HPM.out _ (List.getElem_mem hlt4)
              have hrp := (HRO.out r hr).page
              have hp256 : PP[q].pos % 256 = 0 := by omega
              have HIN : Hid (inR R PP[q].pos R.length = true) := by
                unfold Hid inR
                rw [List.take_length]
                exact List.any_eq_true.2 ⟨r, hr, by simp [hr1, hr2]⟩
              have HPC : Hid (∀ W, Below w3.heap.size w3 W → W.cell? ⟨gp, q * 258, none⟩ = some (.int .u64 (PP[q].pos : Nat))) := fun W hW => by rw [hW.cell (p := ⟨gp, q * 258, none⟩) hgl]; exact hcell q hlt4
              have HPC0 : Hid (∀ W, Below w3.heap.size w3 W → q = 0 ∨ ∃ (q' z : Nat), q = q' + 1 ∧ W.cell? ⟨gp, q' * 258, none⟩ = some (.int .u64 (z : Nat)) ∧ z < PP[q].pos) := fun W hW => by
                by_cases hq0 : q = 0
                · exact .inl hq0
                · right
                  refine ⟨q - 1, PP[q - 1].pos, by omega, ?_, List.pairwise_iff_getElem.1 HPS.out (q - 1) q (by omega) hlt4 (by omega)⟩
                  rw [hW.cell (p := ⟨gp, (q - 1) * 258, none⟩) hgl]; exact hcell (q - 1) (by omega)
              clear hr hr1 hr2 hr3 hr4 hrp hcell r
              generalize PP[q].pos = pq at *
              go_wp2
              go_loopw [16, 17] (fun vin vk wz => ∃ k : Nat, k ≤ R.length ∧ vk = .int .i64 k ∧ vin = .bool (inR R pq k) ∧ Hid (Below w3.heap.size w3 wz)) (fun _ vk _ => R.length - (intOf vk).toNat)
              case atStart => exact ⟨0, by omega, rfl, rfl, HB4⟩
              case round =>
                obtain ⟨k, hk, rfl, rfl, HB5⟩ := hrel
                have cq0 := HPC.out _ HB5.out
                have hgl5 : gp < wr.heap.size := Nat.lt_of_lt_of_le hgl HB5.out.size
                by_cases hlt5 : k < R.length
                · have hltK : (k : Int) < (R.length : Int) := by omega
                  have hjr : k < (regs R).length := by unfold regs; rw [List.length_map]; exact hlt5
                  obtain ⟨gg, rfl, hnn, hgb, hgl2, hcg1, hcg2, hcell⟩ := OG3.out.cells (by omega)
                  clear hnn hgb
                  obtain ⟨k0, k1⟩ := hcell k hjr
                  have e0 : (regs R)[k] = (R[k].pos, R[k].pages.length) := regs_get R k hjr hlt5
                  rw [e0] at k0 k1
                  have c0 : wr.cell? ⟨gg, k * 2, none⟩ = some (.int .u64 (R[k].pos : Nat)) := by rw [HB5.out.cell (p := ⟨gg, k * 2, none⟩) hgl2]; exact k0
                  have c1 : wr.cell? ⟨gg, k * 2 + 1, none⟩ = some (.int .i64 (R[k].pages.length : Nat)) := by rw [HB5.out.cell (p := ⟨gg, k * 2 + 1, none⟩) hgl2]; exact k1
                  have hro := HRO.out _ (List.getElem_mem hlt5)
                  have h4 := hro.top
                  have h5 := hro.most
                  have hcg : cg ≤ 9223372036854775807 := by unfold maxLen at hcg2; omega
                  have HNX : Hid (inR R pq (k + 1) = (inR R pq k || (decide (R[k].pos ≤ pq) && decide (pq < R[k].pos + R[k].pages.length * 256)))) := inR_succ R pq k hlt5
                  unfold Rm.fin Rm.size at h4
                  unfold regs at hcg1
                  rw [List.length_map] at hcg1
                  clear k0 k1 hcell e0 hro
                  clear hjr
                  generalize R[k].pos = p at *
                  generalize R[k].pages.length = m at *
                  cases hin : inR R pq k with
                  | true =>
                    rw [hin, Bool.true_or] at HNX
                    go_wp2_with fail
                    go_quiet (fail)
                    all_goals go_wp2
                    go_roundw
                    case rel => exact ⟨k + 1, by omega, by go_num, by rw [HNX.out], HB5.out.os, HB5.out.tape, HB5.out.output, HB5.out.size, HB5.out.block⟩
                    case measure => simp [intOf]; omega
                  | false =>
                    rw [hin, Bool.false_or] at HNX
                    by_cases hc1 : p ≤ pq
                    · have hc1I : (p : Int) ≤ (pq : Int) := by omega
                      by_cases hc2 : pq < p + m * 256
                      · have hc2I : (pq : Int) < (p : Int) + (m : Int) * 256 := by omega
                        rw [decide_eq_true hc1, decide_eq_true hc2] at HNX
                        go_wp2_with fail
                        go_quiet (fail)
                        all_goals go_wp2
                        go_roundw
                        case rel => exact ⟨k + 1, by omega, by go_num, by rw [HNX.out]; rfl, HB5.out.os, HB5.out.tape, HB5.out.output, HB5.out.size, HB5.out.block⟩
                        case measure => simp [intOf]; omega
                      · have hc2I : ¬ (pq : Int) < (p : Int) + (m : Int) * 256 := by omega
                        rw [decide_eq_true hc1, decide_eq_false hc2] at HNX
                        go_wp2_with fail
                        go_quiet (fail)
                        all_goals go_wp2
                        go_roundw
                        case rel => exact ⟨k + 1, by omega, by go_num, (by rw [HNX.out]; congr 1; rw [decide_eq_false (by omega)]; rfl), HB5.out.os, HB5.out.tape, HB5.out.output, HB5.out.size, HB5.out.block⟩
                        case measure => simp [intOf]; omega
                    · have hc1I : ¬ (p : Int) ≤ (pq : Int) := by omega
                      rw [decide_eq_false hc1, Bool.false_and] at HNX
                      go_wp2_with fail
                      go_quiet (fail)
                      all_goals go_wp2
                      go_roundw
                      case rel => exact ⟨k + 1, by omega, by go_num, by rw [HNX.out], HB5.out.os, HB5.out.tape, HB5.out.output, HB5.out.size, HB5.out.block⟩
                      case measure => simp [intOf]; omega
                · have hltK : ¬ (k : Int) < (R.length : Int) := by omega
                  have hkn : k = R.length := by omega
                  subst hkn
                  rw [HIN.out]
                  have hm0 : ((pq : Int) % 256 != 0) = false := by rw [bne_eq_false_iff_eq]; omega
                  rcases HPC0.out _ HB5.out with hz | ⟨q', z, hz, cz, hzz⟩
                  · subst hz
                    go_wp2_with fail
                    go_quiet (fail)
                    all_goals go_wp2
                    go_roundw
                    case rel => exact ⟨0 + 1, by omega, by go_num, HB5.out.os, HB5.out.tape, HB5.out.output, HB5.out.size, HB5.out.block⟩
                    case measure => simp [intOf]; omega
                  · subst hz
                    have hzI : ¬ (pq : Int) ≤ (z : Int) := by omega
                    go_wp2_with fail
                    go_quiet (fail)
                    all_goals go_wp2
                    go_roundw
                    case rel => exact ⟨q' + 1 + 1, by omega, by go_num, HB5.out.os, HB5.out.tape, HB5.out.output, HB5.out.size, HB5.out.block⟩
                    case measure => simp [intOf]; omega
            · have hltQ : ¬ (q : Int) < (PP.length : Int) := by omega
              have hUse := vm_Used wr _ _ _ (PA3.out.spn.at_.stay HB4.out) PA3.out.ok
              rw [HRR.out] at hUse
              have hbb : (used R : Int) ≤ (b : Int) := by have := HK.out.use; rw [HRR.out, HBUD.out] at this; omega
              have heI : (en : Int) ≤ 1099511627776 := by omega
              have HBF : Hid (Below w.heap.size w wr) := PA3.out.spn.below.trans (HB4.out.mono PA3.out.spn.below.size)
              go_wp2_with (first | (go_at_call 17; refine hUse.mono ?_; rintro e w8 ⟨rfl, hb8⟩; have HB8 := hide hb8; clear hb8) | (go_at_call 14; refine (alive _).mono ?_; rintro e w9 ⟨rfl, hb9⟩; have HB9 := hide hb9; clear hb9))
              go_ret
              exact ⟨rfl, (HBF.out.trans (HB8.out.mono HBF.out.size)).trans (HB9.out.mono (Nat.le_trans HBF.out.size HB8.out.size))⟩
end LVmemApart
end Go.Proofs.Ytnmeabefledjlaa
