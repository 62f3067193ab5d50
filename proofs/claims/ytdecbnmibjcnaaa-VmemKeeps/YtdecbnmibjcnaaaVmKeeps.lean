
/-
  VmemKeeps's walk, where the space is made.
-/
import Derived.Test.YtdecbnmibjcnaaaVmPi
import Derived.WalkKit
import Derived.ProofKit
import Derived.OpenShut
import Derived.ShutString
import Derived.ChangeOld
import Derived.Below
set_option linter.unusedVariables false
namespace Go.Proofs.Ytdecbnmibjcnaaa
open Go.RowKit Go.PlainAid
theorem IsOp7.stay {w w' : World} {y p : Nat} {x : OpN} {vd : Value} (h : IsOp7 w y p x vd) (hb : Below w.heap.size w w') : IsOp7 w' y p x vd := by
  have hy : y < w.heap.size := World.block_lt_of_cell? _ _ h.c0
  obtain ⟨c0, c1, c2, c3, c4, c5, c6⟩ := h.s7.below hy hb
  exact ⟨c0, c1, c2, c3, c4, c5, c6, h.ok, h.src.turn (Turn.of_below hb)⟩
theorem IsOps.stay {w w' : World} {a : Option Addr} {len cap : Nat} (h : IsOps w a len cap) (hb : Below w.heap.size w w') : IsOps w' a len cap := by
  obtain ⟨h1, h2, h3⟩ := h
  refine ⟨h1, h2, ?_⟩
  rcases h3 with h3 | ⟨y, o, e, h3⟩
  · exact .inl h3
  · exact .inr ⟨y, o, e, fun i hi => by obtain ⟨x, vd, hx⟩ := h3 i hi; exact ⟨x, vd, hx.stay hb⟩⟩
/-- The call that came in by itself, in its box. -/
structure Bx7 (w W : World) (B : Nat) (x : OpN) (vd : Value) : Prop where
  s7 : S7 B 0 x vd W
  src : Src W (fun _ => False) vd x.data
  bl : Below w.heap.size w W
theorem Bx7.start (w : World) (x : OpN) (vd : Value) (hs : Src w (fun _ => False) vd x.data) : Bx7 w (w.alloc (.cells (x.cells vd) 46)) w.heap.size x vd := by
  have hb : Below w.heap.size w (w.alloc (.cells (x.cells vd) 46)) := (Below.refl _ w).alloc (Nat.le_refl _) _
  refine ⟨?_, hs.turn (Turn.of_below hb), hb⟩
  unfold OpN.cells
  refine ⟨?_, ?_, ?_, ?_, ?_, ?_, ?_⟩ <;> simp
theorem PlayAt.srcD {w W : World} {S : Nat} {v : Value} {sp : Sp} {vr : Value} {rs : List Nat} (h : PlayAt w W S v sp vr rs) {vd : Value} {d : List UInt8} (hs : Src w (fun _ => False) vd d) : Src W (· ∈ foot S v sp.rooms) vd d := by
  have h1 : Src w (fun k => w.heap.size ≤ k) vd d := hs.mono (fun k hk e => absurd e (by omega))
  have h2 : Src W (fun k => w.heap.size ≤ k) vd d := h1.turn ⟨h.spn.below.os, h.spn.below.tape, h.spn.below.output, h.spn.below.size, fun k hk _ => h.spn.below.block k hk⟩
  exact h2.sub (fun k hk => h.spn.new k hk)
set_option maxHeartbeats 4000000 in
set_option maxRecDepth 20000 in
theorem keeps_ok (w : World) (b : Nat) (hb0 : 1 ≤ b) (hb1 : b ≤ 1024) (a : Option Addr) (len cap : Nat) (h : IsOps w a len cap) (x : OpN) (vd : Value) (hxok : x.data.length ≤ 2048 → x.ok) (hsrc : Src w (fun _ => False) vd x.data) :
    Calls Try.prog 5 #[.int .i64 b, .slice a len cap, .agg (x.cells vd)] w fun e w' => e = .returned (.bool true) ∧ Below w.heap.size w w' := by
  have B7 := Bx7.start w x vd hsrc
  have hBig := law_big _ a len cap (h.stay B7.bl)
  have hsz : (w.alloc (.cells (x.cells vd) 46)).heap.size = w.heap.size + 1 := by simp
  obtain ⟨hlc, hcm, _⟩ := h
  have hcap : cap ≤ 9223372036854775807 := by unfold maxLen at hcm; omega
  have hNew := vm_New (w.alloc (.cells (x.cells vd) 46)) b hb0 hb1
  obtain ⟨sa, sc, rfl, sa1, sa2, _⟩ := id hsrc
  unfold OpN.cells at *
  obtain ⟨c0, c1, c2, c3, c4, c5, c6⟩ := id B7.s7
  have HB7 := hide B7
  have HSZ := hide hsz
  clear B7 hsz hsrc
  go_enter Try.func5, Try.ntmps5
  go_wp2_with fail
  generalize w.alloc (.cells #[.int .i64 x.kind, .int .i64 x.room, .int .u64 x.off, .int .u64 x.size, .int .i64 x.prot, .int .u64 x.hint, .slice sa x.data.length sc] 46) = w0 at *
  refine hBig.mono ?_
  rintro e w' ⟨⟨bb, rfl, hBB⟩, hw⟩
  rw [← hw]
  clear hw hBig
  rcases hBB with rfl | ⟨rfl, hops⟩
  · go_wp2
    go_ret
    exact ⟨rfl, HB7.out.bl⟩
  by_cases hbig : 2048 < x.data.length
  · have hbI : (2048 : Int) < (x.data.length : Int) := by omega
    clear hbig
    go_wp2
    go_ret
    exact ⟨rfl, HB7.out.bl⟩
  have HOPS : Hid (OpsOk w0 a len) := hops
  have HXOK : Hid x.ok := hxok (by omega)
  have hbI : ¬ (2048 : Int) < (x.data.length : Int) := by omega
  have hl60 : len ≤ 60 := hops.1
  clear hops hbig hxok
  go_wp2_with fail
  refine hNew.mono ?_
  rintro e w1 ⟨rfl, n1, n2⟩
  have hok0 : (⟨b, []⟩ : Sp).ok := ⟨hb0, hb1, Nat.zero_le _, fun r hr => absurd hr (by simp), List.Pairwise.nil⟩
  have P0 : Hid (PlayJ w0 w1 w0.heap.size (.slice none 0 0) 0) := ⟨_, ⟨b, []⟩, [], ⟨⟨n1, fun k hk => by simp [foot, Value.ownBlock] at hk; omega, n2⟩, hok0, OwnU.nil _ _, fun g hg => by simp [Value.ownBlock] at hg⟩, by simp⟩
  have H7 : Hid (∀ W, Below w0.heap.size w0 W → S7 w.heap.size 0 x (.slice sa x.data.length sc) W) := fun W hW => HB7.out.s7.below (by rw [HSZ.out]; omega) hW
  clear n1 n2 hNew hok0 c0 c1 c2 c3 c4 c5 c6
  go_wp2
  go_loopw [9, 10] (fun vr vi wr => ∃ i : Nat, i ≤ len ∧ vi = .int .i64 i ∧ Hid (PlayJ w0 wr w0.heap.size vr i)) (fun _ vi _ => len - (intOf vi).toNat)
  case atStart => exact ⟨0, by omega, rfl, P0⟩
  case round =>
    obtain ⟨i, hi, rfl, HP⟩ := hrel
    obtain ⟨v, sp, rs, hP, hrl⟩ := HP
    by_cases hlt : i < len
    · have hltI : (i : Int) < (len : Int) := by omega
      have hPg := vm_Pages wr _ v sp hP.spn.at_ hP.ok
      have HPA := hide hP
      have HRL : Hid (rs.length ≤ i) := hrl
      have HLF : Hid (∀ k ∈ foot w0.heap.size v sp.rooms, k < wr.heap.size) := hP.spn.at_.foot_lt
      have HLV : Hid (∀ g, u9.ownBlock = some g → g < wr.heap.size) := fun g hg => (World.ownsRow.lt hP.own g hg).2
      clear hP hrl
      go_wp2_with fail
      refine hPg.mono ?_
      rintro e wa ⟨⟨vp, rfl, hOw⟩, hbw⟩
      have PA := hide (HPA.out.stay hbw)
      have hUs := vm_Used wa _ v sp PA.out.spn.at_ PA.out.ok
      have HOW := hide hOw
      have HSW : Hid (wr.heap.size ≤ wa.heap.size) := hbw.size
      generalize wr.heap.size = Bw at *
      clear hPg HPA hOw hbw
      go_wp2_with fail
      refine hUs.mono ?_
      rintro e wu ⟨rfl, hbu⟩
      have hP := PA.out.stay hbu
      have HOU := hide (HOW.out.stay hbu)
      have HSU : Hid (Bw ≤ wu.heap.size) := Nat.le_trans HSW.out hbu.size
      have PU := hide hP
      clear hUs hbu PA HOW HSW
      obtain ⟨y, o, rfl, hx⟩ : ∃ y o, a = some ⟨y, o, none⟩ ∧ ∀ i, i < len → ∃ x vd, IsOp7 w0 y (o + i * 7) x vd ∧ x.ok := by
        rcases HOPS.out.2 with e | e
        · omega
        · exact e
      obtain ⟨z, vz, I, hzok⟩ := hx i hlt
      have hyl : y < w0.heap.size := World.block_lt_of_cell? _ _ I.c0
      have hyne : y ≠ wu.heap.size := by have := hP.spn.below.size; omega
      have HS7 : Hid (∀ W, Below w0.heap.size w0 W → S7 y (o + i * 7) z vz W) := fun W hW => I.s7.below hyl hW
      have HDN : Hid (∀ W, Below wu.heap.size wu W → Calls Try.prog 19 #[.pointer (some ⟨w0.heap.size, 0, none⟩), .agg (z.cells vz), u9, .int .u64 z.hint] W fun e W' => e = .returned (.agg (doO sp z rs z.hint).cells) ∧ ∃ blk v', PlayAt w0 W' w0.heap.size v' (doS sp z rs z.hint blk) u9 rs ∧ Turn (· ∈ foot w0.heap.size v sp.rooms) W W' ∧ ∀ k ∈ foot w0.heap.size v' (doS sp z rs z.hint blk).rooms, k ∈ foot w0.heap.size v sp.rooms ∨ W.heap.size ≤ k) := fun W hW => play_done w0 W w0.heap.size v sp u9 rs (hP.stay hW) z hzok vz I.src z.hint hzok.h1
      have bw1 : Below wu.heap.size wu wu.drew := ⟨rfl, rfl, rfl, Nat.le_refl _, fun _ _ => rfl⟩
      have bw2 : Below wu.heap.size wu ((wu.alloc (.cells #[.int .i64 0, .string ⟨#[]⟩, .int .u64 0, .bool false] 49)).drew) := (((Below.refl _ wu).alloc (Nat.le_refl _) _)).drew
      have DD := HS7.out wu.drew (hP.spn.below.trans (bw1.mono hP.spn.below.size))
      have EE := HS7.out _ (hP.spn.below.trans (bw2.mono hP.spn.below.size))
      unfold S7 at DD EE
      obtain ⟨d0, d1, d2, d3, d4, d5, d6⟩ := id DD
      obtain ⟨e0, e1, e2, e3, e4, e5, e6⟩ := id EE
      have BW1 := hide bw1
      have BW2 := hide bw2
      have HNF : Hid (¬ (wu.heap.size ∈ foot w0.heap.size v sp.rooms)) := fun hm => Nat.lt_irrefl _ (hP.spn.at_.foot_lt _ hm)
      obtain ⟨za, zc, rfl, _, _, _⟩ := I.src
      obtain ⟨ra, rc, hra⟩ := hP.own.isSlice
      obtain ⟨O, hO⟩ : ∃ O, doO sp z rs z.hint = O := ⟨_, rfl⟩
      rw [hO] at HDN
      unfold Out.cells OpN.cells at HDN
      have HO : Hid (doO sp z rs z.hint = O) := hO
      have HVP : Hid (∀ g, vp.ownBlock = some g → Bw ≤ g ∧ g < wu.heap.size) := fun g hg => World.ownsRow.lt HOU.out g hg
      obtain ⟨us, hus⟩ : ∃ us : Nat, used sp.rooms = us := ⟨_, rfl⟩
      rw [hus]
      have HUS : Hid (used sp.rooms = us) := hus
      clear hP I hx hO bw1 bw2 hus
      subst hra
      go_wp2_with fail
      go_region_held_law (fun w' => w'.cell? ⟨y, o + i * 7, none⟩ = some (.int .i64 z.kind) ∧ w'.cell? ⟨y, o + i * 7 + 1, none⟩ = some (.int .i64 z.room) ∧ w'.cell? ⟨y, o + i * 7 + 2, none⟩ = some (.int .u64 z.off) ∧ w'.cell? ⟨y, o + i * 7 + 3, none⟩ = some (.int .u64 z.size) ∧ w'.cell? ⟨y, o + i * 7 + 4, none⟩ = some (.int .i64 z.prot) ∧ w'.cell? ⟨y, o + i * 7 + 5, none⟩ = some (.int .u64 z.hint) ∧ w'.cell? ⟨y, o + i * 7 + 6, none⟩ = some (.slice za z.data.length zc))
        (first | with_reducible assumption | with_reducible exact GA | with_reducible exact GP _ _ _ _ | with_reducible exact GB _)
        (first
          | (go_at_call 19; refine (HDN.out _ (by first | exact BW1.out | exact BW2.out)).mono ?_; rintro e W2 ⟨rfl, blk, v2, P2, T2, F2⟩; have HF2 := hide F2; clear F2; have GG := HS7.out W2 P2.spn.below; have GA := S7.alloc GG (.cells #[.int .i64 0, .string ⟨#[]⟩, .int .u64 0, .bool false] 49); have GB := fun o => S7.alloc GG o; have GP := fun a b c d => S7.put4 GG hyne a b c d; have H2 := hide P2; have HT2 := hide T2; first | (obtain ⟨a0, a1, a2, a3, f0, f1, f2, f3⟩ := anB_of T2 HNF.out; clear P2 T2) | (clear P2 T2)))
      · have hF : ∀ g, vp.ownBlock = some g → ¬ (g ∈ foot w0.heap.size v sp.rooms) := fun g hg hm => by
          have h1 := HLF.out g hm
          have h2 := (HVP.out g hg).1
          omega
        have bA : Below W2.heap.size W2 (W2.alloc (.cells #[.int .i64 O.e, .string (txt O.b), .int .u64 O.at_, .bool O.room] 49)) := (Below.refl _ W2).alloc (Nat.le_refl _) _
        have q0 : (W2.alloc (.cells #[.int .i64 O.e, .string (txt O.b), .int .u64 O.at_, .bool O.room] 49)).cell? ⟨W2.heap.size, 0, none⟩ = some (.int .i64 O.e) := by simp
        have q2 : (W2.alloc (.cells #[.int .i64 O.e, .string (txt O.b), .int .u64 O.at_, .bool O.room] 49)).cell? ⟨W2.heap.size, 2, none⟩ = some (.int .u64 O.at_) := by simp
        have q3 : (W2.alloc (.cells #[.int .i64 O.e, .string (txt O.b), .int .u64 O.at_, .bool O.room] 49)).cell? ⟨W2.heap.size, 3, none⟩ = some (.bool O.room) := by simp
        have A := hide (Aft.mk (w := w0) (H2.out.stay bA) (((HOU.out.stay BW1.out).turn HT2.out hF).stay bA) HLV.out q0 q2 q3 (fun e => by
          have h1 := HLV.out _ e
          have h2 := HSU.out
          have h3 := Nat.le_trans BW1.out.size HT2.out.size
          omega))
        clear hF bA
        clear GG GA GB GP DD EE d0 d1 d2 d3 d4 d5 d6 e0 e1 e2 e3 e4 e5 e6 H2 HT2
        generalize W2.alloc (.cells #[.int .i64 O.e, .string (txt O.b), .int .u64 O.at_, .bool O.room] 49) = W3 at *
        generalize W2.heap.size = bx at *
        cases hroom : O.room with
        | true =>
          have hE0 : O.e = 0 := by have := HO.out; rw [← this] at hroom ⊢; exact doO_room _ _ _ _ hroom
          rw [hroom] at q3
          go_wp2_with (at_builtin; refine append_u64 rfl _ _ rfl w0.heap.size W3 _ rs A.out.play.own O.at_ rfl rfl (by have := HRL.out; omega) A.out.play.spn.below.size ?_)
          intro vr4 W4 h1 h2 h3
          obtain ⟨P4, q4⟩ := A.out.append h1 h2 h3
          rw [hE0] at q4
          have HP4 := hide P4
          obtain ⟨ra4, rc4, hra4⟩ := h1.isSlice
          clear h1 h2 h3 P4 q0 q2 q3 hE0
          go_wp2
          go_roundw
          case rel => exact ⟨i + 1, by omega, by go_num, _, _, _, HP4.out, by rw [List.length_append]; have := HRL.out; simp; omega⟩
          case measure => simp [intOf]; omega
        | false =>
          rw [hroom] at q3
          by_cases hE : O.e = 0
          · rw [hE] at q0
            go_wp2
            go_roundw
            case rel => exact ⟨i + 1, by omega, by go_num, _, _, _, A.out.play, Nat.le_succ_of_le HRL.out⟩
            case measure => simp [intOf]; omega
          · have hEI : ¬ ((O.e : Nat) : Int) = 0 := by omega
            have hsm : doS sp z rs z.hint blk = sp := doS_same sp z rs z.hint blk (by rw [HO.out]; exact hE)
            have P3 : Hid (PlayAt w0 W3 w0.heap.size v2 sp (.slice ra rs.length rc) rs) := by have := A.out.play; rw [hsm] at this; exact this
            have hPg := vm_Pages W3 _ v2 sp P3.out.spn.at_ P3.out.ok
            clear hE hsm
            go_wp2_with fail
            refine hPg.mono ?_
            rintro e W5 ⟨⟨vq, rfl, hOq⟩, hb5⟩
            have P5 := hide (P3.out.stay hb5)
            have hPs : Calls Try.prog 22 #[vp, vq, .int .u64 0, .int .u64 0] W5 fun e w' => e = .returned (.bool true) ∧ Below W5.heap.size W5 w' := pages_true W5 vp vq _ _ sp sp P3.out.ok P3.out.ok (A.out.was.stay hb5) hOq 0 0 (by omega) (Sides.refl _ _ _)
            clear hPg hOq hb5 P3
            go_wp2_with fail
            refine hPs.mono ?_
            rintro e W6 ⟨rfl, hb6⟩
            have P6 := hide (P5.out.stay hb6)
            have hUs := vm_Used W6 _ v2 sp P6.out.spn.at_ P6.out.ok
            rw [HUS.out] at hUs
            clear hPs hb6 P5
            go_wp2_with fail
            refine hUs.mono ?_
            rintro e W7 ⟨rfl, hb7⟩
            have P7 := hide (P6.out.stay hb7)
            clear hUs hb7 P6
            go_wp2
            go_roundw
            case rel => exact ⟨i + 1, by omega, by go_num, _, _, _, P7.out, Nat.le_succ_of_le HRL.out⟩
            case measure => simp [intOf]; omega
      · have hF : ∀ g, vp.ownBlock = some g → ¬ (g ∈ foot w0.heap.size v sp.rooms) := fun g hg hm => by
          have h1 := HLF.out g hm
          have h2 := (HVP.out g hg).1
          omega
        have hvb : Value.ownBlock (.slice ra rs.length rc) ≠ some wu.heap.size := fun e => by
          have h1 := HLV.out _ e
          have h2 := HSU.out
          omega
        have P3 := H2.out.turn1 (turn_put W2 wu.heap.size (.int .i64 O.e) (.string (txt O.b)) (.int .u64 O.at_) (.bool O.room)) (fun hm => by
          rcases HF2.out _ hm with e | e
          · exact HNF.out e
          · have : ((wu.alloc (.cells #[.int .i64 0, .string ⟨#[]⟩, .int .u64 0, .bool false] 49)).drew).heap.size = wu.heap.size + 1 := by simp
            omega) hvb PU.out.spn.below.size
        have q0 : ((((W2.setCell ⟨wu.heap.size, 0, none⟩ (.int .i64 O.e)).setCell ⟨wu.heap.size, 1, none⟩ (.string (txt O.b))).setCell ⟨wu.heap.size, 2, none⟩ (.int .u64 O.at_)).setCell ⟨wu.heap.size, 3, none⟩ (.bool O.room)).cell? ⟨wu.heap.size, 0, none⟩ = some (.int .i64 O.e) := by go_simp
        have q2 : ((((W2.setCell ⟨wu.heap.size, 0, none⟩ (.int .i64 O.e)).setCell ⟨wu.heap.size, 1, none⟩ (.string (txt O.b))).setCell ⟨wu.heap.size, 2, none⟩ (.int .u64 O.at_)).setCell ⟨wu.heap.size, 3, none⟩ (.bool O.room)).cell? ⟨wu.heap.size, 2, none⟩ = some (.int .u64 O.at_) := by go_simp
        have q3 : ((((W2.setCell ⟨wu.heap.size, 0, none⟩ (.int .i64 O.e)).setCell ⟨wu.heap.size, 1, none⟩ (.string (txt O.b))).setCell ⟨wu.heap.size, 2, none⟩ (.int .u64 O.at_)).setCell ⟨wu.heap.size, 3, none⟩ (.bool O.room)).cell? ⟨wu.heap.size, 3, none⟩ = some (.bool O.room) := by go_simp
        have A := hide (Aft.mk (w := w0) P3 (((HOU.out.stay BW2.out).turn HT2.out hF).turn (turn_put W2 wu.heap.size (.int .i64 O.e) (.string (txt O.b)) (.int .u64 O.at_) (.bool O.room)) (fun g hg e => by have := (HVP.out g hg).2; omega)) HLV.out q0 q2 q3 hvb)
        clear hF P3 hvb
        clear GG GA GB GP DD EE d0 d1 d2 d3 d4 d5 d6 e0 e1 e2 e3 e4 e5 e6 H2 HT2 a0 a1 a2 a3 f0 f1 f2 f3
        generalize ((((W2.setCell ⟨wu.heap.size, 0, none⟩ (.int .i64 O.e)).setCell ⟨wu.heap.size, 1, none⟩ (.string (txt O.b))).setCell ⟨wu.heap.size, 2, none⟩ (.int .u64 O.at_)).setCell ⟨wu.heap.size, 3, none⟩ (.bool O.room)) = W3 at *
        cases hroom : O.room with
        | true =>
          have hE0 : O.e = 0 := by have := HO.out; rw [← this] at hroom ⊢; exact doO_room _ _ _ _ hroom
          rw [hroom] at q3
          go_wp2_with (at_builtin; refine append_u64 rfl _ _ rfl w0.heap.size W3 _ rs A.out.play.own O.at_ rfl rfl (by have := HRL.out; omega) A.out.play.spn.below.size ?_)
          intro vr4 W4 h1 h2 h3
          obtain ⟨P4, q4⟩ := A.out.append h1 h2 h3
          rw [hE0] at q4
          have HP4 := hide P4
          obtain ⟨ra4, rc4, hra4⟩ := h1.isSlice
          clear h1 h2 h3 P4 q0 q2 q3 hE0
          go_wp2
          go_roundw
          case rel => exact ⟨i + 1, by omega, by go_num, _, _, _, HP4.out, by rw [List.length_append]; have := HRL.out; simp; omega⟩
          case measure => simp [intOf]; omega
        | false =>
          rw [hroom] at q3
          by_cases hE : O.e = 0
          · rw [hE] at q0
            go_wp2
            go_roundw
            case rel => exact ⟨i + 1, by omega, by go_num, _, _, _, A.out.play, Nat.le_succ_of_le HRL.out⟩
            case measure => simp [intOf]; omega
          · have hEI : ¬ ((O.e : Nat) : Int) = 0 := by omega
            have hsm : doS sp z rs z.hint blk = sp := doS_same sp z rs z.hint blk (by rw [HO.out]; exact hE)
            have P3 : Hid (PlayAt w0 W3 w0.heap.size v2 sp (.slice ra rs.length rc) rs) := by have := A.out.play; rw [hsm] at this; exact this
            have hPg := vm_Pages W3 _ v2 sp P3.out.spn.at_ P3.out.ok
            clear hE hsm
            go_wp2_with fail
            refine hPg.mono ?_
            rintro e W5 ⟨⟨vq, rfl, hOq⟩, hb5⟩
            have P5 := hide (P3.out.stay hb5)
            have hPs : Calls Try.prog 22 #[vp, vq, .int .u64 0, .int .u64 0] W5 fun e w' => e = .returned (.bool true) ∧ Below W5.heap.size W5 w' := pages_true W5 vp vq _ _ sp sp P3.out.ok P3.out.ok (A.out.was.stay hb5) hOq 0 0 (by omega) (Sides.refl _ _ _)
            clear hPg hOq hb5 P3
            go_wp2_with fail
            refine hPs.mono ?_
            rintro e W6 ⟨rfl, hb6⟩
            have P6 := hide (P5.out.stay hb6)
            have hUs := vm_Used W6 _ v2 sp P6.out.spn.at_ P6.out.ok
            rw [HUS.out] at hUs
            clear hPs hb6 P5
            go_wp2_with fail
            refine hUs.mono ?_
            rintro e W7 ⟨rfl, hb7⟩
            have P7 := hide (P6.out.stay hb7)
            clear hUs hb7 P6
            go_wp2
            go_roundw
            case rel => exact ⟨i + 1, by omega, by go_num, _, _, _, P7.out, Nat.le_succ_of_le HRL.out⟩
            case measure => simp [intOf]; omega
    · have hltI : ¬ (i : Int) < (len : Int) := by omega
      have HSRC : Hid (Src w0 (fun _ => False) (.slice sa x.data.length sc) x.data) := HB7.out.src
      have hPg := vm_Pages wr _ v sp hP.spn.at_ hP.ok
      obtain ⟨ra, rc, hra⟩ := hP.own.isSlice
      subst hra
      have HK := hide hP.ok
      have HPA := hide hP
      clear hP
      go_wp2_with fail
      refine hPg.mono ?_
      rintro e wa ⟨⟨vp, rfl, hOw⟩, hbw⟩
      have PA := hide (HPA.out.stay hbw)
      have hvp : Hid (∀ g, vp.ownBlock = some g → g ∉ foot w0.heap.size v sp.rooms) := fun g hg hm => by
        have h1 := HPA.out.spn.at_.foot_lt g hm
        have h2 := (World.ownsRow.lt hOw g hg).1
        omega
      have HOW := hide hOw
      have BWA : Hid (Below w0.heap.size w0 wa) := PA.out.spn.below
      clear hOw hbw hPg HPA
      have hPl := law_place wa (· ∈ foot w0.heap.size v sp.rooms) x HXOK.out sa x.data.length sc _ rs (PA.out.own.src PA.out.ap)
      unfold OpN.cells at hPl
      obtain ⟨e0, e1, e2, e3, e4, e5, e6⟩ := H7.out wa BWA.out
      go_wp2_with fail
      refine hPl.mono ?_
      rintro e wb ⟨rfl, hbb⟩
      clear hPl e0 e1 e2 e3 e4 e5 e6
      have PB := hide (PA.out.stay hbb)
      have HOB := hide (HOW.out.stay hbb)
      have hWr := vm_Write wb _ v sp PB.out.spn.at_ PB.out.ok (placeN x rs) (placeN_le x HXOK.out rs) _ x.data (PB.out.srcD HSRC.out) (by omega)
      obtain ⟨e0, e1, e2, e3, e4, e5, e6⟩ := H7.out wb PB.out.spn.below
      have HPL : Hid ((placeN x rs : Int) ≤ 18446744073709551615) := placeN_le x HXOK.out rs
      clear hbb PA HOW BWA
      obtain ⟨q, hq⟩ : ∃ q, placeN x rs = q := ⟨_, rfl⟩
      rw [hq] at hWr HPL ⊢
      clear hq
      go_wp2_with fail
      refine hWr.mono ?_
      rintro e wc ⟨rfl, hsc, htc⟩
      clear hWr e0 e1 e2 e3 e4 e5 e6
      have HKC := hide (wrS_ok HK.out q x.data)
      have HOC := hide (HOB.out.turn htc hvp.out)
      have HBC : Hid (Below w0.heap.size w0 wc) := PB.out.spn.below.trans (htc.below PB.out.spn.below.size (fun k hk => PB.out.spn.new k hk))
      have hPg := vm_Pages wc _ v _ hsc HKC.out
      have HSC := hide hsc
      clear hsc htc HOB PB
      go_wp2_with fail
      refine hPg.mono ?_
      rintro e wd ⟨⟨vq, rfl, hOq⟩, hbq⟩
      have HOD := hide (HOC.out.stay hbq)
      have HOQ := hide hOq
      have HSD := hide (HSC.out.stay hbq)
      have HBD : Hid (Below w0.heap.size w0 wd) := HBC.out.trans (hbq.mono HBC.out.size)
      clear hPg hOq hbq HOC HBC HSC
      have HFIN : Hid (∀ W, Below wd.heap.size wd W → Below w.heap.size w W) := fun W hW => HB7.out.bl.trans ((HBD.out.trans (hW.mono HBD.out.size)).mono (by rw [HSZ.out]; omega))
      by_cases hE : wrE sp q x.data = 0
      · have hrd := wr_rd HK.out q x.data hE
        have hEI : ((wrE sp q x.data : Nat) : Int) = 0 := by omega
        have HSI := hide (wr_sides HK.out q x.data)
        have hRd := vm_Read wd _ v _ HSD.out HKC.out q x.data.length HPL.out (by omega)
        obtain ⟨e0, e1, e2, e3, e4, e5, e6⟩ := H7.out wd HBD.out
        clear hE
        rcases hrd with h54 | ⟨h0, hB⟩
        · rw [h54] at hRd
          clear h54
          go_wp2_with fail
          refine hRd.mono ?_
          rintro e we ⟨⟨vb, rfl, hsb⟩, hbe⟩
          have HBE : Hid (Below w0.heap.size w0 we) := HBD.out.trans (hbe.mono HBD.out.size)
          clear e0 e1 e2 e3 e4 e5 e6 hsb hRd
          obtain ⟨e0, e1, e2, e3, e4, e5, e6⟩ := H7.out we HBE.out
          have hPs := pages_true we vp vq _ _ sp _ HK.out HKC.out (HOD.out.stay hbe) (HOQ.out.stay hbe) q x.data.length HPL.out HSI.out
          go_wp2_with fail
          refine hPs.mono ?_
          rintro e wf ⟨rfl, hbf⟩
          go_wp2_with (go_at_call 17; refine (alive _).mono ?_; rintro e w9 ⟨rfl, hb9⟩)
          go_ret
          exact ⟨rfl, HFIN.out _ (hbe.trans ((hbf.trans (hb9.mono hbf.size)).mono hbe.size))⟩
        · rw [h0, hB] at hRd
          clear h0 hB
          go_wp2_with fail
          refine hRd.mono ?_
          rintro e we ⟨⟨vb, rfl, hsb⟩, hbe⟩
          have HBE : Hid (Below w0.heap.size w0 we) := HBD.out.trans (hbe.mono HBD.out.size)
          have tb := hsb.text
          have td := (HSRC.out.turn (Turn.of_below HBE.out)).text
          clear e0 e1 e2 e3 e4 e5 e6 hsb hRd
          obtain ⟨e0, e1, e2, e3, e4, e5, e6⟩ := H7.out we HBE.out
          have hPs := pages_true we vp vq _ _ sp _ HK.out HKC.out (HOD.out.stay hbe) (HOQ.out.stay hbe) q x.data.length HPL.out HSI.out
          go_wp2_with fail
          refine hPs.mono ?_
          rintro e wf ⟨rfl, hbf⟩
          go_wp2_with (go_at_call 17; refine (alive _).mono ?_; rintro e w9 ⟨rfl, hb9⟩)
          go_ret
          exact ⟨rfl, HFIN.out _ (hbe.trans ((hbf.trans (hb9.mono hbf.size)).mono hbe.size))⟩
      · have hEI : ¬ ((wrE sp q x.data : Nat) : Int) = 0 := by omega
        have hPs : Calls Try.prog 22 #[vp, vq, .int .u64 0, .int .u64 0] wd fun e w' => e = .returned (.bool true) ∧ Below wd.heap.size wd w' := pages_true wd vp vq _ _ sp _ HK.out HKC.out HOD.out HOQ.out 0 0 (by omega) (by rw [wrS_same hE]; exact Sides.refl _ _ _)
        clear hE
        go_wp2_with fail
        refine hPs.mono ?_
        rintro e we ⟨rfl, hbe⟩
        go_wp2_with (go_at_call 17; refine (alive _).mono ?_; rintro e w9 ⟨rfl, hb9⟩)
        go_ret
        exact ⟨rfl, HFIN.out _ (hbe.trans (hb9.mono hbe.size))⟩
end Go.Proofs.Ytdecbnmibjcnaaa
