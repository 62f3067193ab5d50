
/-
  VmemHints's walk, where the spaces are made.
-/
import Derived.Test.YtdecbnmibjcnaaaVmRa
import Derived.WalkKit
import Derived.ProofKit
import Derived.OpenShut
import Derived.ShutString
import Derived.ChangeOld
import Derived.Below
import Derived.BigQuiet
import Derived.Deep.CutRange
set_option linter.unusedVariables false
namespace Go.Proofs.Ytdecbnmibjcnaaa
namespace LVmemHints
open Go.RowKit Go.PlainAid
/-- What the walk is told of a slice of integers that came in. -/
def IsRow (k : IntKind) (w : World) (a : Option Addr) (len cap : Nat) (zs : List Int) : Prop :=
  (a = none ∧ len = 0 ∧ cap = 0 ∧ zs = []) ∨
  ∃ x, a = some x ∧ len ≤ cap ∧ cap ≤ maxLen ∧ zs.length = cap ∧ (∀ i, i < zs.length → w.cell? (x.add i) = some (.int k (zs.getD i 0))) ∧ ∀ n ∈ zs, (Lit.int k n).wf = true
/-- One hint out of the row. -/
theorem IsRow.hint {w : World} {a : Option Addr} {len cap : Nat} {zs : List Int} (h : IsRow .u64 w a len cap zs) (hl : 0 < len) (i : Nat) (hi : i < len) : ∃ (y o hn : Nat), a = some ⟨y, o, none⟩ ∧ y < w.heap.size ∧ w.cell? ⟨y, o + i, none⟩ = some (.int .u64 (hn : Int)) ∧ (hn : Int) ≤ 18446744073709551615 := by
  rcases h with ⟨_, h0, _⟩ | ⟨x, rfl, h1, h2, h3, h4, h5⟩
  · omega
  · obtain ⟨y, o, rfl, hc⟩ := ints_at h4 (by omega)
    have hci := hc i (by omega)
    have hlt := World.block_lt_of_cell? _ _ hci
    have hm : zs.getD i 0 ∈ zs := by
      rw [List.getD, List.getElem?_eq_getElem (by omega)]
      exact List.getElem_mem _
    have hb := bounds_u64 (h5 _ hm)
    exact ⟨y, o, (zs.getD i 0).toNat, rfl, hlt, by rw [Int.toNat_of_nonneg hb.1]; exact hci, by omega⟩
theorem start3 {w w1 w2 : World} {b : Nat} (h0 : 1 ≤ b) (h1 : b ≤ 1024) (n1 : SpAt w1 w.heap.size (.slice none 0 0) ⟨b, []⟩) (n2 : Below w.heap.size w w1) (m1 : SpAt w2 w1.heap.size (.slice none 0 0) ⟨b, []⟩) (m2 : Below w1.heap.size w1 w2) : HintJ w w2 w.heap.size w1.heap.size (.slice none 0 0) (.slice none 0 0) (.slice none 0 0) 0 := by
  have hok0 : (⟨b, []⟩ : Sp).ok := ⟨h0, h1, Nat.zero_le _, fun r hr => absurd hr (by simp), List.Pairwise.nil⟩
  have hlt : w.heap.size < w1.heap.size := n1.foot_lt _ (by simp [foot])
  have hb2 : Below w.heap.size w w2 := n2.trans (m2.mono n2.size)
  have p1 : PlayAt w w2 w.heap.size (.slice none 0 0) ⟨b, []⟩ (.slice none 0 0) [] := ⟨⟨n1.stay m2, fun k hk => by simp [foot, Value.ownBlock] at hk; omega, hb2⟩, hok0, OwnU.nil _ _, fun g hg => by simp [Value.ownBlock] at hg⟩
  have p2 : PlayAt w w2 w1.heap.size (.slice none 0 0) ⟨b, []⟩ (.slice none 0 0) [] := ⟨⟨m1, fun k hk => by simp [foot, Value.ownBlock] at hk; omega, hb2⟩, hok0, OwnU.nil _ _, fun g hg => by simp [Value.ownBlock] at hg⟩
  refine ⟨_, _, ⟨b, []⟩, ⟨b, []⟩, [], [], [], ⟨⟨p1, p2, fun k hk hm => ?_, fun g hg => by simp [Value.ownBlock] at hg, fun g hg => by simp [Value.ownBlock] at hg, fun g hg => by simp [Value.ownBlock] at hg⟩, OwnN.nil _ _, fun g hg => by simp [Value.ownBlock] at hg, fun g hg => by simp [Value.ownBlock] at hg, fun g hg => by simp [Value.ownBlock] at hg, fun g hg => by simp [Value.ownBlock] at hg⟩, Two.start b h0 h1, Nat.le_refl _⟩
  simp [foot, Value.ownBlock] at hk hm
  omega
/-- The call as it stands in the box: no room below 0. -/
theorem boxed (x : OpN) (hx : x.ok) : ∃ z : OpN, z.ok ∧ 0 ≤ z.room ∧ z.data = x.data ∧ (x.room < 0 → z = { x with room := 0 }) ∧ (¬ x.room < 0 → z = x) := by
  by_cases h : x.room < 0
  · exact ⟨{ x with room := 0 }, ⟨hx.k0, hx.k1, by show (-9223372036854775808 : Int) ≤ 0; omega, by show (0 : Int) ≤ 9223372036854775807; omega, hx.o1, hx.s1, hx.p0, hx.p1, hx.h1, hx.d1⟩, Int.le_refl 0, rfl, fun _ => rfl, fun e => absurd h e⟩
  · exact ⟨x, hx, by omega, rfl, fun e => absurd e h, fun _ => rfl⟩
theorem _root_.Go.Proofs.Ytdecbnmibjcnaaa.Two.cap {sp sp' : Sp} {xs ys : List Nat} {ps : List (List Sh)} (h : Two sp sp' xs ys ps) (j : Nat) (h2 : j < ps.length) : ps[j].length * 256 ≤ 1099511627776 := by
  obtain ⟨b, r, hb, e1, e2⟩ := h.ma.room j (by rw [h.ma.len]; exact h2) h2
  have := (h.ka.each r (List.mem_of_getElem? hb)).top
  unfold Rm.fin Rm.size at this
  rw [← e2]
  omega
/-- A call goes on behind the first test, and behind the second one. -/
def Good1 (z : OpN) (ns : List Nat) : Prop := 2 ≤ kindN z.kind → ns ≠ [] ∧ z.off + z.size ≤ ns.getD (z.room.toNat % ns.length) 0 * 256 ∧ kindN z.kind ≠ 5
def Good2 (z : OpN) (ns : List Nat) : Prop := 6 < kindN z.kind → z.off + z.data.length + 8 ≤ ns.getD (z.room.toNat % ns.length) 0 * 256
theorem next0 {w W : World} {S T : Nat} {va vb : Value} {sp sp' : Sp} {vx vy vp : Value} {xs ys : List Nat} {ps qs : List (List Sh)} {i : Nat} (h : Trio w W S T va vb sp sp' vx vy vp xs ys (ps.map List.length)) (hq : Two sp sp' xs ys qs) (e : qs.map List.length = ps.map List.length) (hl : ps.length ≤ i) : Hid (HintJ w W S T vx vy vp (i + 1)) := by
  refine ⟨va, vb, sp, sp', xs, ys, qs, by rw [e]; exact h, hq, ?_⟩
  have := congrArg List.length e
  rw [List.length_map, List.length_map] at this
  omega
theorem next1 {w W : World} {S T : Nat} {va vb : Value} {sp sp' : Sp} {vx vy vp : Value} {xs ys : List Nat} {ps : List (List Sh)} {i n : Nat} (h : Trio w W S T va vb sp sp' vx vy vp xs ys (ps.map List.length ++ [n])) (hq : Two sp sp' xs ys (ps ++ [List.replicate n blank])) (hl : ps.length ≤ i) : Hid (HintJ w W S T vx vy vp (i + 1)) := by
  refine ⟨va, vb, sp, sp', xs, ys, _, ?_, hq, ?_⟩
  · rw [List.map_append, List.map_cons, List.map_nil, List.length_replicate]; exact h
  · rw [List.length_append]; simp; omega
/-- What both calls answer. -/
theorem both {sp sp' : Sp} {xs ys : List Nat} {ps : List (List Sh)} (h : Two sp sp' xs ys ps) (z : OpN) (hz : 0 ≤ z.room) (g1 : Good1 z (ps.map List.length)) (g2 : Good2 z (ps.map List.length)) (hint hint' : Nat) (O : Out) (hO : doO sp z xs hint = O) :
    ∃ at2, doO sp' z ys hint' = ⟨O.e, O.b, at2, O.room⟩ ∧ (O.room = false → ∀ blk blk', ∃ qs, qs.map List.length = ps.map List.length ∧ Two (doS sp z xs hint blk) (doS sp' z ys hint' blk') xs ys qs) ∧
      (O.room = true → ∀ blk blk', Two (doS sp z xs hint blk) (doS sp' z ys hint' blk') (xs ++ [O.at_]) (ys ++ [at2]) (ps ++ [List.replicate (z.size % 70) blank])) := by
  by_cases hk : kindN z.kind ≤ 1
  · have hr := fun blk blk' => h.rv z hk hint hint' blk blk'
    obtain ⟨h1, h2, h3, _, _⟩ := hr 0 0
    refine ⟨(doO sp' z ys hint').at_, by rw [← hO, h1, h2, h3], fun hf blk blk' => ⟨ps, rfl, ?_⟩, fun ht blk blk' => ?_⟩
    · rw [← hO] at hf; exact (hr blk blk').2.2.2.1 hf
    · rw [← hO] at ht ⊢; exact (hr blk blk').2.2.2.2 ht
  · obtain ⟨n1, n2, n3⟩ := g1 (by omega)
    have hne : ps ≠ [] := fun e => n1 (by rw [e]; rfl)
    have hl : 0 < ps.length := List.length_pos_iff.2 hne
    have hix := Nat.mod_lt z.room.toNat hl
    have hget : (ps.map List.length).getD (z.room.toNat % (ps.map List.length).length) 0 = (ps[z.room.toNat % ps.length]).length := by
      rw [List.length_map, List.getD, List.getElem?_eq_getElem (by rw [List.length_map]; exact hix), Option.getD_some, List.getElem_map]
    have hs : Stays z (ps[z.room.toNat % ps.length]).length := ⟨by omega, n3, hz, by rw [← hget]; exact n2, fun e => by rw [← hget]; exact g2 e⟩
    have hr := fun blk blk' => h.at_ z hne _ rfl hix hs hint hint' blk blk'
    obtain ⟨h1, h2, h3, h4, _⟩ := hr 0 0
    refine ⟨(doO sp' z ys hint').at_, by rw [← hO, h1, h2, h3, ← h4], fun _ blk blk' => (hr blk blk').2.2.2.2, fun ht => ?_⟩
    rw [← hO, h3] at ht
    cases ht
set_option maxHeartbeats 8000000 in
set_option maxRecDepth 20000 in
theorem walk_ok (w : World) (b : Nat) (hb0 : 1 ≤ b) (hb1 : b ≤ 1024) (a : Option Addr) (len cap : Nat) (h : IsOps w a len cap) (s2 : Option Addr) (len2 cap2 : Nat) (zs : List Int) (hrow : IsRow .u64 w s2 len2 cap2 zs) :
    Calls Try.prog 4 #[.int .i64 b, .slice a len cap, .slice s2 len2 cap2] w fun e w' => e = .returned (.bool true) ∧ Below w.heap.size w w' := by
  have hBig := law_big w a len cap h
  obtain ⟨hlc, hcm, _⟩ := h
  have hcap : cap ≤ 9223372036854775807 := by unfold maxLen at hcm; omega
  have hl2 : len2 ≤ 9223372036854775807 := by
    rcases hrow with ⟨_, e, _⟩ | ⟨x, _, h1, h2, _⟩
    · omega
    · unfold maxLen at h2; omega
  have HROW := hide hrow
  have hNew := vm_New w b hb0 hb1
  clear hrow
  go_enter Try.func4, Try.ntmps4
  go_wp2_with fail
  refine hBig.mono ?_
  rintro e w' ⟨⟨bb, rfl, hBB⟩, hw⟩
  rw [← hw]
  clear hw hBig
  rcases hBB with rfl | ⟨rfl, hops⟩
  · go_wp2
    go_ret
    exact ⟨rfl, Below.refl _ _⟩
  have HOPS : Hid (OpsOk w a len) := hops
  have hl60 : len ≤ 60 := hops.1
  clear hops
  go_wp2_with fail
  refine hNew.mono ?_
  rintro e w1 ⟨rfl, n1, n2⟩
  clear hNew
  have hNew := vm_New w1 b hb0 hb1
  have N1 := hide n1
  have N2 := hide n2
  clear n1 n2
  go_wp2_with fail
  refine hNew.mono ?_
  rintro e wb ⟨rfl, m1, m2⟩
  have J0 := hide (start3 hb0 hb1 N1.out N2.out m1 m2)
  clear hNew m1 m2 N1 N2
  generalize hT : w1.heap.size = T at *
  clear hT
  go_wp2
  go_loopg [11, 12, 13, 14] len (fun k vx vy vp vi wr => ∃ i : Nat, i ≤ len ∧ k = len - i ∧ vi = .int .i64 i ∧ Hid (HintJ w wr w.heap.size T vx vy vp i))
  case atStart => exact ⟨0, by omega, by omega, rfl, J0⟩
  case round =>
    obtain ⟨i, hi, hgk, rfl, HJ⟩ := hrel
    obtain ⟨va, vb, sp, sp', xs, ys, ps, hTr, hTwo, hpl⟩ := HJ
    by_cases hlt : i < len
    · have hltI : (i : Int) < (len : Int) := by omega
      obtain ⟨y, o, rfl, hx⟩ : ∃ y o, a = some ⟨y, o, none⟩ ∧ ∀ i, i < len → ∃ x vd, IsOp7 w y (o + i * 7) x vd ∧ x.ok := by
        rcases HOPS.out.2 with e | e
        · omega
        · exact e
      obtain ⟨x, vd, I, hxok⟩ := hx i hlt
      have hyl : y < w.heap.size := World.block_lt_of_cell? _ _ I.c0
      have HS7 : Hid (∀ W, Below w.heap.size w W → S7 y (o + i * 7) x vd W) := fun W hW => I.s7.below hyl hW
      obtain ⟨z, hzok, hz0, hzd, hzn, hzp⟩ := boxed x hxok
      have HSRC : Hid (Src w (fun _ => False) vd z.data) := by unfold Hid; rw [hzd]; exact I.src
      obtain ⟨sa, sc, hsa, _, _, _⟩ := I.src
      rw [← hzd] at hsa
      subst hsa
      obtain ⟨xa, xc, hxa⟩ := hTr.duo.pa.own.isSlice
      obtain ⟨pa, pc, hpa⟩ : ∃ pa pc, u13 = .slice pa xs.length pc := by
        obtain ⟨pa, pc, e⟩ := hTr.own.isSlice
        exact ⟨pa, pc, by rw [e, List.length_map, hTwo.ma.len]⟩
      subst hxa hpa
      have HTR := hide hTr
      have HTWO := hide hTwo
      have HPL : Hid (ps.length ≤ i) := hpl
      obtain ⟨c0, c1, c2, c3, c4, c5, c6⟩ := HS7.out wr hTr.below
      clear hTr hTwo hpl I hx hzd
      go_upto_if 59 with fail
      go_cut [15] from 47 to 192 (fun v wx => ∃ B : Nat, v = .pointer (some ⟨B, 0, none⟩) ∧ Hid (St1 w wx w.heap.size T va vb sp sp' (.slice xa xs.length xc) u12 (.slice pa xs.length pc) xs ys (ps.map List.length) B z (.slice sa z.data.length sc)))
      case first => as_aux_lemma =>
        by_cases hneg : x.room < 0
        · go_wp2
          go_meet
          case rel =>
            refine ⟨_, rfl, ?_⟩
            have := St1.start HTR.out z (.slice sa z.data.length sc)
            rw [hzn hneg] at this ⊢
            exact this
        · go_wp2
          go_meet
          case rel =>
            refine ⟨_, rfl, ?_⟩
            have := St1.start HTR.out z (.slice sa z.data.length sc)
            rw [hzp hneg] at this ⊢
            exact this
      case rest =>
        obtain ⟨B, rfl, H1⟩ := hcut
        clear c0 c1 c2 c3 c4 c5 c6
        have hKd := law_kind wc z.kind hzok.k0 hzok.k1
        obtain ⟨c0, c1, c2, c3, c4, c5, c6⟩ := H1.out.box
        go_upto_if 66 with fail
        refine hKd.mono ?_
        rintro e w' ⟨rfl, hw⟩
        rw [← hw]
        clear hw hKd
        go_upto_if 66 with fail
        go_cut [17] from 47 to 192 (fun v wx => ∃ hn : Nat, v = .int .u64 hn ∧ (hn : Int) ≤ 18446744073709551615 ∧ Hid (St1 w wx w.heap.size T va vb sp sp' (.slice xa xs.length xc) u12 (.slice pa xs.length pc) xs ys (ps.map List.length) B z (.slice sa z.data.length sc)))
        case first => as_aux_lemma =>
          by_cases h2 : 0 < len2
          · obtain ⟨y2, o2, hn, rfl, hy2, hcl, hhn⟩ := HROW.out.hint h2 (i % len2) (Nat.mod_lt _ h2)
            have hc2 : wc.cell? ⟨y2, o2 + i % len2, none⟩ = some (.int .u64 (hn : Int)) := by rw [World.cell?_of_block (a := ⟨y2, o2 + i % len2, none⟩) (H1.out.trio.below.block y2 hy2)]; exact hcl
            have g0 : (0 : Int) < (len2 : Int) := by omega
            have g1 : (i : Int).tmod (len2 : Int) = ((i % len2 : Nat) : Int) := by rw [Int.tmod_eq_emod_of_nonneg (by omega)]; omega
            have g2 : ((len2 : Int) == 0) = false := by rw [beq_eq_false_iff_ne]; omega
            have g3 : ((i % len2 : Nat) : Int) < (len2 : Int) := by have := Nat.mod_lt i h2; omega
            have g4 : IntKind.i64.wrap ((i % len2 : Nat) : Int) = ((i % len2 : Nat) : Int) := IntWalk.i64_in _ (by omega)
            have g5 : ¬ (len2 : Int) = 0 := by omega
            clear hcl
            generalize i % len2 = ix at *
            go_wp2
            go_meet
            case rel => exact ⟨hn, rfl, hhn, H1⟩
          · have g0 : ¬ (0 : Int) < (len2 : Int) := by omega
            go_wp2
            go_meet
            case rel => exact ⟨0, rfl, by omega, H1⟩
        case rest =>
          obtain ⟨hn, rfl, hhn, H2⟩ := hcut
          clear c0 c1 c2 c3 c4 c5 c6 H1
          obtain ⟨r, hr⟩ : ∃ r : Nat, z.room = r := ⟨z.room.toNat, by omega⟩
          have HR := hide hr
          clear hr
          go_upto_region 19 with fail
          go_cut [117] from 47 to 192 (fun v wx => ∃ bd : Bool, v = .bool bd ∧ (bd = true ∨ (bd = false ∧ Hid (Good1 z (ps.map List.length)))) ∧ Hid (St1 w wx w.heap.size T va vb sp sp' (.slice xa xs.length xc) u12 (.slice pa xs.length pc) xs ys (ps.map List.length) B z (.slice sa z.data.length sc)))
          case first => as_aux_lemma =>
            obtain ⟨c0, c1, c2, c3, c4, c5, c6⟩ := H2.out.box
            have hr := HR.out
            rw [hr] at c1
            by_cases k1 : 1 < kindN z.kind
            · have k1I : (1 : Int) < (kindN z.kind : Int) := by omega
              by_cases hx0 : xs.length = 0
              · have hx0I : ((xs.length : Nat) : Int) = 0 := by omega
                have hx0b : (((xs.length : Nat) : Int) == 0) = true := by rw [hx0I]; rfl
                have HX0 := hide hx0
                clear hx0
                go_quiet (fail)
                go_wp2
                go_meet
                case rel => exact ⟨true, rfl, .inl rfl, hide (H2.out.drew _)⟩
              · have hlen : 0 < xs.length := by omega
                have hix : r % xs.length < xs.length := Nat.mod_lt _ hlen
                have hlp : xs.length = ps.length := HTWO.out.ma.len
                obtain ⟨g, hpa, hdr, _, hgl, _, _, hcell⟩ := H2.out.trio.own.cell (by rw [List.length_map]; omega)
                clear hdr
                subst hpa
                have hcl := hcell (r % xs.length) (by rw [List.length_map]; omega)
                obtain ⟨n, hn1⟩ : ∃ n, (ps.map List.length)[r % xs.length]'(by rw [List.length_map]; omega) = n := ⟨_, rfl⟩
                have HN : Hid ((ps.map List.length).getD (z.room.toNat % (ps.map List.length).length) 0 = n) := by
                  unfold Hid
                  rw [List.length_map, ← hlp, hr, Int.toNat_natCast, List.getD, List.getElem?_eq_getElem (by rw [List.length_map]; omega)]
                  exact hn1
                have hn2 : n * 256 ≤ 1099511627776 := by
                  rw [← hn1, List.getElem_map]
                  exact HTWO.out.cap _ (by omega)
                rw [hn1] at hcl
                have hx0I : ¬ ((xs.length : Nat) : Int) = 0 := by omega
                have hx0b : (((xs.length : Nat) : Int) == 0) = false := by rw [beq_eq_false_iff_ne]; omega
                have e1 : (r : Int).tmod (xs.length : Int) = ((r % xs.length : Nat) : Int) := by rw [Int.tmod_eq_emod_of_nonneg (by omega)]; omega
                have e2 : ((r % xs.length : Nat) : Int) < (xs.length : Int) := by omega
                have hxl : xs.length ≤ 60 := by have := HPL.out; omega
                have e4 : IntKind.i64.wrap ((r % xs.length : Nat) : Int) = ((r % xs.length : Nat) : Int) := IntWalk.i64_in _ (by omega)
                have e5 : IntKind.u64.wrap (n : Int) = (n : Int) := by rw [IntKind.wrap_u64]; omega
                have e6 : IntKind.u64.wrap ((n : Int) * 256) = (n : Int) * 256 := by rw [IntKind.wrap_u64]; omega
                have HZ : Hid ((ps.map List.length) ≠ []) := fun e => by
                  have := congrArg List.length e
                  rw [List.length_map, List.length_nil] at this
                  omega
                clear hcell hn1 hx0 hlp hlen
                generalize r % xs.length = ix at *
                by_cases ho : n * 256 < z.off
                · have hoI : (n : Int) * 256 < (z.off : Int) := by omega
                  have hob : decide ((n : Int) * 256 < (z.off : Int)) = true := decide_eq_true hoI
                  go_quiet (fail)
                  go_wp2
                  go_meet
                  case rel => exact ⟨true, rfl, .inl rfl, hide (H2.out.drew _)⟩
                · have hoI : ¬ (n : Int) * 256 < (z.off : Int) := by omega
                  have hob : decide ((n : Int) * 256 < (z.off : Int)) = false := decide_eq_false hoI
                  have e7 : IntKind.u64.wrap ((n : Int) * 256 - (z.off : Int)) = (n : Int) * 256 - (z.off : Int) := by rw [IntKind.wrap_u64]; omega
                  by_cases hs : n * 256 - z.off < z.size
                  · have hsI : (n : Int) * 256 - (z.off : Int) < (z.size : Int) := by omega
                    have hsb : decide ((n : Int) * 256 - (z.off : Int) < (z.size : Int)) = true := decide_eq_true hsI
                    go_quiet (fail)
                    go_wp2
                    go_meet
                    case rel => exact ⟨true, rfl, .inl rfl, hide (H2.out.drew _)⟩
                  · have hsI : ¬ (n : Int) * 256 - (z.off : Int) < (z.size : Int) := by omega
                    have hsb : decide ((n : Int) * 256 - (z.off : Int) < (z.size : Int)) = false := decide_eq_false hsI
                    by_cases k5 : kindN z.kind = 5
                    · have k5b : (((kindN z.kind : Nat) : Int) == 5) = true := by rw [k5]; rfl
                      clear k5
                      go_quiet (fail)
                      go_wp2
                      go_meet
                      case rel => exact ⟨true, rfl, .inl rfl, hide (H2.out.drew _)⟩
                    · have k5b : (((kindN z.kind : Nat) : Int) == 5) = false := by rw [beq_eq_false_iff_ne]; omega
                      go_quiet (fail)
                      go_wp2
                      go_meet
                      case rel => exact ⟨false, rfl, .inr ⟨rfl, fun _ => ⟨HZ.out, by rw [HN.out]; omega, k5⟩⟩, hide (H2.out.drew _)⟩
            · have k1I : ¬ (1 : Int) < (kindN z.kind : Int) := by omega
              have k1b : decide ((1 : Int) < (kindN z.kind : Int)) = false := decide_eq_false k1I
              go_quiet (fail)
              go_wp2
              go_meet
              case rel => exact ⟨false, rfl, .inr ⟨rfl, fun e => absurd e (by omega)⟩, hide (H2.out.drew _)⟩
          case rest =>
            obtain ⟨bd, rfl, hbd, H3⟩ := hcut
            clear H2
            rcases hbd with rfl | ⟨rfl, G1⟩
            · go_wp2
              go_roundg (len - (i + 1))
              case measure => omega
              case rel => exact ⟨i + 1, by omega, rfl, by go_num, hide ⟨_, _, _, _, _, _, _, H3.out.trio, HTWO.out, Nat.le_succ_of_le HPL.out⟩⟩
            have hb1 : Hid (2 ≤ kindN z.kind → ps ≠ [] ∧ z.off ≤ 1099511627776) := fun hk => by
              obtain ⟨g1, g2, _⟩ := G1.out hk
              have hne : ps ≠ [] := fun e => g1 (by rw [e]; rfl)
              refine ⟨hne, ?_⟩
              have hl : 0 < (ps.map List.length).length := List.length_pos_iff.2 g1
              have hix := Nat.mod_lt z.room.toNat hl
              rw [List.getD, List.getElem?_eq_getElem hix, Option.getD_some, List.getElem_map] at g2
              have := HTWO.out.cap (z.room.toNat % (ps.map List.length).length) (by rw [List.length_map] at hix ⊢; exact hix)
              omega
            go_upto_region 20 with fail
            go_cut [140] from 47 to 192 (fun v wx => ∃ bd : Bool, v = .bool bd ∧ (bd = true ∨ (bd = false ∧ Hid (Good2 z (ps.map List.length)))) ∧ Hid (St1 w wx w.heap.size T va vb sp sp' (.slice xa xs.length xc) u12 (.slice pa xs.length pc) xs ys (ps.map List.length) B z (.slice sa z.data.length sc)))
            case first => as_aux_lemma =>
              obtain ⟨c0, c1, c2, c3, c4, c5, c6⟩ := H3.out.box
              have hr := HR.out
              rw [hr] at c1
              by_cases k6 : 6 < kindN z.kind
              · have k6I : (6 : Int) < (kindN z.kind : Int) := by omega
                obtain ⟨hne, hoff⟩ := hb1.out (by omega)
                have hlp : xs.length = ps.length := HTWO.out.ma.len
                have hlen : 0 < xs.length := by rw [hlp]; exact List.length_pos_iff.2 hne
                have hix : r % xs.length < xs.length := Nat.mod_lt _ hlen
                obtain ⟨g, hpa, hdr, _, hgl, _, _, hcell⟩ := H3.out.trio.own.cell (by rw [List.length_map]; omega)
                clear hdr
                subst hpa
                have hcl := hcell (r % xs.length) (by rw [List.length_map]; omega)
                obtain ⟨n, hn1⟩ : ∃ n, (ps.map List.length)[r % xs.length]'(by rw [List.length_map]; omega) = n := ⟨_, rfl⟩
                have HN : Hid ((ps.map List.length).getD (z.room.toNat % (ps.map List.length).length) 0 = n) := by
                  unfold Hid
                  rw [List.length_map, ← hlp, hr, Int.toNat_natCast, List.getD, List.getElem?_eq_getElem (by rw [List.length_map]; omega)]
                  exact hn1
                have hn2 : n * 256 ≤ 1099511627776 := by
                  rw [← hn1, List.getElem_map]
                  exact HTWO.out.cap _ (by omega)
                rw [hn1] at hcl
                have hx0I : ¬ ((xs.length : Nat) : Int) = 0 := by omega
                have hx0b : (((xs.length : Nat) : Int) == 0) = false := by rw [beq_eq_false_iff_ne]; omega
                have e1 : (r : Int).tmod (xs.length : Int) = ((r % xs.length : Nat) : Int) := by rw [Int.tmod_eq_emod_of_nonneg (by omega)]; omega
                have e2 : ((r % xs.length : Nat) : Int) < (xs.length : Int) := by omega
                have hxl : xs.length ≤ 60 := by have := HPL.out; omega
                have hd1 := hzok.d1
                have e4 : IntKind.i64.wrap ((r % xs.length : Nat) : Int) = ((r % xs.length : Nat) : Int) := IntWalk.i64_in _ (by omega)
                have e5 : IntKind.u64.wrap (n : Int) = (n : Int) := by rw [IntKind.wrap_u64]; omega
                have e6 : IntKind.u64.wrap ((n : Int) * 256) = (n : Int) * 256 := by rw [IntKind.wrap_u64]; omega
                have e7 : IntKind.u64.wrap (z.data.length : Int) = (z.data.length : Int) := by rw [IntKind.wrap_u64]; omega
                have e8 : IntKind.u64.wrap ((z.off : Int) + (z.data.length : Int)) = (z.off : Int) + (z.data.length : Int) := by rw [IntKind.wrap_u64]; omega
                have e9 : IntKind.u64.wrap ((z.off : Int) + (z.data.length : Int) + 8) = (z.off : Int) + (z.data.length : Int) + 8 := by rw [IntKind.wrap_u64]; omega
                clear hcell hn1 hlp hlen hne
                generalize r % xs.length = ix at *
                by_cases ho : n * 256 < z.off + z.data.length + 8
                · have hoI : (n : Int) * 256 < (z.off : Int) + (z.data.length : Int) + 8 := by omega
                  have hob : decide ((n : Int) * 256 < (z.off : Int) + (z.data.length : Int) + 8) = true := decide_eq_true hoI
                  go_quiet (fail)
                  go_wp2
                  go_meet
                  case rel => exact ⟨true, rfl, .inl rfl, hide (H3.out.drew _)⟩
                · have hoI : ¬ (n : Int) * 256 < (z.off : Int) + (z.data.length : Int) + 8 := by omega
                  have hob : decide ((n : Int) * 256 < (z.off : Int) + (z.data.length : Int) + 8) = false := decide_eq_false hoI
                  go_quiet (fail)
                  go_wp2
                  go_meet
                  case rel => exact ⟨false, rfl, .inr ⟨rfl, fun _ => by rw [HN.out]; omega⟩, hide (H3.out.drew _)⟩
              · have k6I : ¬ (6 : Int) < (kindN z.kind : Int) := by omega
                have k6b : decide ((6 : Int) < (kindN z.kind : Int)) = false := decide_eq_false k6I
                go_quiet (fail)
                go_wp2
                go_meet
                case rel => exact ⟨false, rfl, .inr ⟨rfl, fun e => absurd e (by omega)⟩, hide (H3.out.drew _)⟩
            case rest =>
              obtain ⟨bd, rfl, hbd, H4⟩ := hcut
              clear H3 hb1
              rcases hbd with rfl | ⟨rfl, G2⟩
              · go_wp2
                go_roundg (len - (i + 1))
                case measure => omega
                case rel => exact ⟨i + 1, by omega, rfl, by go_num, hide ⟨_, _, _, _, _, _, _, H4.out.trio, HTWO.out, Nat.le_succ_of_le HPL.out⟩⟩
              obtain ⟨O, hO⟩ : ∃ O, doO sp z xs x.hint = O := ⟨_, rfl⟩
              have HO : Hid (doO sp z xs x.hint = O) := hO
              have hxh := hxok.h1
              go_upto_region 21 with fail
              go_cut [18] from 47 to 192 (fun v wx => ∃ (C blk : Nat) (va' : Value), v = .pointer (some ⟨C, 0, none⟩) ∧ Hid (St2 w wx w.heap.size T va' vb (doS sp z xs x.hint blk) sp' (.slice xa xs.length xc) u12 (.slice pa xs.length pc) xs ys (ps.map List.length) B z (.slice sa z.data.length sc) C O))
              case first => as_aux_lemma =>
                have hP := H4.out.trio.duo.pa
                have HDN : Hid (∀ W, Below wc.heap.size wc W → Calls Try.prog 19 #[.pointer (some ⟨w.heap.size, 0, none⟩), .agg (z.cells (.slice sa z.data.length sc)), .slice xa xs.length xc, .int .u64 x.hint] W fun e W' => e = .returned (.agg (doO sp z xs x.hint).cells) ∧ ∃ blk v', PlayAt w W' w.heap.size v' (doS sp z xs x.hint blk) (.slice xa xs.length xc) xs ∧ Turn (· ∈ foot w.heap.size va sp.rooms) W W' ∧ ∀ k ∈ foot w.heap.size v' (doS sp z xs x.hint blk).rooms, k ∈ foot w.heap.size va sp.rooms ∨ W.heap.size ≤ k) := fun W hW => play_done w W w.heap.size va sp _ xs (hP.stay hW) z hzok _ HSRC.out x.hint hxh
                rw [hO] at HDN
                unfold Out.cells OpN.cells at HDN
                have hBl : B < wc.heap.size := H4.out.box.lt
                have hBne : B ≠ wc.heap.size := by omega
                have hwl : w.heap.size ≤ wc.heap.size := H4.out.trio.below.size
                have hyne : y ≠ wc.heap.size := by omega
                have bw1 : Below wc.heap.size wc wc.drew := ⟨rfl, rfl, rfl, Nat.le_refl _, fun _ _ => rfl⟩
                have bw2 : Below wc.heap.size wc ((wc.alloc (.cells #[.int .i64 0, .string ⟨#[]⟩, .int .u64 0, .bool false] 49)).drew) := (((Below.refl _ wc).alloc (Nat.le_refl _) _)).drew
                have HS8 : Hid (∀ W, S7 B 0 z (.slice sa z.data.length sc) W → Below w.heap.size w W → S8 B z (.slice sa z.data.length sc) y (o + i * 7 + 5) x.hint W) := fun W h1 h2 => S8.mk h1 (HS7.out W h2).2.2.2.2.2.1
                have DD := HS8.out _ (H4.out.stay bw1).box (H4.out.stay bw1).trio.below
                have EE := HS8.out _ (H4.out.stay bw2).box (H4.out.stay bw2).trio.below
                have BW1 := hide bw1
                have BW2 := hide bw2
                have HNF : Hid (¬ (wc.heap.size ∈ foot w.heap.size va sp.rooms)) := fun hm => Nat.lt_irrefl _ (hP.spn.at_.foot_lt _ hm)
                have HNH := hide (H4.out.trio.fresh (Nat.le_refl wc.heap.size))
                have HWL := hide hwl
                have HBN := hide hBne
                have HBL := hide hBl
                unfold S8 at DD EE
                obtain ⟨d0, d1, d2, d3, d4, d5, d6, d7⟩ := id DD
                obtain ⟨e0, e1, e2, e3, e4, e5, e6, e7⟩ := id EE
                clear hP hO bw1 bw2 hwl hBl
                go_region_held_law (fun w' => w'.cell? ⟨B, 0, none⟩ = some (.int .i64 z.kind) ∧ w'.cell? ⟨B, 1, none⟩ = some (.int .i64 z.room) ∧ w'.cell? ⟨B, 2, none⟩ = some (.int .u64 z.off) ∧ w'.cell? ⟨B, 3, none⟩ = some (.int .u64 z.size) ∧ w'.cell? ⟨B, 4, none⟩ = some (.int .i64 z.prot) ∧ w'.cell? ⟨B, 5, none⟩ = some (.int .u64 z.hint) ∧ w'.cell? ⟨B, 6, none⟩ = some (.slice sa z.data.length sc) ∧ w'.cell? ⟨y, o + i * 7 + 5, none⟩ = some (.int .u64 x.hint))
                  (first | with_reducible assumption | with_reducible exact GA | with_reducible exact GP _ _ _ _ | with_reducible exact GB _)
                  (first
                    | (go_at_call 19; refine (HDN.out _ (by first | exact BW1.out | exact BW2.out)).mono ?_; rintro e W2 ⟨rfl, blk, v2, P2, T2, F2⟩; have HF2 := hide F2; clear F2; have H5 := hide (St1.doneA (H4.out.stay (by first | exact BW1.out | exact BW2.out)) P2 T2 HF2.out); have GG := HS8.out W2 H5.out.box H5.out.trio.below; have GA := S8.alloc GG (.cells #[.int .i64 0, .string ⟨#[]⟩, .int .u64 0, .bool false] 49); have GB := fun o => S8.alloc GG o; have GP := fun a b c d => S8.put4 GG hBne hyne a b c d; have H2 := hide P2; have HT2 := hide T2; first | (obtain ⟨a0, a1, a2, a3, f0, f1, f2, f3⟩ := anB_of T2 HNF.out; clear P2 T2) | (clear P2 T2)))
                · go_wp2_with fail
                  go_meet
                  case rel => exact ⟨W2.heap.size, blk, v2, rfl, hide (St1.ans H5.out O)⟩
                · go_wp2_with fail
                  go_meet
                  case rel =>
                    have hC := ((H4.out.stay BW2.out).trio.done H2.out HT2.out HF2.out).2 wc.heap.size (by simp) HNH.out
                    refine ⟨wc.heap.size, blk, v2, rfl, hide ⟨H5.out.turn (turn_put W2 wc.heap.size (.int .i64 O.e) (.string (txt O.b)) (.int .u64 O.at_) (.bool O.room)) HWL.out hC HBN.out, ?_, hC⟩⟩
                    constructor <;> go_simp
              case rest => as_aux_lemma =>
                obtain ⟨C, blk, va', rfl, H5⟩ := hcut
                clear H4
                obtain ⟨at2, hO2, hroomF, hroomT⟩ := both HTWO.out z hz0 G1.out G2.out x.hint hn O hO
                have HRF := hide hroomF
                have HRT := hide hroomT
                have hD2 := play_done w wc T vb sp' u12 ys H5.out.st.trio.duo.pb z hzok _ HSRC.out hn hhn
                rw [hO2] at hD2
                dsimp only [Out.cells, OpN.cells] at hD2
                obtain ⟨c0, c1, c2, c3, c4, c5, c6⟩ := H5.out.st.box
                clear hO2 hroomF hroomT hO
                go_upto_region 23 with fail
                refine hD2.mono ?_
                rintro e W2 ⟨rfl, blk2, vb', P2, T2, F2⟩
                have H6 := hide (H5.out.doneB P2 T2 F2)
                clear P2 T2 F2 hD2 H5 c0 c1 c2 c3 c4 c5 c6
                go_upto_region 23 with fail
                have H7 := hide (H6.out.ans ⟨O.e, O.b, at2, O.room⟩)
                clear H6
                generalize W2.alloc (.cells #[.int .i64 O.e, .string (txt O.b), .int .u64 at2, .bool O.room] 49) = W3 at *
                generalize W2.heap.size = D at *
                obtain ⟨q0, q1, q2, q3⟩ := H7.out.st.an
                obtain ⟨r0, r1, r2, r3⟩ := H7.out.an
                dsimp only at r0 r1 r2 r3
                cases hroom : O.room with
                | false =>
                  rw [hroom] at q3 r3
                  go_wp2
                  go_roundg (len - (i + 1))
                  case measure => omega
                  case rel =>
                    obtain ⟨qs, hqs, hq⟩ := HRF.out hroom blk blk2
                    exact ⟨i + 1, by omega, rfl, by go_num, next0 H7.out.st.st.trio hq hqs HPL.out⟩
                | true =>
                  rw [hroom] at q3 r3
                  go_upto_region 26 with fail
                  go_cut [11, 12] from 47 to 192 (fun vx' vy' wx => Hid (St1 w wx w.heap.size T va' vb' (doS sp z xs x.hint blk) (doS sp' z ys hn blk2) vx' vy' (.slice pa xs.length pc) (xs ++ [O.at_]) (ys ++ [at2]) (ps.map List.length) B z (.slice sa z.data.length sc)))
                  case first => as_aux_lemma =>
                    clear q0 q1 q2 q3 r0 r1 r2 r3
                    have bd : Below W3.heap.size W3 W3.drew := ⟨rfl, rfl, rfl, Nat.le_refl _, fun _ _ => rfl⟩
                    have GS := hide (H7.out.stay bd)
                    have G0 := GS.out.two
                    have GA := fun o => (GS.out.stay (below1 W3.drew o)).two
                    have GB := fun o o' => (GS.out.stay (below2 W3.drew o o')).two
                    have hxl : xs.length ≤ 100000 := by have := HPL.out; have := HTWO.out.ma.len; omega
                    have hyl2 : ys.length ≤ 100000 := by have := HPL.out; have := HTWO.out.mb.len; omega
                    have HXL := hide hxl
                    have HYL := hide hyl2
                    clear bd hxl hyl2
                    go_region_held_law (fun w' => w'.cell? ⟨C, 2, none⟩ = some (.int .u64 O.at_) ∧ w'.cell? ⟨D, 2, none⟩ = some (.int .u64 at2))
                      (first | assumption | exact GA _ | exact GB _ _ | exact KA _)
                      (first
                        | (refine step_appX rfl (.tmp 176) (.tmp 179) rfl GS.out HXL.out rfl _ rfl (by first | exact below1 _ _ | exact below2 _ _ _) (by simp) ?_; intro v1 W4 GX0 hk; have GX := hide GX0; have K0 := GX0.two; have KA := fun o => (GX.out.stay (below1 W4 o)).two; first | (have KQ0 := hk ⟨W3.heap.size, 0, none⟩ _ (Nat.le_refl _) (by simp; rfl); have KQ1 := hk ⟨W3.heap.size + 1, 0, none⟩ _ (Nat.le_succ _) (by simp; rfl)) | skip; clear GX0 hk)
                        | (refine step_appY rfl (.tmp 181) (.tmp 184) rfl GX.out HYL.out rfl _ rfl (by first | exact Below.refl _ _ | exact below1 _ _) (by first | exact KQ0 | exact KQ1 | simp) ?_; intro v2 W5 GZ0 hk; have GZ := hide GZ0; have L0 := GZ0.two; clear GZ0 hk)
                        | (refine step_appY rfl (.tmp 181) (.tmp 184) rfl GS.out HYL.out rfl _ rfl (by first | exact below1 _ _ | exact below2 _ _ _) (by simp) ?_; intro v1 W4 GX0 hk; have GX := hide GX0; have K0 := GX0.two; have KA := fun o => (GX.out.stay (below1 W4 o)).two; first | (have KQ0 := hk ⟨W3.heap.size, 0, none⟩ _ (Nat.le_refl _) (by simp; rfl); have KQ1 := hk ⟨W3.heap.size + 1, 0, none⟩ _ (Nat.le_succ _) (by simp; rfl)) | skip; clear GX0 hk)
                        | (refine step_appX rfl (.tmp 176) (.tmp 179) rfl GX.out HXL.out rfl _ rfl (by first | exact Below.refl _ _ | exact below1 _ _) (by first | exact KQ0 | exact KQ1 | simp) ?_; intro v2 W5 GZ0 hk; have GZ := hide GZ0; have L0 := GZ0.two; clear GZ0 hk))
                    all_goals (go_wp2_with fail; go_meet; exact hide GZ.out.st.st)
                  case rest => as_aux_lemma =>
                    have H8 := hcut
                    clear hcut H7 q0 q1 q2 q3 r0 r1 r2 r3
                    obtain ⟨c0, c1, c2, c3, c4, c5, c6⟩ := H8.out.box
                    have e1 : (z.size : Int).tmod 70 = ((z.size % 70 : Nat) : Int) := by rw [Int.tmod_eq_emod_of_nonneg (by omega)]; omega
                    have e2 : IntKind.u64.wrap ((z.size % 70 : Nat) : Int) = ((z.size % 70 : Nat) : Int) := by rw [IntKind.wrap_u64]; omega
                    have e3 : IntKind.i64.wrap ((z.size % 70 : Nat) : Int) = ((z.size % 70 : Nat) : Int) := IntWalk.i64_in _ (by omega)
                    have HRT2 := hide (HRT.out hroom blk blk2)
                    have HL : Hid ((ps.map List.length).length ≤ 100000) := by unfold Hid; rw [List.length_map]; have := HPL.out; omega
                    clear HRT HRF
                    generalize z.size % 70 = m at *
                    go_wp2_with (at_builtin; refine append_int rfl _ _ rfl w.heap.size wc _ (ps.map List.length) H8.out.trio.own m rfl rfl HL.out H8.out.trio.below.size ?_)
                    intro vp' W9 h1 h2 h3
                    have H9 := hide (H8.out.trio.appP h1 h2 h3)
                    clear h1 h2 h3 H8 c0 c1 c2 c3 c4 c5 c6
                    go_wp2
                    go_roundg (len - (i + 1))
                    case measure => omega
                    case rel => exact ⟨i + 1, by omega, rfl, by go_num, next1 H9.out HRT2.out HPL.out⟩
    · as_aux_lemma =>
      have hltI : ¬ (i : Int) < (len : Int) := by omega
      have HTR := hide hTr
      have HU : Hid (used sp.rooms = used sp'.rooms) := hTwo.used
      have HC : Hid ((pgsOf sp.rooms).length = (pgsOf sp'.rooms).length) := hTwo.cnt
      have hU1 := vm_Used wr _ va sp hTr.duo.pa.spn.at_ hTr.duo.pa.ok
      clear hTr hTwo hpl
      go_wp2_with fail
      refine hU1.mono ?_
      rintro e wa ⟨rfl, hb1⟩
      have HA := hide (HTR.out.stay hb1)
      have hU2 := vm_Used wa _ vb sp' HA.out.duo.pb.spn.at_ HA.out.duo.pb.ok
      rw [← HU.out] at hU2
      clear hU1 hb1 HTR
      go_wp2_with fail
      refine hU2.mono ?_
      rintro e wd ⟨rfl, hb1⟩
      have HB := hide (HA.out.stay hb1)
      have hP1 := vm_Pages wd _ va sp HB.out.duo.pa.spn.at_ HB.out.duo.pa.ok
      clear hU2 hb1 HA
      go_wp2_with fail
      refine hP1.mono ?_
      rintro e we ⟨⟨v1, rfl, ho1⟩, hb1⟩
      have HE := hide (HB.out.stay hb1)
      obtain ⟨pa1, pc1, rfl⟩ := ho1.isSlice
      have hP2 := vm_Pages we _ vb sp' HE.out.duo.pb.spn.at_ HE.out.duo.pb.ok
      clear hP1 hb1 ho1 HB
      go_wp2_with fail
      refine hP2.mono ?_
      rintro e wf ⟨⟨v2, rfl, ho2⟩, hb1⟩
      have HF := hide (HE.out.stay hb1)
      obtain ⟨pa2, pc2, hv2⟩ := ho2.isSlice
      rw [← HC.out] at hv2
      clear hP2 hb1 ho2 HE
      rw [hv2]
      go_wp2_with (go_at_call 17; refine (alive _).mono ?_; rintro e w9 ⟨rfl, hb9⟩)
      go_ret
      exact ⟨rfl, HF.out.below.trans (hb9.mono HF.out.below.size)⟩
end LVmemHints
end Go.Proofs.Ytdecbnmibjcnaaa
