
/-
  Layer 11's reference: rows, own, asked.
-/
import Derived.Test.YtdclofiifcpkkaaVeOne
import Derived.Laws.AppendOwnNone
set_option linter.unusedVariables false
namespace Go.Proofs.Ytdclofiifcpkkaa
open Go.RowKit Go.PlainAid Go.Sort
/-- The reference's file: its cells. -/
def Rp.fC (q : Rp) : List Value := .slice q.ba q.bn q.bc :: (hdCells q.m (.slice q.va q.vn q.vc) q.d q.r ++ [.slice q.sa q.sn q.sc])
structure Rf (w : World) (q : Rp) : Prop where
  k : Rk w q
  sm : ∀ p ∈ q.ps, p.off + p.filesz ≤ 1000000
theorem Rf.below {w w' : World} {q : Rp} (h : Rf w q) (hb : Below w.heap.size w w') : Rf w' q := ⟨⟨h.k.b.below' hb, h.k.h.below hb, h.k.ok, h.k.lo, h.k.s.below' hb⟩, h.sm⟩
theorem rc_none {l : List UInt8} {ps : List Ph} {x s : Nat} (h : rcB l ps x s = false) : rc l ps x s = [] := by
  unfold rcB partZ at h
  unfold rc partZ
  split at h
  · cases h
  · rename_i hc; rw [if_neg hc]
set_option maxHeartbeats 2000000 in
set_option maxRecDepth 20000 in
theorem rf_n (w : World) (q : Rp) (hk : Rf w q) (a long f s : Nat) (ha : a < 18446744073709551616) (hl : long < 18446744073709551616) (hf : (f : Int) ≤ 18446744073709551615) (hs : s ≤ 8) (hs0 : 0 < s) :
    Calls Try.prog 74 #[.agg q.fC.toArray, .int .u64 (a : Nat), .int .u64 (long : Nat), .int .u64 (f : Nat), .int .i64 (s : Nat)] w fun e w' =>
      e = .returned (.tuple #[.int .u64 (rd (rc q.l q.ps a long) f s : Nat), .bool (rcB q.l q.ps a long)]) ∧ Below w.heap.size w w' := by
  have HB := hide (below1 w (.cells q.fC.toArray 117))
  have hP := ref8_Part _ (.slice q.ba q.bn q.bc) q.l (hk.k.b.below' HB.out) q.m (.slice q.va q.vn q.vc) q.d q.r q.ps (hk.k.h.below HB.out) hk.k.ok hk.sm a long ha hl
  have HLR : Hid ((rc q.l q.ps a long).length ≤ 140737488351232) := Nat.le_trans (rc_len _ _ _ _) (by obtain ⟨_, _, _, _, _, hl⟩ := hk.k.b.isSlice; exact hl)
  have HNO : Hid (rcB q.l q.ps a long = false → rc q.l q.ps a long = []) := rc_none
  have HN := hide (fun W v (hA : Arg W v (rc q.l q.ps a long)) => ref8_N W v _ hA f s hf hs hs0)
  change Calls _ _ _ _ (fun e w' => (∃ v', e = .returned (.tuple #[v', .bool (rcB q.l q.ps a long)]) ∧ Own w' _ v' (rc q.l q.ps a long)) ∧ _) at hP
  clear hk
  generalize rc q.l q.ps a long = X at *
  generalize rcB q.l q.ps a long = xb at *
  have HN0 : Hid (xb = false → rd X f s = 0) := fun e => by rw [HNO.out e]; unfold rd; rw [if_neg (by simp; omega)]
  generalize rd X f s = n at *
  unfold Rp.fC at HB hP ⊢
  simp only [hdCells, List.cons_append, List.nil_append] at *
  go_enter Try.func74, Try.ntmps74
  go_wp2_with fail
  refine hP.mono ?_
  rintro e w1 ⟨⟨v1, rfl, own1⟩, hb1⟩
  have HB1 : Hid (Below w.heap.size w w1) := HB.out.trans (hb1.mono HB.out.size)
  have HA1 := hide (own1.arg HLR.out)
  obtain ⟨xa, xn, xc, rfl⟩ : ∃ a n c, v1 = .slice a n c := by obtain ⟨a, c, e, _⟩ := HA1.out.isSlice; exact ⟨_, _, _, e⟩
  have kN := HN.out w1 _ HA1.out
  clear hP hb1 own1 HB
  cases xb with
  | false =>
    have HH0 := hide (HN0.out rfl)
    clear HN0 HNO kN HN HA1
    go_wp2
    go_ret2
    exact ⟨by rw [HH0.out]; rfl, HB1.out⟩
  | true =>
    clear HN0 HNO HN HA1
    go_wp2_with fail
    refine kN.mono ?_
    rintro e w2 ⟨rfl, rfl⟩
    clear kN
    go_wp2
    go_ret2
    exact ⟨rfl, HB1.out⟩
set_option maxHeartbeats 2000000 in
set_option maxRecDepth 20000 in
theorem rf_text (w : World) (q : Rp) (hk : Rf w q) (p : Nat) (hp : p < 18446744073709551616) :
    Calls Try.prog 75 #[.agg q.fC.toArray, .int .u64 (p : Nat)] w fun e w' => e = .returned (.tuple #[.string (txb (txtS q.S p)), .bool (txtB q.S p)]) ∧ Below w.heap.size w w' := by
  have HB := hide (below1 w (.cells q.fC.toArray 117))
  have hT := ref_Text _ (.slice q.sa q.sn q.sc) q.S (hk.k.s.below' HB.out) p (by omega)
  unfold txtS txtB txb
  obtain ⟨⟨t, z⟩, hTT⟩ : ∃ T, textAt q.S p = T := ⟨_, rfl⟩
  rw [hTT] at hT ⊢
  unfold Rp.fC at HB hT ⊢
  simp only [hdCells, List.cons_append, List.nil_append] at *
  clear hTT hk hp
  by_cases hq : z = 0
  · subst hq
    cases t with
    | nil =>
      go_enter Try.func75, Try.ntmps75
      go_wp2_with fail
      refine hT.mono ?_
      rintro e w1 ⟨rfl, hb1⟩
      have HB1 := hide (HB.out.trans (hb1.mono HB.out.size))
      clear hT hb1 HB
      go_wp2
      go_ret2
      exact ⟨rfl, HB1.out⟩
    | cons x y =>
      have hxe : (x :: y).isEmpty = false := rfl
      have hxb : ((x :: y) == []) = false := rfl
      rw [hxe]
      generalize (x :: y) = t at *
      go_enter Try.func75, Try.ntmps75
      go_wp2_with fail
      refine hT.mono ?_
      rintro e w1 ⟨rfl, hb1⟩
      have HB1 := hide (HB.out.trans (hb1.mono HB.out.size))
      clear hT hb1 HB
      go_wp2
      go_ret2
      exact ⟨rfl, HB1.out⟩
  · have hqb : (z == 0) = false := by simpa using hq
    rw [decide_eq_false hq, Bool.false_and]
    clear hq
    go_enter Try.func75, Try.ntmps75
    go_wp2_with fail
    refine hT.mono ?_
    rintro e w1 ⟨rfl, hb1⟩
    have HB1 := hide (HB.out.trans (hb1.mono HB.out.size))
    clear hT hb1 HB
    go_wp2
    go_ret2
    exact ⟨rfl, HB1.out⟩
theorem OwnU.low {w : World} {B C : Nat} {v : Value} {l : List Nat} (h : OwnU w B v l) (hb : C ≤ B) : OwnU w C v l := by
  unfold OwnU at h ⊢
  refine ⟨h.1, ?_⟩
  rcases h.2 with hn | ⟨g, cap, cur, rfl, hB, rest⟩
  · exact .inl hn
  · exact .inr ⟨g, cap, cur, rfl, Nat.le_trans hb hB, rest⟩
theorem below_grown {B : Nat} {W W' : World} {v : Value} (hg : W.grownBy W' v.ownBlock) (hv : ∀ k, v.ownBlock = some k → B ≤ k) (hB : B ≤ W.heap.size) : Below B W W' :=
  ⟨hg.os, hg.tape, hg.output, hg.size, fun k hk => hg.block k (by omega) (fun e => by have := hv k e.symm; omega)⟩
theorem at_loadF {ops : Array Oper} {rest : List Oper} {a : Act} {Q : Exit → Act → World → Prop} {w : World} {ty : TypeId} {x : Operand} {d : Option Tmp} {ps : String} {af : Array Edge}
    (h : wpList Try.prog ops Q ({ dst := d, op := .load 117 x, type := ty, pos := ps, after := af, guard := none } :: rest) a w) : wpList Try.prog ops Q ({ dst := d, op := .load 117 x, type := ty, pos := ps, after := af, guard := none } :: rest) a w := h
theorem load_fc {w : World} {g : Nat} {q : Rp} (h : w.heap[g]? = some (.cells q.fC.toArray 117 (0, 0))) : (loadVar 117 ⟨g, 0, none⟩).run Try.prog w = .ok (.agg q.fC.toArray) w :=
  run_loadVar_row (P := Try.prog) w g _ _ q.fC.toArray (0, 0) _ h Try.underlying117 rfl (by kernel_rfl)
theorem row_no {l : List UInt8} {ps : List Ph} {long next i a : Nat} (h : rcB l ps a long = false) : rowZ l ps long next (i + 1) a = ([], false) := by rw [rowZ, if_pos h]
theorem row_end {l : List UInt8} {ps : List Ph} {long next i a : Nat} (h : rcB l ps a long = true) (h0 : rd (rc l ps a long) next 4 = 0) : rowZ l ps long next (i + 1) a = ([a], true) := by rw [rowZ, if_neg (by rw [h]; simp), if_pos h0]
theorem row_next {l : List UInt8} {ps : List Ph} {long next i a : Nat} (h : rcB l ps a long = true) (h0 : ¬ rd (rc l ps a long) next 4 = 0) : rowZ l ps long next (i + 1) a = (a :: (rowZ l ps long next i (a + rd (rc l ps a long) next 4)).1, (rowZ l ps long next i (a + rd (rc l ps a long) next 4)).2) := by rw [rowZ, if_neg (by rw [h]; simp), if_neg h0]
theorem row_len (l : List UInt8) (ps : List Ph) (long next : Nat) : ∀ i a, (rowZ l ps long next i a).1.length ≤ i
  | 0, _ => by simp [rowZ]
  | i + 1, a => by
    have ih := row_len l ps long next i (a + rd (rc l ps a long) next 4)
    rw [rowZ]
    split
    · simp
    · split
      · simp
      · simpa using ih
set_option maxHeartbeats 4000000 in
set_option maxRecDepth 20000 in
theorem rf_row (w : World) (q : Rp) (hk : Rf w q) (a many long next : Nat) (ha : a < 18446744073709551616) (hm : many ≤ 90000) (hl : long ≤ 100) (hn : next ≤ 100) :
    Calls Try.prog 73 #[.agg q.fC.toArray, .int .u64 (a : Nat), .int .u64 (many : Nat), .int .u64 (long : Nat), .int .u64 (next : Nat)] w fun e w' =>
      (∃ v, e = .returned (.tuple #[v, .bool (rowZ q.l q.ps long next many a).2]) ∧ OwnU w' w.heap.size v (rowZ q.l q.ps long next many a).1) ∧ Below w.heap.size w w' := by
  have HB := hide (below1 w (.cells q.fC.toArray 117))
  have HZ : Hid ((w.alloc (.cells q.fC.toArray 117)).heap[w.heap.size]? = some (.cells q.fC.toArray 117 (0, 0))) := heap_alloc_new _ _
  have HK := hide hk
  have HLO := hide (fun x (hx : rcB q.l q.ps x long = true) => rc_lo hk.k.lo hx)
  obtain ⟨O, hO⟩ : ∃ O, rowZ q.l q.ps long next many a = O := ⟨_, rfl⟩
  have HO : Hid (([] : List Nat) ++ (rowZ q.l q.ps long next (many - 0) a).1 = O.1 ∧ (rowZ q.l q.ps long next (many - 0) a).2 = O.2) := by rw [Nat.sub_zero, hO]; exact ⟨rfl, rfl⟩
  rw [hO]
  have HA0 := hide ha
  clear hk hO ha
  have hmI : (many : Int) ≤ 90000 := by omega
  go_enter Try.func73, Try.ntmps73
  go_wp2
  generalize w.alloc _ = w0 at *
  go_loopw [1, 12, 13] (fun v1 v12 v13 wr => ∃ (i x : Nat) (acc : List Nat), v1 = .int .u64 x ∧ v13 = .int .u64 i ∧ i ≤ many ∧ Hid (x < 18446744073709551616) ∧ Hid (acc.length ≤ i) ∧ Hid (Below w.heap.size w wr) ∧ Hid (wr.heap[w.heap.size]? = some (.cells q.fC.toArray 117 (0, 0))) ∧ Hid (OwnU wr (w.heap.size + 1) v12 acc) ∧ Hid (acc ++ (rowZ q.l q.ps long next (many - i) x).1 = O.1 ∧ (rowZ q.l q.ps long next (many - i) x).2 = O.2))
    (fun _ _ v13 _ => many - (intOf v13).toNat)
  case atStart => exact ⟨0, a, [], rfl, rfl, by omega, HA0, by unfold Hid; simp, HB, HZ, OwnU.nil _ _, HO⟩
  case round =>
    obtain ⟨i, x, acc, rfl, rfl, hi, HX, HL, HBr, HZr, HOW, HR⟩ := hrel
    clear HB HZ HO HA0
    by_cases hlt : i < many
    · have hltI : (i : Int) < (many : Int) := by omega
      have kn := rf_n wr q (HK.out.below HBr.out) x long next 4 HX.out (by omega) (by omega) (by decide) (by decide)
      have hR := HR.out
      rw [show many - i = (many - (i + 1)) + 1 by omega] at hR
      obtain ⟨b8, hb8⟩ : ∃ b, rcB q.l q.ps x long = b := ⟨_, rfl⟩
      obtain ⟨n, hn8⟩ : ∃ n, rd (rc q.l q.ps x long) next 4 = n := ⟨_, rfl⟩
      have hn4 : n < 4294967296 := by rw [← hn8]; exact rd4 _ _
      rw [hb8, hn8] at kn
      cases b8 with
      | false =>
        rw [row_no hb8, List.append_nil] at hR
        have HR2 := hide hR
        clear hR HR hb8 hn8
        go_wp2_with ((with_reducible refine at_loadF ?_); refine load_row rfl _ _ rfl w.heap.size _ (load_fc HZr.out) rfl ?_)
        refine kn.mono ?_
        rintro e w1 ⟨rfl, hb1⟩
        have HB1 := hide (HBr.out.trans (hb1.mono HBr.out.size))
        have HO1 := hide (HOW.out.stay hb1)
        clear kn hb1
        go_wp2
        go_ret2
        exact ⟨⟨_, by rw [← HR2.out.2]; rfl, by rw [← HR2.out.1]; exact OwnU.low HO1.out (by omega)⟩, HB1.out⟩
      | true =>
        have hpl := HLO.out _ hb8
        have hxI : (x : Int) ≤ 16384 := by omega
        by_cases c0 : n = 0
        · rw [row_end hb8 (hn8.trans c0)] at hR
          have HR2 := hide hR
          subst c0
          clear hR HR hb8 hn8
          go_wp2_with ((with_reducible refine at_loadF ?_); refine load_row rfl _ _ rfl w.heap.size _ (load_fc HZr.out) rfl ?_)
          refine kn.mono ?_
          rintro e w1 ⟨rfl, hb1⟩
          have HB1 := hide (HBr.out.trans (hb1.mono HBr.out.size))
          have HO1 := hide (HOW.out.stay hb1)
          have HZ1 : Hid (w.heap.size + 1 ≤ w1.heap.size) := (Array.getElem?_eq_some_iff.1 (block_stay HZr.out hb1)).1
          clear kn hb1
          go_wp2_with (at_builtin; refine append_u rfl _ _ rfl (w.heap.size + 1) w1 _ acc [x] HO1.out rfl rfl (by have := HL.out; simp; omega) HZ1.out ?_)
          intro v2 w2 o2 g2 _
          have HB2 := hide (HB1.out.trans ((below_grown g2 (fun k hk => (World.ownsRow.lt HO1.out k hk).1) HZ1.out).mono (by omega)))
          have HO2 := hide o2
          clear o2 g2
          go_wp2
          go_ret2
          exact ⟨⟨_, by rw [← HR2.out.2]; rfl, by rw [← HR2.out.1]; exact OwnU.low HO2.out (by omega)⟩, HB2.out⟩
        · have hR2 : acc ++ [x] ++ (rowZ q.l q.ps long next (many - (i + 1)) (x + n)).1 = O.1 ∧ (rowZ q.l q.ps long next (many - (i + 1)) (x + n)).2 = O.2 := by
            rw [row_next hb8 (by rw [hn8]; exact c0), hn8] at hR
            simpa using hR
          have HR2 := hide hR2
          have c0b : ((n : Int) == 0) = false := by simp; omega
          have HXN : Hid (x + n < 18446744073709551616) := by unfold Hid; omega
          clear hR hR2 HR hb8 hn8 c0
          go_wp2_with ((with_reducible refine at_loadF ?_); refine load_row rfl _ _ rfl w.heap.size _ (load_fc HZr.out) rfl ?_)
          refine kn.mono ?_
          rintro e w1 ⟨rfl, hb1⟩
          have HB1 := hide (HBr.out.trans (hb1.mono HBr.out.size))
          have HO1 := hide (HOW.out.stay hb1)
          have HZB := hide (block_stay HZr.out hb1)
          have HZ1 : Hid (w.heap.size + 1 ≤ w1.heap.size) := (Array.getElem?_eq_some_iff.1 HZB.out).1
          clear kn hb1
          go_wp2_with (at_builtin; refine append_u rfl _ _ rfl (w.heap.size + 1) w1 _ acc [x] HO1.out rfl rfl (by have := HL.out; simp; omega) HZ1.out ?_)
          intro v2 w2 o2 g2 _
          have HBB := hide (below_grown g2 (fun k hk => (World.ownsRow.lt HO1.out k hk).1) HZ1.out)
          have HB2 := hide (HB1.out.trans (HBB.out.mono (by omega)))
          have HZ2 : Hid (w2.heap[w.heap.size]? = some (.cells q.fC.toArray 117 (0, 0))) := (HBB.out.block _ (by omega)).trans HZB.out
          have HO2 := hide o2
          clear o2 g2
          go_wp2
          go_roundw
          case rel => exact ⟨i + 1, x + n, acc ++ [x], by go_num, by go_num, by omega, HXN, by have := HL.out; unfold Hid; simp; omega, HB2, HZ2, HO2, HR2⟩
          case measure => simp [intOf]; omega
    · have hltI : ¬ (i : Int) < (many : Int) := by omega
      have hR := HR.out
      rw [show many - i = 0 by omega, rowZ, List.append_nil] at hR
      have HR2 := hide hR
      clear hR HR
      go_wp2
      go_ret2
      exact ⟨⟨_, by rw [← HR2.out.2]; rfl, by rw [← HR2.out.1]; exact OwnU.low HOW.out (by omega)⟩, HBr.out⟩
end Go.Proofs.Ytdclofiifcpkkaa
namespace Go.Proofs.Ytdclofiifcpkkaa
open Go.RowKit Go.PlainAid Go.Sort
theorem fC_cells {q : Rp} {X : World} {Z : Nat} (h : X.heap[Z]? = some (.cells q.fC.toArray 117 (0, 0))) : X.cell? ⟨Z, 0, none⟩ = some (.slice q.ba q.bn q.bc) ∧ X.cell? ⟨Z, 1, none⟩ = some (.int .u16 q.m) ∧ X.cell? ⟨Z, 2, none⟩ = some (.slice q.va q.vn q.vc) ∧ X.cell? ⟨Z, 3, none⟩ = some (.int .u32 q.d.type) ∧ X.cell? ⟨Z, 4, none⟩ = some (.int .u32 q.d.flags) ∧ X.cell? ⟨Z, 5, none⟩ = some (.int .u64 q.d.off) ∧ X.cell? ⟨Z, 6, none⟩ = some (.int .u64 q.d.vaddr) ∧ X.cell? ⟨Z, 7, none⟩ = some (.int .u64 q.d.filesz) ∧ X.cell? ⟨Z, 8, none⟩ = some (.int .u64 q.d.memsz) ∧ X.cell? ⟨Z, 9, none⟩ = some (.int .u64 q.d.align) ∧ X.cell? ⟨Z, 10, none⟩ = some (.int .u32 q.r.type) ∧ X.cell? ⟨Z, 11, none⟩ = some (.int .u32 q.r.flags) ∧ X.cell? ⟨Z, 12, none⟩ = some (.int .u64 q.r.off) ∧ X.cell? ⟨Z, 13, none⟩ = some (.int .u64 q.r.vaddr) ∧ X.cell? ⟨Z, 14, none⟩ = some (.int .u64 q.r.filesz) ∧ X.cell? ⟨Z, 15, none⟩ = some (.int .u64 q.r.memsz) ∧ X.cell? ⟨Z, 16, none⟩ = some (.int .u64 q.r.align) ∧ X.cell? ⟨Z, 17, none⟩ = some (.slice q.sa q.sn q.sc) :=
  ⟨cells_of_block h 0 _ rfl, cells_of_block h 1 _ rfl, cells_of_block h 2 _ rfl, cells_of_block h 3 _ rfl, cells_of_block h 4 _ rfl, cells_of_block h 5 _ rfl, cells_of_block h 6 _ rfl, cells_of_block h 7 _ rfl, cells_of_block h 8 _ rfl, cells_of_block h 9 _ rfl, cells_of_block h 10 _ rfl, cells_of_block h 11 _ rfl, cells_of_block h 12 _ rfl, cells_of_block h 13 _ rfl, cells_of_block h 14 _ rfl, cells_of_block h 15 _ rfl, cells_of_block h 16 _ rfl, cells_of_block h 17 _ rfl⟩
/-- A whole value is loaded, as a step of a drawn region that only reads. -/
theorem quiet_load {ops : Array Oper} {rest : List Oper} {o : Oper} {a : Act} {C : World → Prop} {Q : Act → Prop} (hgd : o.guard = none) (T : TypeId) (x : Operand) (ho : o.op = .load T x) (p : Addr) (hx : a.eval x = .pointer (some p)) (v : Value)
    (hr : ∀ W, C W → (loadVar T p).run Try.prog W = .ok v W) (a' : Act) (ha : a.put o.dst v = a') (h : wpQuiet Try.prog ops C Q rest a') : wpQuiet Try.prog ops C Q (o :: rest) a := by
  have hw : Region.wanted o (yielded ops a.tmps) = true := by simp [Region.wanted, hgd]
  subst ha
  unfold wpQuiet
  rw [if_pos hw]
  refine ⟨v, fun W hW => ?_, h⟩
  unfold Oper.quietAt Oper.quietUpon execOp
  simp only [ho, hx, Instr.loadAt, Instr.sureAddr, Sem.run_bind, Sem.run_pure, Result.andThen_ok, hr W hW]
  exact ⟨trivial, trivial⟩
def pickC : List Bool → Code → Code
  | [], c => c
  | b :: t, .seq x y => pickC t (bif b then y else x)
  | b :: t, .cond _ x y => pickC t (bif b then y else x)
  | _ :: t, .loop c => pickC t c
  | _ :: t, .block _ c => pickC t c
  | _ :: t, .scope c => pickC t c
  | _, c => c
set_option maxHeartbeats 4000000 in
set_option maxRecDepth 1000000 in
theorem rgtO6 (X : World) (q : Rp) (Z g i p ln lc : Nat) (n : Nat) (b : Bool) (hF : X.heap[Z]? = some (.cells q.fC.toArray 117 (0, 0))) (yl : X.cell? ⟨g, i, none⟩ = some (.int .u64 (p : Nat))) (p1 : ln ≤ lc) (p2 : lc ≤ 9223372036854775807) (hltI : (i : Int) < (ln : Int))
    (kn : ∀ W, Below X.heap.size X W → Calls Try.prog 74 #[.agg q.fC.toArray, .int .u64 (p : Nat), .int .u64 20, .int .u64 0, .int .i64 2] W fun e w' => e = .returned (.tuple #[.int .u64 (n : Nat), .bool b]) ∧ Below W.heap.size W w')
    (K : Act → World → Prop) (Q : Exit → Act → World → Prop) (c0 c1 c2 c4 c5 c6 c7 c9 c10 c12 c13 c14 c15 c16 c17 c18 c19 c20 c21 c22 c23 c24 c25 c26 c27 c28 c29 c30 c31 c32 c33 c34 c35 c36 c37 c38 c39 c40 c41 c42 c43 c44 c45 c46 c47 c48 c49 c50 c51 c52 c53 c54 c55 c56 c57 c58 c59 c60 c61 c62 c63 c64 c65 c66 c67 c68 c69 c70 c71 c72 c73 c74 c75 c76 c77 c78 c79 c80 c81 c82 c83 c84 c85 c86 c87 c88 c89 c90 c91 c92 c93 c94 c95 c96 c97 c98 c99 c100 c101 c102 c103 c104 c105 c106 c107 c108 c109 c110 c111 c112 c113 c114 c115 c116 c117 c118 c119 c120 c121 c122 c123 c124 c125 : Value) (hK : ∀ (W : World) (u39 u40 u41 u42 u43 u44 u45 u46 u47 : Value), Below X.heap.size X W → K ⟨(c0 :: c1 :: c2 :: .pointer (some ⟨Z, 0, none⟩) :: c4 :: c5 :: c6 :: c7 :: .slice (some ⟨g, 0, none⟩) ln lc :: c9 :: c10 :: .int .i64 (i : Nat) :: .int .u64 (n : Nat) :: .bool b :: c14 :: c15 :: c16 :: c17 :: c18 :: c19 :: c20 :: c21 :: c22 :: c23 :: c24 :: c25 :: c26 :: c27 :: c28 :: c29 :: c30 :: c31 :: c32 :: c33 :: c34 :: c35 :: c36 :: c37 :: c38 :: u39 :: u40 :: u41 :: u42 :: u43 :: u44 :: u45 :: u46 :: u47 :: c48 :: c49 :: c50 :: c51 :: c52 :: c53 :: c54 :: c55 :: c56 :: c57 :: c58 :: c59 :: c60 :: c61 :: c62 :: c63 :: c64 :: c65 :: c66 :: c67 :: c68 :: c69 :: c70 :: c71 :: c72 :: c73 :: c74 :: c75 :: c76 :: c77 :: c78 :: c79 :: c80 :: c81 :: c82 :: c83 :: c84 :: c85 :: c86 :: c87 :: c88 :: c89 :: c90 :: c91 :: c92 :: c93 :: c94 :: c95 :: c96 :: c97 :: c98 :: c99 :: c100 :: c101 :: c102 :: c103 :: c104 :: c105 :: c106 :: c107 :: c108 :: c109 :: c110 :: c111 :: c112 :: c113 :: c114 :: c115 :: c116 :: c117 :: c118 :: c119 :: c120 :: c121 :: c122 :: c123 :: c124 :: c125 :: []).toArray, []⟩ W) :
    Code.wp Try.prog (pickC [true, true, true, false, true, false, false, true, false, false, false] (Try.f51.body.getD .skip)) (Exit.then K Q) ⟨(c0 :: c1 :: c2 :: .pointer (some ⟨Z, 0, none⟩) :: c4 :: c5 :: c6 :: c7 :: .slice (some ⟨g, 0, none⟩) ln lc :: c9 :: c10 :: .int .i64 (i : Nat) :: c12 :: c13 :: c14 :: c15 :: c16 :: c17 :: c18 :: c19 :: c20 :: c21 :: c22 :: c23 :: c24 :: c25 :: c26 :: c27 :: c28 :: c29 :: c30 :: c31 :: c32 :: c33 :: c34 :: c35 :: c36 :: c37 :: c38 :: c39 :: c40 :: c41 :: c42 :: c43 :: c44 :: c45 :: c46 :: c47 :: c48 :: c49 :: c50 :: c51 :: c52 :: c53 :: c54 :: c55 :: c56 :: c57 :: c58 :: c59 :: c60 :: c61 :: c62 :: c63 :: c64 :: c65 :: c66 :: c67 :: c68 :: c69 :: c70 :: c71 :: c72 :: c73 :: c74 :: c75 :: c76 :: c77 :: c78 :: c79 :: c80 :: c81 :: c82 :: c83 :: c84 :: c85 :: c86 :: c87 :: c88 :: c89 :: c90 :: c91 :: c92 :: c93 :: c94 :: c95 :: c96 :: c97 :: c98 :: c99 :: c100 :: c101 :: c102 :: c103 :: c104 :: c105 :: c106 :: c107 :: c108 :: c109 :: c110 :: c111 :: c112 :: c113 :: c114 :: c115 :: c116 :: c117 :: c118 :: c119 :: c120 :: c121 :: c122 :: c123 :: c124 :: c125 :: []).toArray, []⟩ X := by
  have HK := hide hK
  have HN := hide kn
  have HLD : Hid (∀ W, (∃ p : Regrown, W = grow (redrawn X p.d) p.os) → (loadVar 117 ⟨Z, 0, none⟩).run Try.prog W = .ok (.agg q.fC.toArray) W) := fun W hW => by
    obtain ⟨p, rfl⟩ := hW
    exact load_fc (block_stay hF (below_regrown X p.d p.os))
  clear hK kn hF
  conv => arg 2; whnf
  refine wp_region_quiet_below (by kernel_rfl) (by kernel_rfl) ?_
  have xyl := cell_regrown yl
  refine quiet_load rfl _ _ rfl _ rfl _ HLD.out ⟨(c0 :: c1 :: c2 :: .pointer (some ⟨Z, 0, none⟩) :: c4 :: c5 :: c6 :: c7 :: .slice (some ⟨g, 0, none⟩) ln lc :: c9 :: c10 :: .int .i64 (i : Nat) :: c12 :: c13 :: c14 :: c15 :: c16 :: c17 :: c18 :: c19 :: c20 :: c21 :: c22 :: c23 :: c24 :: c25 :: c26 :: c27 :: c28 :: c29 :: c30 :: c31 :: c32 :: c33 :: c34 :: c35 :: c36 :: c37 :: c38 :: c39 :: (.agg q.fC.toArray) :: c41 :: c42 :: c43 :: c44 :: c45 :: c46 :: c47 :: c48 :: c49 :: c50 :: c51 :: c52 :: c53 :: c54 :: c55 :: c56 :: c57 :: c58 :: c59 :: c60 :: c61 :: c62 :: c63 :: c64 :: c65 :: c66 :: c67 :: c68 :: c69 :: c70 :: c71 :: c72 :: c73 :: c74 :: c75 :: c76 :: c77 :: c78 :: c79 :: c80 :: c81 :: c82 :: c83 :: c84 :: c85 :: c86 :: c87 :: c88 :: c89 :: c90 :: c91 :: c92 :: c93 :: c94 :: c95 :: c96 :: c97 :: c98 :: c99 :: c100 :: c101 :: c102 :: c103 :: c104 :: c105 :: c106 :: c107 :: c108 :: c109 :: c110 :: c111 :: c112 :: c113 :: c114 :: c115 :: c116 :: c117 :: c118 :: c119 :: c120 :: c121 :: c122 :: c123 :: c124 :: c125 :: []).toArray, []⟩ rfl ?_
  generalize q.fC.toArray = fq at *
  repeat (go_big_quiet_step (first | (with_reducible exact Calls.regrown_of (HN.out _ (below_regrown _ _ _)))))
  refine wpQuiet_nil ?_
  intro _ hwq
  obtain ⟨⟨dq, osq⟩, hwq2⟩ := hwq
  subst hwq2
  exact HK.out _ _ _ _ _ _ _ _ _ _ (below_regrown X dq osq)
set_option maxHeartbeats 4000000 in
set_option maxRecDepth 1000000 in
theorem rgtO7 (X : World) (q : Rp) (Z g i p ln lc : Nat) (n : Nat) (b : Bool) (hF : X.heap[Z]? = some (.cells q.fC.toArray 117 (0, 0))) (yl : X.cell? ⟨g, i, none⟩ = some (.int .u64 (p : Nat))) (p1 : ln ≤ lc) (p2 : lc ≤ 9223372036854775807) (hltI : (i : Int) < (ln : Int))
    (kn : ∀ W, Below X.heap.size X W → Calls Try.prog 74 #[.agg q.fC.toArray, .int .u64 (p : Nat), .int .u64 20, .int .u64 2, .int .i64 2] W fun e w' => e = .returned (.tuple #[.int .u64 (n : Nat), .bool b]) ∧ Below W.heap.size W w')
    (K : Act → World → Prop) (Q : Exit → Act → World → Prop) (c0 c1 c2 c4 c5 c6 c7 c9 c10 c12 c13 c14 c15 c16 c17 c18 c19 c20 c21 c22 c23 c24 c25 c26 c27 c28 c29 c30 c31 c32 c33 c34 c35 c36 c37 c38 c39 c40 c41 c42 c43 c44 c45 c46 c47 c48 c49 c50 c51 c52 c53 c54 c55 c56 c57 c58 c59 c60 c61 c62 c63 c64 c65 c66 c67 c68 c69 c70 c71 c72 c73 c74 c75 c76 c77 c78 c79 c80 c81 c82 c83 c84 c85 c86 c87 c88 c89 c90 c91 c92 c93 c94 c95 c96 c97 c98 c99 c100 c101 c102 c103 c104 c105 c106 c107 c108 c109 c110 c111 c112 c113 c114 c115 c116 c117 c118 c119 c120 c121 c122 c123 c124 c125 : Value) (hK : ∀ (W : World) (u48 u49 u50 u51 u52 u53 u54 u55 u56 : Value), Below X.heap.size X W → K ⟨(c0 :: c1 :: c2 :: .pointer (some ⟨Z, 0, none⟩) :: c4 :: c5 :: c6 :: c7 :: .slice (some ⟨g, 0, none⟩) ln lc :: c9 :: c10 :: .int .i64 (i : Nat) :: c12 :: c13 :: .int .u64 (n : Nat) :: .bool b :: c16 :: c17 :: c18 :: c19 :: c20 :: c21 :: c22 :: c23 :: c24 :: c25 :: c26 :: c27 :: c28 :: c29 :: c30 :: c31 :: c32 :: c33 :: c34 :: c35 :: c36 :: c37 :: c38 :: c39 :: c40 :: c41 :: c42 :: c43 :: c44 :: c45 :: c46 :: c47 :: u48 :: u49 :: u50 :: u51 :: u52 :: u53 :: u54 :: u55 :: u56 :: c57 :: c58 :: c59 :: c60 :: c61 :: c62 :: c63 :: c64 :: c65 :: c66 :: c67 :: c68 :: c69 :: c70 :: c71 :: c72 :: c73 :: c74 :: c75 :: c76 :: c77 :: c78 :: c79 :: c80 :: c81 :: c82 :: c83 :: c84 :: c85 :: c86 :: c87 :: c88 :: c89 :: c90 :: c91 :: c92 :: c93 :: c94 :: c95 :: c96 :: c97 :: c98 :: c99 :: c100 :: c101 :: c102 :: c103 :: c104 :: c105 :: c106 :: c107 :: c108 :: c109 :: c110 :: c111 :: c112 :: c113 :: c114 :: c115 :: c116 :: c117 :: c118 :: c119 :: c120 :: c121 :: c122 :: c123 :: c124 :: c125 :: []).toArray, []⟩ W) :
    Code.wp Try.prog (pickC [true, true, true, false, true, false, false, true, false, false, true, false] (Try.f51.body.getD .skip)) (Exit.then K Q) ⟨(c0 :: c1 :: c2 :: .pointer (some ⟨Z, 0, none⟩) :: c4 :: c5 :: c6 :: c7 :: .slice (some ⟨g, 0, none⟩) ln lc :: c9 :: c10 :: .int .i64 (i : Nat) :: c12 :: c13 :: c14 :: c15 :: c16 :: c17 :: c18 :: c19 :: c20 :: c21 :: c22 :: c23 :: c24 :: c25 :: c26 :: c27 :: c28 :: c29 :: c30 :: c31 :: c32 :: c33 :: c34 :: c35 :: c36 :: c37 :: c38 :: c39 :: c40 :: c41 :: c42 :: c43 :: c44 :: c45 :: c46 :: c47 :: c48 :: c49 :: c50 :: c51 :: c52 :: c53 :: c54 :: c55 :: c56 :: c57 :: c58 :: c59 :: c60 :: c61 :: c62 :: c63 :: c64 :: c65 :: c66 :: c67 :: c68 :: c69 :: c70 :: c71 :: c72 :: c73 :: c74 :: c75 :: c76 :: c77 :: c78 :: c79 :: c80 :: c81 :: c82 :: c83 :: c84 :: c85 :: c86 :: c87 :: c88 :: c89 :: c90 :: c91 :: c92 :: c93 :: c94 :: c95 :: c96 :: c97 :: c98 :: c99 :: c100 :: c101 :: c102 :: c103 :: c104 :: c105 :: c106 :: c107 :: c108 :: c109 :: c110 :: c111 :: c112 :: c113 :: c114 :: c115 :: c116 :: c117 :: c118 :: c119 :: c120 :: c121 :: c122 :: c123 :: c124 :: c125 :: []).toArray, []⟩ X := by
  have HK := hide hK
  have HN := hide kn
  have HLD : Hid (∀ W, (∃ p : Regrown, W = grow (redrawn X p.d) p.os) → (loadVar 117 ⟨Z, 0, none⟩).run Try.prog W = .ok (.agg q.fC.toArray) W) := fun W hW => by
    obtain ⟨p, rfl⟩ := hW
    exact load_fc (block_stay hF (below_regrown X p.d p.os))
  clear hK kn hF
  conv => arg 2; whnf
  refine wp_region_quiet_below (by kernel_rfl) (by kernel_rfl) ?_
  have xyl := cell_regrown yl
  refine quiet_load rfl _ _ rfl _ rfl _ HLD.out ⟨(c0 :: c1 :: c2 :: .pointer (some ⟨Z, 0, none⟩) :: c4 :: c5 :: c6 :: c7 :: .slice (some ⟨g, 0, none⟩) ln lc :: c9 :: c10 :: .int .i64 (i : Nat) :: c12 :: c13 :: c14 :: c15 :: c16 :: c17 :: c18 :: c19 :: c20 :: c21 :: c22 :: c23 :: c24 :: c25 :: c26 :: c27 :: c28 :: c29 :: c30 :: c31 :: c32 :: c33 :: c34 :: c35 :: c36 :: c37 :: c38 :: c39 :: c40 :: c41 :: c42 :: c43 :: c44 :: c45 :: c46 :: c47 :: c48 :: (.agg q.fC.toArray) :: c50 :: c51 :: c52 :: c53 :: c54 :: c55 :: c56 :: c57 :: c58 :: c59 :: c60 :: c61 :: c62 :: c63 :: c64 :: c65 :: c66 :: c67 :: c68 :: c69 :: c70 :: c71 :: c72 :: c73 :: c74 :: c75 :: c76 :: c77 :: c78 :: c79 :: c80 :: c81 :: c82 :: c83 :: c84 :: c85 :: c86 :: c87 :: c88 :: c89 :: c90 :: c91 :: c92 :: c93 :: c94 :: c95 :: c96 :: c97 :: c98 :: c99 :: c100 :: c101 :: c102 :: c103 :: c104 :: c105 :: c106 :: c107 :: c108 :: c109 :: c110 :: c111 :: c112 :: c113 :: c114 :: c115 :: c116 :: c117 :: c118 :: c119 :: c120 :: c121 :: c122 :: c123 :: c124 :: c125 :: []).toArray, []⟩ rfl ?_
  generalize q.fC.toArray = fq at *
  repeat (go_big_quiet_step (first | (with_reducible exact Calls.regrown_of (HN.out _ (below_regrown _ _ _)))))
  refine wpQuiet_nil ?_
  intro _ hwq
  obtain ⟨⟨dq, osq⟩, hwq2⟩ := hwq
  subst hwq2
  exact HK.out _ _ _ _ _ _ _ _ _ _ (below_regrown X dq osq)
set_option maxHeartbeats 4000000 in
set_option maxRecDepth 1000000 in
theorem rgtO8 (X : World) (q : Rp) (Z g i p ln lc : Nat) (n : Nat) (b : Bool) (hF : X.heap[Z]? = some (.cells q.fC.toArray 117 (0, 0))) (yl : X.cell? ⟨g, i, none⟩ = some (.int .u64 (p : Nat))) (p1 : ln ≤ lc) (p2 : lc ≤ 9223372036854775807) (hltI : (i : Int) < (ln : Int))
    (kn : ∀ W, Below X.heap.size X W → Calls Try.prog 74 #[.agg q.fC.toArray, .int .u64 (p : Nat), .int .u64 20, .int .u64 4, .int .i64 2] W fun e w' => e = .returned (.tuple #[.int .u64 (n : Nat), .bool b]) ∧ Below W.heap.size W w')
    (K : Act → World → Prop) (Q : Exit → Act → World → Prop) (c0 c1 c2 c4 c5 c6 c7 c9 c10 c12 c13 c14 c15 c16 c17 c18 c19 c20 c21 c22 c23 c24 c25 c26 c27 c28 c29 c30 c31 c32 c33 c34 c35 c36 c37 c38 c39 c40 c41 c42 c43 c44 c45 c46 c47 c48 c49 c50 c51 c52 c53 c54 c55 c56 c57 c58 c59 c60 c61 c62 c63 c64 c65 c66 c67 c68 c69 c70 c71 c72 c73 c74 c75 c76 c77 c78 c79 c80 c81 c82 c83 c84 c85 c86 c87 c88 c89 c90 c91 c92 c93 c94 c95 c96 c97 c98 c99 c100 c101 c102 c103 c104 c105 c106 c107 c108 c109 c110 c111 c112 c113 c114 c115 c116 c117 c118 c119 c120 c121 c122 c123 c124 c125 : Value) (hK : ∀ (W : World) (u57 u58 u59 u60 u61 u62 u63 u64 u65 : Value), Below X.heap.size X W → K ⟨(c0 :: c1 :: c2 :: .pointer (some ⟨Z, 0, none⟩) :: c4 :: c5 :: c6 :: c7 :: .slice (some ⟨g, 0, none⟩) ln lc :: c9 :: c10 :: .int .i64 (i : Nat) :: c12 :: c13 :: c14 :: c15 :: .int .u64 (n : Nat) :: .bool b :: c18 :: c19 :: c20 :: c21 :: c22 :: c23 :: c24 :: c25 :: c26 :: c27 :: c28 :: c29 :: c30 :: c31 :: c32 :: c33 :: c34 :: c35 :: c36 :: c37 :: c38 :: c39 :: c40 :: c41 :: c42 :: c43 :: c44 :: c45 :: c46 :: c47 :: c48 :: c49 :: c50 :: c51 :: c52 :: c53 :: c54 :: c55 :: c56 :: u57 :: u58 :: u59 :: u60 :: u61 :: u62 :: u63 :: u64 :: u65 :: c66 :: c67 :: c68 :: c69 :: c70 :: c71 :: c72 :: c73 :: c74 :: c75 :: c76 :: c77 :: c78 :: c79 :: c80 :: c81 :: c82 :: c83 :: c84 :: c85 :: c86 :: c87 :: c88 :: c89 :: c90 :: c91 :: c92 :: c93 :: c94 :: c95 :: c96 :: c97 :: c98 :: c99 :: c100 :: c101 :: c102 :: c103 :: c104 :: c105 :: c106 :: c107 :: c108 :: c109 :: c110 :: c111 :: c112 :: c113 :: c114 :: c115 :: c116 :: c117 :: c118 :: c119 :: c120 :: c121 :: c122 :: c123 :: c124 :: c125 :: []).toArray, []⟩ W) :
    Code.wp Try.prog (pickC [true, true, true, false, true, false, false, true, false, false, true, true, false] (Try.f51.body.getD .skip)) (Exit.then K Q) ⟨(c0 :: c1 :: c2 :: .pointer (some ⟨Z, 0, none⟩) :: c4 :: c5 :: c6 :: c7 :: .slice (some ⟨g, 0, none⟩) ln lc :: c9 :: c10 :: .int .i64 (i : Nat) :: c12 :: c13 :: c14 :: c15 :: c16 :: c17 :: c18 :: c19 :: c20 :: c21 :: c22 :: c23 :: c24 :: c25 :: c26 :: c27 :: c28 :: c29 :: c30 :: c31 :: c32 :: c33 :: c34 :: c35 :: c36 :: c37 :: c38 :: c39 :: c40 :: c41 :: c42 :: c43 :: c44 :: c45 :: c46 :: c47 :: c48 :: c49 :: c50 :: c51 :: c52 :: c53 :: c54 :: c55 :: c56 :: c57 :: c58 :: c59 :: c60 :: c61 :: c62 :: c63 :: c64 :: c65 :: c66 :: c67 :: c68 :: c69 :: c70 :: c71 :: c72 :: c73 :: c74 :: c75 :: c76 :: c77 :: c78 :: c79 :: c80 :: c81 :: c82 :: c83 :: c84 :: c85 :: c86 :: c87 :: c88 :: c89 :: c90 :: c91 :: c92 :: c93 :: c94 :: c95 :: c96 :: c97 :: c98 :: c99 :: c100 :: c101 :: c102 :: c103 :: c104 :: c105 :: c106 :: c107 :: c108 :: c109 :: c110 :: c111 :: c112 :: c113 :: c114 :: c115 :: c116 :: c117 :: c118 :: c119 :: c120 :: c121 :: c122 :: c123 :: c124 :: c125 :: []).toArray, []⟩ X := by
  have HK := hide hK
  have HN := hide kn
  have HLD : Hid (∀ W, (∃ p : Regrown, W = grow (redrawn X p.d) p.os) → (loadVar 117 ⟨Z, 0, none⟩).run Try.prog W = .ok (.agg q.fC.toArray) W) := fun W hW => by
    obtain ⟨p, rfl⟩ := hW
    exact load_fc (block_stay hF (below_regrown X p.d p.os))
  clear hK kn hF
  conv => arg 2; whnf
  refine wp_region_quiet_below (by kernel_rfl) (by kernel_rfl) ?_
  have xyl := cell_regrown yl
  refine quiet_load rfl _ _ rfl _ rfl _ HLD.out ⟨(c0 :: c1 :: c2 :: .pointer (some ⟨Z, 0, none⟩) :: c4 :: c5 :: c6 :: c7 :: .slice (some ⟨g, 0, none⟩) ln lc :: c9 :: c10 :: .int .i64 (i : Nat) :: c12 :: c13 :: c14 :: c15 :: c16 :: c17 :: c18 :: c19 :: c20 :: c21 :: c22 :: c23 :: c24 :: c25 :: c26 :: c27 :: c28 :: c29 :: c30 :: c31 :: c32 :: c33 :: c34 :: c35 :: c36 :: c37 :: c38 :: c39 :: c40 :: c41 :: c42 :: c43 :: c44 :: c45 :: c46 :: c47 :: c48 :: c49 :: c50 :: c51 :: c52 :: c53 :: c54 :: c55 :: c56 :: c57 :: (.agg q.fC.toArray) :: c59 :: c60 :: c61 :: c62 :: c63 :: c64 :: c65 :: c66 :: c67 :: c68 :: c69 :: c70 :: c71 :: c72 :: c73 :: c74 :: c75 :: c76 :: c77 :: c78 :: c79 :: c80 :: c81 :: c82 :: c83 :: c84 :: c85 :: c86 :: c87 :: c88 :: c89 :: c90 :: c91 :: c92 :: c93 :: c94 :: c95 :: c96 :: c97 :: c98 :: c99 :: c100 :: c101 :: c102 :: c103 :: c104 :: c105 :: c106 :: c107 :: c108 :: c109 :: c110 :: c111 :: c112 :: c113 :: c114 :: c115 :: c116 :: c117 :: c118 :: c119 :: c120 :: c121 :: c122 :: c123 :: c124 :: c125 :: []).toArray, []⟩ rfl ?_
  generalize q.fC.toArray = fq at *
  repeat (go_big_quiet_step (first | (with_reducible exact Calls.regrown_of (HN.out _ (below_regrown _ _ _)))))
  refine wpQuiet_nil ?_
  intro _ hwq
  obtain ⟨⟨dq, osq⟩, hwq2⟩ := hwq
  subst hwq2
  exact HK.out _ _ _ _ _ _ _ _ _ _ (below_regrown X dq osq)
set_option maxHeartbeats 4000000 in
set_option maxRecDepth 1000000 in
theorem rgtO9 (X : World) (q : Rp) (Z g i p ln lc : Nat) (n : Nat) (b : Bool) (hF : X.heap[Z]? = some (.cells q.fC.toArray 117 (0, 0))) (yl : X.cell? ⟨g, i, none⟩ = some (.int .u64 (p : Nat))) (p1 : ln ≤ lc) (p2 : lc ≤ 9223372036854775807) (hltI : (i : Int) < (ln : Int))
    (kn : ∀ W, Below X.heap.size X W → Calls Try.prog 74 #[.agg q.fC.toArray, .int .u64 (p : Nat), .int .u64 20, .int .u64 6, .int .i64 2] W fun e w' => e = .returned (.tuple #[.int .u64 (n : Nat), .bool b]) ∧ Below W.heap.size W w')
    (K : Act → World → Prop) (Q : Exit → Act → World → Prop) (c0 c1 c2 c4 c5 c6 c7 c9 c10 c12 c13 c14 c15 c16 c17 c18 c19 c20 c21 c22 c23 c24 c25 c26 c27 c28 c29 c30 c31 c32 c33 c34 c35 c36 c37 c38 c39 c40 c41 c42 c43 c44 c45 c46 c47 c48 c49 c50 c51 c52 c53 c54 c55 c56 c57 c58 c59 c60 c61 c62 c63 c64 c65 c66 c67 c68 c69 c70 c71 c72 c73 c74 c75 c76 c77 c78 c79 c80 c81 c82 c83 c84 c85 c86 c87 c88 c89 c90 c91 c92 c93 c94 c95 c96 c97 c98 c99 c100 c101 c102 c103 c104 c105 c106 c107 c108 c109 c110 c111 c112 c113 c114 c115 c116 c117 c118 c119 c120 c121 c122 c123 c124 c125 : Value) (hK : ∀ (W : World) (u66 u67 u68 u69 u70 u71 u72 u73 u74 : Value), Below X.heap.size X W → K ⟨(c0 :: c1 :: c2 :: .pointer (some ⟨Z, 0, none⟩) :: c4 :: c5 :: c6 :: c7 :: .slice (some ⟨g, 0, none⟩) ln lc :: c9 :: c10 :: .int .i64 (i : Nat) :: c12 :: c13 :: c14 :: c15 :: c16 :: c17 :: .int .u64 (n : Nat) :: .bool b :: c20 :: c21 :: c22 :: c23 :: c24 :: c25 :: c26 :: c27 :: c28 :: c29 :: c30 :: c31 :: c32 :: c33 :: c34 :: c35 :: c36 :: c37 :: c38 :: c39 :: c40 :: c41 :: c42 :: c43 :: c44 :: c45 :: c46 :: c47 :: c48 :: c49 :: c50 :: c51 :: c52 :: c53 :: c54 :: c55 :: c56 :: c57 :: c58 :: c59 :: c60 :: c61 :: c62 :: c63 :: c64 :: c65 :: u66 :: u67 :: u68 :: u69 :: u70 :: u71 :: u72 :: u73 :: u74 :: c75 :: c76 :: c77 :: c78 :: c79 :: c80 :: c81 :: c82 :: c83 :: c84 :: c85 :: c86 :: c87 :: c88 :: c89 :: c90 :: c91 :: c92 :: c93 :: c94 :: c95 :: c96 :: c97 :: c98 :: c99 :: c100 :: c101 :: c102 :: c103 :: c104 :: c105 :: c106 :: c107 :: c108 :: c109 :: c110 :: c111 :: c112 :: c113 :: c114 :: c115 :: c116 :: c117 :: c118 :: c119 :: c120 :: c121 :: c122 :: c123 :: c124 :: c125 :: []).toArray, []⟩ W) :
    Code.wp Try.prog (pickC [true, true, true, false, true, false, false, true, false, false, true, true, true, false] (Try.f51.body.getD .skip)) (Exit.then K Q) ⟨(c0 :: c1 :: c2 :: .pointer (some ⟨Z, 0, none⟩) :: c4 :: c5 :: c6 :: c7 :: .slice (some ⟨g, 0, none⟩) ln lc :: c9 :: c10 :: .int .i64 (i : Nat) :: c12 :: c13 :: c14 :: c15 :: c16 :: c17 :: c18 :: c19 :: c20 :: c21 :: c22 :: c23 :: c24 :: c25 :: c26 :: c27 :: c28 :: c29 :: c30 :: c31 :: c32 :: c33 :: c34 :: c35 :: c36 :: c37 :: c38 :: c39 :: c40 :: c41 :: c42 :: c43 :: c44 :: c45 :: c46 :: c47 :: c48 :: c49 :: c50 :: c51 :: c52 :: c53 :: c54 :: c55 :: c56 :: c57 :: c58 :: c59 :: c60 :: c61 :: c62 :: c63 :: c64 :: c65 :: c66 :: c67 :: c68 :: c69 :: c70 :: c71 :: c72 :: c73 :: c74 :: c75 :: c76 :: c77 :: c78 :: c79 :: c80 :: c81 :: c82 :: c83 :: c84 :: c85 :: c86 :: c87 :: c88 :: c89 :: c90 :: c91 :: c92 :: c93 :: c94 :: c95 :: c96 :: c97 :: c98 :: c99 :: c100 :: c101 :: c102 :: c103 :: c104 :: c105 :: c106 :: c107 :: c108 :: c109 :: c110 :: c111 :: c112 :: c113 :: c114 :: c115 :: c116 :: c117 :: c118 :: c119 :: c120 :: c121 :: c122 :: c123 :: c124 :: c125 :: []).toArray, []⟩ X := by
  have HK := hide hK
  have HN := hide kn
  have HLD : Hid (∀ W, (∃ p : Regrown, W = grow (redrawn X p.d) p.os) → (loadVar 117 ⟨Z, 0, none⟩).run Try.prog W = .ok (.agg q.fC.toArray) W) := fun W hW => by
    obtain ⟨p, rfl⟩ := hW
    exact load_fc (block_stay hF (below_regrown X p.d p.os))
  clear hK kn hF
  conv => arg 2; whnf
  refine wp_region_quiet_below (by kernel_rfl) (by kernel_rfl) ?_
  have xyl := cell_regrown yl
  refine quiet_load rfl _ _ rfl _ rfl _ HLD.out ⟨(c0 :: c1 :: c2 :: .pointer (some ⟨Z, 0, none⟩) :: c4 :: c5 :: c6 :: c7 :: .slice (some ⟨g, 0, none⟩) ln lc :: c9 :: c10 :: .int .i64 (i : Nat) :: c12 :: c13 :: c14 :: c15 :: c16 :: c17 :: c18 :: c19 :: c20 :: c21 :: c22 :: c23 :: c24 :: c25 :: c26 :: c27 :: c28 :: c29 :: c30 :: c31 :: c32 :: c33 :: c34 :: c35 :: c36 :: c37 :: c38 :: c39 :: c40 :: c41 :: c42 :: c43 :: c44 :: c45 :: c46 :: c47 :: c48 :: c49 :: c50 :: c51 :: c52 :: c53 :: c54 :: c55 :: c56 :: c57 :: c58 :: c59 :: c60 :: c61 :: c62 :: c63 :: c64 :: c65 :: c66 :: (.agg q.fC.toArray) :: c68 :: c69 :: c70 :: c71 :: c72 :: c73 :: c74 :: c75 :: c76 :: c77 :: c78 :: c79 :: c80 :: c81 :: c82 :: c83 :: c84 :: c85 :: c86 :: c87 :: c88 :: c89 :: c90 :: c91 :: c92 :: c93 :: c94 :: c95 :: c96 :: c97 :: c98 :: c99 :: c100 :: c101 :: c102 :: c103 :: c104 :: c105 :: c106 :: c107 :: c108 :: c109 :: c110 :: c111 :: c112 :: c113 :: c114 :: c115 :: c116 :: c117 :: c118 :: c119 :: c120 :: c121 :: c122 :: c123 :: c124 :: c125 :: []).toArray, []⟩ rfl ?_
  generalize q.fC.toArray = fq at *
  repeat (go_big_quiet_step (first | (with_reducible exact Calls.regrown_of (HN.out _ (below_regrown _ _ _)))))
  refine wpQuiet_nil ?_
  intro _ hwq
  obtain ⟨⟨dq, osq⟩, hwq2⟩ := hwq
  subst hwq2
  exact HK.out _ _ _ _ _ _ _ _ _ _ (below_regrown X dq osq)
set_option maxHeartbeats 4000000 in
set_option maxRecDepth 1000000 in
theorem rgtO10 (X : World) (q : Rp) (Z g i p ln lc : Nat) (n : Nat) (b : Bool) (hF : X.heap[Z]? = some (.cells q.fC.toArray 117 (0, 0))) (yl : X.cell? ⟨g, i, none⟩ = some (.int .u64 (p : Nat))) (p1 : ln ≤ lc) (p2 : lc ≤ 9223372036854775807) (hltI : (i : Int) < (ln : Int))
    (kn : ∀ W, Below X.heap.size X W → Calls Try.prog 74 #[.agg q.fC.toArray, .int .u64 (p : Nat), .int .u64 20, .int .u64 12, .int .i64 4] W fun e w' => e = .returned (.tuple #[.int .u64 (n : Nat), .bool b]) ∧ Below W.heap.size W w')
    (K : Act → World → Prop) (Q : Exit → Act → World → Prop) (c0 c1 c2 c4 c5 c6 c7 c9 c10 c12 c13 c14 c15 c16 c17 c18 c19 c20 c21 c22 c23 c24 c25 c26 c27 c28 c29 c30 c31 c32 c33 c34 c35 c36 c37 c38 c39 c40 c41 c42 c43 c44 c45 c46 c47 c48 c49 c50 c51 c52 c53 c54 c55 c56 c57 c58 c59 c60 c61 c62 c63 c64 c65 c66 c67 c68 c69 c70 c71 c72 c73 c74 c75 c76 c77 c78 c79 c80 c81 c82 c83 c84 c85 c86 c87 c88 c89 c90 c91 c92 c93 c94 c95 c96 c97 c98 c99 c100 c101 c102 c103 c104 c105 c106 c107 c108 c109 c110 c111 c112 c113 c114 c115 c116 c117 c118 c119 c120 c121 c122 c123 c124 c125 : Value) (hK : ∀ (W : World) (u75 u76 u77 u78 u79 u80 u81 u82 u83 : Value), Below X.heap.size X W → K ⟨(c0 :: c1 :: c2 :: .pointer (some ⟨Z, 0, none⟩) :: c4 :: c5 :: c6 :: c7 :: .slice (some ⟨g, 0, none⟩) ln lc :: c9 :: c10 :: .int .i64 (i : Nat) :: c12 :: c13 :: c14 :: c15 :: c16 :: c17 :: c18 :: c19 :: .int .u64 (n : Nat) :: .bool b :: c22 :: c23 :: c24 :: c25 :: c26 :: c27 :: c28 :: c29 :: c30 :: c31 :: c32 :: c33 :: c34 :: c35 :: c36 :: c37 :: c38 :: c39 :: c40 :: c41 :: c42 :: c43 :: c44 :: c45 :: c46 :: c47 :: c48 :: c49 :: c50 :: c51 :: c52 :: c53 :: c54 :: c55 :: c56 :: c57 :: c58 :: c59 :: c60 :: c61 :: c62 :: c63 :: c64 :: c65 :: c66 :: c67 :: c68 :: c69 :: c70 :: c71 :: c72 :: c73 :: c74 :: u75 :: u76 :: u77 :: u78 :: u79 :: u80 :: u81 :: u82 :: u83 :: c84 :: c85 :: c86 :: c87 :: c88 :: c89 :: c90 :: c91 :: c92 :: c93 :: c94 :: c95 :: c96 :: c97 :: c98 :: c99 :: c100 :: c101 :: c102 :: c103 :: c104 :: c105 :: c106 :: c107 :: c108 :: c109 :: c110 :: c111 :: c112 :: c113 :: c114 :: c115 :: c116 :: c117 :: c118 :: c119 :: c120 :: c121 :: c122 :: c123 :: c124 :: c125 :: []).toArray, []⟩ W) :
    Code.wp Try.prog (pickC [true, true, true, false, true, false, false, true, false, false, true, true, true, true, false] (Try.f51.body.getD .skip)) (Exit.then K Q) ⟨(c0 :: c1 :: c2 :: .pointer (some ⟨Z, 0, none⟩) :: c4 :: c5 :: c6 :: c7 :: .slice (some ⟨g, 0, none⟩) ln lc :: c9 :: c10 :: .int .i64 (i : Nat) :: c12 :: c13 :: c14 :: c15 :: c16 :: c17 :: c18 :: c19 :: c20 :: c21 :: c22 :: c23 :: c24 :: c25 :: c26 :: c27 :: c28 :: c29 :: c30 :: c31 :: c32 :: c33 :: c34 :: c35 :: c36 :: c37 :: c38 :: c39 :: c40 :: c41 :: c42 :: c43 :: c44 :: c45 :: c46 :: c47 :: c48 :: c49 :: c50 :: c51 :: c52 :: c53 :: c54 :: c55 :: c56 :: c57 :: c58 :: c59 :: c60 :: c61 :: c62 :: c63 :: c64 :: c65 :: c66 :: c67 :: c68 :: c69 :: c70 :: c71 :: c72 :: c73 :: c74 :: c75 :: c76 :: c77 :: c78 :: c79 :: c80 :: c81 :: c82 :: c83 :: c84 :: c85 :: c86 :: c87 :: c88 :: c89 :: c90 :: c91 :: c92 :: c93 :: c94 :: c95 :: c96 :: c97 :: c98 :: c99 :: c100 :: c101 :: c102 :: c103 :: c104 :: c105 :: c106 :: c107 :: c108 :: c109 :: c110 :: c111 :: c112 :: c113 :: c114 :: c115 :: c116 :: c117 :: c118 :: c119 :: c120 :: c121 :: c122 :: c123 :: c124 :: c125 :: []).toArray, []⟩ X := by
  have HK := hide hK
  have HN := hide kn
  have HLD : Hid (∀ W, (∃ p : Regrown, W = grow (redrawn X p.d) p.os) → (loadVar 117 ⟨Z, 0, none⟩).run Try.prog W = .ok (.agg q.fC.toArray) W) := fun W hW => by
    obtain ⟨p, rfl⟩ := hW
    exact load_fc (block_stay hF (below_regrown X p.d p.os))
  clear hK kn hF
  conv => arg 2; whnf
  refine wp_region_quiet_below (by kernel_rfl) (by kernel_rfl) ?_
  have xyl := cell_regrown yl
  refine quiet_load rfl _ _ rfl _ rfl _ HLD.out ⟨(c0 :: c1 :: c2 :: .pointer (some ⟨Z, 0, none⟩) :: c4 :: c5 :: c6 :: c7 :: .slice (some ⟨g, 0, none⟩) ln lc :: c9 :: c10 :: .int .i64 (i : Nat) :: c12 :: c13 :: c14 :: c15 :: c16 :: c17 :: c18 :: c19 :: c20 :: c21 :: c22 :: c23 :: c24 :: c25 :: c26 :: c27 :: c28 :: c29 :: c30 :: c31 :: c32 :: c33 :: c34 :: c35 :: c36 :: c37 :: c38 :: c39 :: c40 :: c41 :: c42 :: c43 :: c44 :: c45 :: c46 :: c47 :: c48 :: c49 :: c50 :: c51 :: c52 :: c53 :: c54 :: c55 :: c56 :: c57 :: c58 :: c59 :: c60 :: c61 :: c62 :: c63 :: c64 :: c65 :: c66 :: c67 :: c68 :: c69 :: c70 :: c71 :: c72 :: c73 :: c74 :: c75 :: (.agg q.fC.toArray) :: c77 :: c78 :: c79 :: c80 :: c81 :: c82 :: c83 :: c84 :: c85 :: c86 :: c87 :: c88 :: c89 :: c90 :: c91 :: c92 :: c93 :: c94 :: c95 :: c96 :: c97 :: c98 :: c99 :: c100 :: c101 :: c102 :: c103 :: c104 :: c105 :: c106 :: c107 :: c108 :: c109 :: c110 :: c111 :: c112 :: c113 :: c114 :: c115 :: c116 :: c117 :: c118 :: c119 :: c120 :: c121 :: c122 :: c123 :: c124 :: c125 :: []).toArray, []⟩ rfl ?_
  generalize q.fC.toArray = fq at *
  repeat (go_big_quiet_step (first | (with_reducible exact Calls.regrown_of (HN.out _ (below_regrown _ _ _)))))
  refine wpQuiet_nil ?_
  intro _ hwq
  obtain ⟨⟨dq, osq⟩, hwq2⟩ := hwq
  subst hwq2
  exact HK.out _ _ _ _ _ _ _ _ _ _ (below_regrown X dq osq)
set_option maxHeartbeats 4000000 in
set_option maxRecDepth 1000000 in
theorem rgtO11 (X : World) (q : Rp) (Z g i p ln lc : Nat) (m n : Nat) (b : Bool) (hF : X.heap[Z]? = some (.cells q.fC.toArray 117 (0, 0))) (yl : X.cell? ⟨g, i, none⟩ = some (.int .u64 (p : Nat))) (p1 : ln ≤ lc) (p2 : lc ≤ 9223372036854775807) (hltI : (i : Int) < (ln : Int)) (hpI : (p : Int) ≤ 16384) (hmI : (m : Int) ≤ 4294967295)
    (kn : ∀ W, Below X.heap.size X W → Calls Try.prog 74 #[.agg q.fC.toArray, .int .u64 ((p : Int) + (m : Int)), .int .u64 8, .int .u64 0, .int .i64 4] W fun e w' => e = .returned (.tuple #[.int .u64 (n : Nat), .bool b]) ∧ Below W.heap.size W w')
    (K : Act → World → Prop) (Q : Exit → Act → World → Prop) (c0 c1 c2 c4 c5 c6 c7 c9 c10 c12 c13 c14 c15 c16 c17 c18 c19 c21 c22 c23 c24 c25 c26 c27 c28 c29 c30 c31 c32 c33 c34 c35 c36 c37 c38 c39 c40 c41 c42 c43 c44 c45 c46 c47 c48 c49 c50 c51 c52 c53 c54 c55 c56 c57 c58 c59 c60 c61 c62 c63 c64 c65 c66 c67 c68 c69 c70 c71 c72 c73 c74 c75 c76 c77 c78 c79 c80 c81 c82 c83 c84 c85 c86 c87 c88 c89 c90 c91 c92 c93 c94 c95 c96 c97 c98 c99 c100 c101 c102 c103 c104 c105 c106 c107 c108 c109 c110 c111 c112 c113 c114 c115 c116 c117 c118 c119 c120 c121 c122 c123 c124 c125 : Value) (hK : ∀ (W : World) (u84 u85 u86 u87 u88 u89 u90 u91 u92 u93 u94 : Value), Below X.heap.size X W → K ⟨(c0 :: c1 :: c2 :: .pointer (some ⟨Z, 0, none⟩) :: c4 :: c5 :: c6 :: c7 :: .slice (some ⟨g, 0, none⟩) ln lc :: c9 :: c10 :: .int .i64 (i : Nat) :: c12 :: c13 :: c14 :: c15 :: c16 :: c17 :: c18 :: c19 :: .int .u64 (m : Nat) :: c21 :: .int .u64 (n : Nat) :: .bool b :: c24 :: c25 :: c26 :: c27 :: c28 :: c29 :: c30 :: c31 :: c32 :: c33 :: c34 :: c35 :: c36 :: c37 :: c38 :: c39 :: c40 :: c41 :: c42 :: c43 :: c44 :: c45 :: c46 :: c47 :: c48 :: c49 :: c50 :: c51 :: c52 :: c53 :: c54 :: c55 :: c56 :: c57 :: c58 :: c59 :: c60 :: c61 :: c62 :: c63 :: c64 :: c65 :: c66 :: c67 :: c68 :: c69 :: c70 :: c71 :: c72 :: c73 :: c74 :: c75 :: c76 :: c77 :: c78 :: c79 :: c80 :: c81 :: c82 :: c83 :: u84 :: u85 :: u86 :: u87 :: u88 :: u89 :: u90 :: u91 :: u92 :: u93 :: u94 :: c95 :: c96 :: c97 :: c98 :: c99 :: c100 :: c101 :: c102 :: c103 :: c104 :: c105 :: c106 :: c107 :: c108 :: c109 :: c110 :: c111 :: c112 :: c113 :: c114 :: c115 :: c116 :: c117 :: c118 :: c119 :: c120 :: c121 :: c122 :: c123 :: c124 :: c125 :: []).toArray, []⟩ W) :
    Code.wp Try.prog (pickC [true, true, true, false, true, false, false, true, false, false, true, true, true, true, true, false] (Try.f51.body.getD .skip)) (Exit.then K Q) ⟨(c0 :: c1 :: c2 :: .pointer (some ⟨Z, 0, none⟩) :: c4 :: c5 :: c6 :: c7 :: .slice (some ⟨g, 0, none⟩) ln lc :: c9 :: c10 :: .int .i64 (i : Nat) :: c12 :: c13 :: c14 :: c15 :: c16 :: c17 :: c18 :: c19 :: .int .u64 (m : Nat) :: c21 :: c22 :: c23 :: c24 :: c25 :: c26 :: c27 :: c28 :: c29 :: c30 :: c31 :: c32 :: c33 :: c34 :: c35 :: c36 :: c37 :: c38 :: c39 :: c40 :: c41 :: c42 :: c43 :: c44 :: c45 :: c46 :: c47 :: c48 :: c49 :: c50 :: c51 :: c52 :: c53 :: c54 :: c55 :: c56 :: c57 :: c58 :: c59 :: c60 :: c61 :: c62 :: c63 :: c64 :: c65 :: c66 :: c67 :: c68 :: c69 :: c70 :: c71 :: c72 :: c73 :: c74 :: c75 :: c76 :: c77 :: c78 :: c79 :: c80 :: c81 :: c82 :: c83 :: c84 :: c85 :: c86 :: c87 :: c88 :: c89 :: c90 :: c91 :: c92 :: c93 :: c94 :: c95 :: c96 :: c97 :: c98 :: c99 :: c100 :: c101 :: c102 :: c103 :: c104 :: c105 :: c106 :: c107 :: c108 :: c109 :: c110 :: c111 :: c112 :: c113 :: c114 :: c115 :: c116 :: c117 :: c118 :: c119 :: c120 :: c121 :: c122 :: c123 :: c124 :: c125 :: []).toArray, []⟩ X := by
  have HK := hide hK
  have HN := hide kn
  have HLD : Hid (∀ W, (∃ p : Regrown, W = grow (redrawn X p.d) p.os) → (loadVar 117 ⟨Z, 0, none⟩).run Try.prog W = .ok (.agg q.fC.toArray) W) := fun W hW => by
    obtain ⟨p, rfl⟩ := hW
    exact load_fc (block_stay hF (below_regrown X p.d p.os))
  clear hK kn hF
  conv => arg 2; whnf
  refine wp_region_quiet_below (by kernel_rfl) (by kernel_rfl) ?_
  have xyl := cell_regrown yl
  refine quiet_load rfl _ _ rfl _ rfl _ HLD.out ⟨(c0 :: c1 :: c2 :: .pointer (some ⟨Z, 0, none⟩) :: c4 :: c5 :: c6 :: c7 :: .slice (some ⟨g, 0, none⟩) ln lc :: c9 :: c10 :: .int .i64 (i : Nat) :: c12 :: c13 :: c14 :: c15 :: c16 :: c17 :: c18 :: c19 :: .int .u64 (m : Nat) :: c21 :: c22 :: c23 :: c24 :: c25 :: c26 :: c27 :: c28 :: c29 :: c30 :: c31 :: c32 :: c33 :: c34 :: c35 :: c36 :: c37 :: c38 :: c39 :: c40 :: c41 :: c42 :: c43 :: c44 :: c45 :: c46 :: c47 :: c48 :: c49 :: c50 :: c51 :: c52 :: c53 :: c54 :: c55 :: c56 :: c57 :: c58 :: c59 :: c60 :: c61 :: c62 :: c63 :: c64 :: c65 :: c66 :: c67 :: c68 :: c69 :: c70 :: c71 :: c72 :: c73 :: c74 :: c75 :: c76 :: c77 :: c78 :: c79 :: c80 :: c81 :: c82 :: c83 :: c84 :: (.agg q.fC.toArray) :: c86 :: c87 :: c88 :: c89 :: c90 :: c91 :: c92 :: c93 :: c94 :: c95 :: c96 :: c97 :: c98 :: c99 :: c100 :: c101 :: c102 :: c103 :: c104 :: c105 :: c106 :: c107 :: c108 :: c109 :: c110 :: c111 :: c112 :: c113 :: c114 :: c115 :: c116 :: c117 :: c118 :: c119 :: c120 :: c121 :: c122 :: c123 :: c124 :: c125 :: []).toArray, []⟩ rfl ?_
  generalize q.fC.toArray = fq at *
  repeat (go_big_quiet_step (first | (with_reducible exact Calls.regrown_of (HN.out _ (below_regrown _ _ _)))))
  refine wpQuiet_nil ?_
  intro _ hwq
  obtain ⟨⟨dq, osq⟩, hwq2⟩ := hwq
  subst hwq2
  exact HK.out _ _ _ _ _ _ _ _ _ _ _ _ (below_regrown X dq osq)
end Go.Proofs.Ytdclofiifcpkkaa
namespace Go.Proofs.Ytdclofiifcpkkaa
open Go.RowKit Go.PlainAid Go.Sort
def gY (g : Nat → Option (List Vv)) (acc : List Vv) (L : List Nat) : Option (List Vv) := (gL g L).map (acc ++ ·)
theorem gY_start (g : Nat → Option (List Vv)) (L : List Nat) : gY g [] L = gL g L := by unfold gY; cases gL g L <;> simp
theorem gY_end (g : Nat → Option (List Vv)) (acc : List Vv) : gY g acc [] = some acc := by simp [gY, gL]
theorem gY_none {g : Nat → Option (List Vv)} {acc : List Vv} {p : Nat} {t : List Nat} (h : g p = none) : gY g acc (p :: t) = none := by unfold gY; rw [gL, h]; rfl
theorem gY_some {g : Nat → Option (List Vv)} {acc : List Vv} {p : Nat} {t : List Nat} {x : List Vv} (h : g p = some x) : gY g acc (p :: t) = gY g (acc ++ x) t := by
  unfold gY; rw [gL, h]; cases gL g t <;> simp
theorem row_mem {l : List UInt8} {ps : List Ph} {long next : Nat} : ∀ i a, ∀ p ∈ (rowZ l ps long next i a).1, rcB l ps p long = true
  | 0, _, p, hp => by simp [rowZ] at hp
  | i + 1, a, p, hp => by
    rw [rowZ] at hp
    split at hp
    · simp at hp
    · rename_i h1
      have h2 : rcB l ps a long = true := by cases hh : rcB l ps a long; exact absurd hh h1; rfl
      split at hp
      · simp at hp; subst hp; exact h2
      · rcases List.mem_cons.1 hp with rfl | hp
        · exact h2
        · exact row_mem i _ p hp
theorem ownO_no {l : List UInt8} {ps : List Ph} {S : List UInt8} {a : Nat} (h : ownB l ps S a = false) : ownO l ps S a = none := by unfold ownO; rw [h]; rfl
theorem ownO_file {l : List UInt8} {ps : List Ph} {S : List UInt8} {a : Nat} (h : ownB l ps S a = true) (hf : ¬ rd (rc l ps a 20) 2 2 % 2 = 0) : ownO l ps S a = some [] := by unfold ownO; rw [h, if_pos rfl, if_neg hf]
theorem ownO_yes {l : List UInt8} {ps : List Ph} {S : List UInt8} {a : Nat} (h : ownB l ps S a = true) (hf : rd (rc l ps a 20) 2 2 % 2 = 0) : ownO l ps S a = some [ownV l ps S a] := by unfold ownO; rw [h, if_pos rfl, if_pos hf]
/-- What is answered for places. -/
def GIs (w' : World) (B : Nat) (o : Option (List Vv)) (ok : Bool) (e : Ending) : Prop :=
  match o with
  | none => e = .returned (.tuple #[.slice none 0 0, .bool false])
  | some L => ∃ v, e = .returned (.tuple #[v, .bool ok]) ∧ OwnV 69 .u64 w' B v L
theorem built_v (x : Int) (y : ByteArray) : Try.prog.built 69 [(0, .int .u64 x), (1, .string y)] = some #[.int .u64 x, .string y, .string ⟨#[]⟩] := by kernel_rfl
set_option maxHeartbeats 8000000 in
set_option maxRecDepth 20000 in
theorem rf_own (w : World) (q : Rp) (hk : Rf w q) (a many : Nat) (ha : a < 18446744073709551616) (hm : many ≤ 60000) :
    Calls Try.prog 51 #[.agg q.fC.toArray, .int .u64 (a : Nat), .int .u64 (many : Nat)] w fun e w' =>
      GIs w' w.heap.size (gL (ownO q.l q.ps q.S) (rowZ q.l q.ps 20 16 many a).1) (rowZ q.l q.ps 20 16 many a).2 e ∧ Below w.heap.size w w' := by
  have HB := hide (below1 w (.cells q.fC.toArray 117))
  have HZ : Hid ((w.alloc (.cells q.fC.toArray 117)).heap[w.heap.size]? = some (.cells q.fC.toArray 117 (0, 0))) := heap_alloc_new _ _
  have HK := hide hk
  have hrow := rf_row (w.alloc (.cells q.fC.toArray 117)) q (hk.below HB.out) a many 20 16 ha (by omega) (by decide) (by decide)
  have HME := hide (fun p hp => rc_lo hk.k.lo (row_mem (l := q.l) (ps := q.ps) (long := 20) (next := 16) many a p hp))
  have HLN : Hid ((rowZ q.l q.ps 20 16 many a).1.length ≤ 60000) := Nat.le_trans (row_len _ _ _ _ _ _) hm
  obtain ⟨⟨L, ok⟩, hL⟩ : ∃ P, rowZ q.l q.ps 20 16 many a = P := ⟨_, rfl⟩
  rw [hL] at hrow HME HLN ⊢
  simp only at hrow HME HLN ⊢
  obtain ⟨O, hO⟩ : ∃ O, gL (ownO q.l q.ps q.S) L = O := ⟨_, rfl⟩
  have HO : Hid (gY (ownO q.l q.ps q.S) [] (L.drop 0) = O) := by rw [Hid, List.drop_zero, gY_start]; exact hO
  rw [hO]
  clear hk hL hO ha
  go_enter Try.func51, Try.ntmps51
  go_wp2_with ((with_reducible refine at_loadF ?_); refine load_row rfl _ _ rfl w.heap.size _ (load_fc HZ.out) rfl ?_)
  refine hrow.mono ?_
  rintro e w1 ⟨⟨vl, rfl, ownL⟩, hb1⟩
  have HB1 := hide (HB.out.trans (hb1.mono HB.out.size))
  have HZ1 := hide (block_stay HZ.out hb1)
  have HA1 := hide (ownL.arg (by have := HLN.out; omega))
  obtain ⟨la, ln, lc, rfl, hln⟩ : ∃ a n c, vl = .slice a n c ∧ L.length = n := by obtain ⟨a, c, e⟩ := HA1.out.form; exact ⟨a, _, c, e, rfl⟩
  have hlb : ln ≤ 60000 := by rw [← hln]; exact HLN.out
  have HNL := hide hln
  clear hrow hb1 ownL HB HZ hln
  go_wp2
  go_loopw [10, 11] (fun v10 v11 wr => ∃ (i : Nat) (acc : List Vv), v11 = .int .i64 i ∧ i ≤ ln ∧ Hid (acc.length ≤ i) ∧ Hid (Below w1.heap.size w1 wr) ∧ Hid (OwnV 69 .u64 wr w1.heap.size v10 acc) ∧ Hid (gY (ownO q.l q.ps q.S) acc (L.drop i) = O))
    (fun _ v11 _ => ln - (intOf v11).toNat)
  case atStart => exact ⟨0, [], rfl, by omega, by unfold Hid; simp, Below.refl _ _, OwnV.nil _ _ _ _, HO⟩
  case round =>
    obtain ⟨i, acc, rfl, hi, HL, HBr, HOW, HR⟩ := hrel
    clear HO
    by_cases hlt : i < ln
    · have hltI : (i : Int) < (ln : Int) := by omega
      have hil : i < L.length := by rw [HNL.out]; exact hlt
      obtain ⟨g, hga, p1, p2, hgl, y0⟩ := HA1.out.at i hil
      subst hga
      rw [HNL.out] at p1
      have hpl := HME.out _ (List.getElem_mem hil)
      have hR := HR.out
      rw [List.drop_eq_getElem_cons hil] at hR
      obtain ⟨p, hp⟩ : ∃ p, L[i] = p := ⟨_, rfl⟩
      rw [hp] at y0 hpl hR
      have HBK : Hid (∀ X, Below wr.heap.size wr X → X.heap[w.heap.size]? = some (.cells q.fC.toArray 117 (0, 0))) := fun X hX => block_stay HZ1.out (HBr.out.trans (hX.mono HBr.out.size))
      have HYC : Hid (∀ X, Below wr.heap.size wr X → X.cell? ⟨g, i, none⟩ = some (.int .u64 p)) := fun X hX => ((HBr.out.trans (hX.mono HBr.out.size)).cell (p := ⟨g, i, none⟩) hgl).trans y0
      have HNK := hide (fun x long f s hx hl hf hs hs0 X (hX : Below wr.heap.size wr X) => rf_n X q (HK.out.below (HB1.out.trans ((HBr.out.trans (hX.mono HBr.out.size)).mono HB1.out.size))) x long f s hx hl hf hs hs0)
      have HTK := hide (fun x hx X (hX : Below wr.heap.size wr X) => rf_text X q (HK.out.below (HB1.out.trans ((HBr.out.trans (hX.mono HBr.out.size)).mono HB1.out.size))) x hx)
      have HLDF := hide (fun X (hX : Below wr.heap.size wr X) => load_fc (q := q) (block_stay HZ1.out (HBr.out.trans (hX.mono HBr.out.size))))
      have hp0 : p < 18446744073709551616 := by omega
      have HN0 := hide (HNK.out p 20 0 2 hp0 (by decide) (by decide) (by decide) (by decide))
      have HN2 := hide (HNK.out p 20 2 2 hp0 (by decide) (by decide) (by decide) (by decide))
      have HN4 := hide (HNK.out p 20 4 2 hp0 (by decide) (by decide) (by decide) (by decide))
      have HN6 := hide (HNK.out p 20 6 2 hp0 (by decide) (by decide) (by decide) (by decide))
      have HN12 := hide (HNK.out p 20 12 4 hp0 (by decide) (by decide) (by decide) (by decide))
      have hax := rd4 (rc q.l q.ps p 20) 12
      have HN8 := hide (HNK.out (p + rd (rc q.l q.ps p 20) 12 4) 8 0 4 (by omega) (by decide) (by decide) (by decide) (by decide))
      have hx8 := rd4 (rc q.l q.ps (p + rd (rc q.l q.ps p 20) 12 4) 8) 0
      have HTX := hide (HTK.out (rd (rc q.l q.ps (p + rd (rc q.l q.ps p 20) 12 4) 8) 0 4) (by omega))
      have HOB : Hid (ownB q.l q.ps q.S p = (decide (rd (rc q.l q.ps p 20) 0 2 = 1) && !decide (rd (rc q.l q.ps p 20) 6 2 = 0) && rcB q.l q.ps (p + rd (rc q.l q.ps p 20) 12 4) 8 && txtB q.S (rd (rc q.l q.ps (p + rd (rc q.l q.ps p 20) 12 4) 8) 0 4))) := rfl
      have HOV : Hid (ownV q.l q.ps q.S p = ⟨rd (rc q.l q.ps p 20) 4 2, txtS q.S (rd (rc q.l q.ps (p + rd (rc q.l q.ps p 20) 12 4) 8) 0 4), []⟩) := rfl
      have HNO := hide (fun hh => ownO_no (l := q.l) (ps := q.ps) (S := q.S) (a := p) hh)
      have HFI := hide (fun hh hf => ownO_file (l := q.l) (ps := q.ps) (S := q.S) (a := p) hh hf)
      have HYE := hide (fun hh hf => ownO_yes (l := q.l) (ps := q.ps) (S := q.S) (a := p) hh hf)
      have HGN := hide (fun hh => (gY_none (acc := acc) (t := L.drop (i + 1)) (g := ownO q.l q.ps q.S) (p := p) hh).symm.trans hR)
      have HGS := hide (fun x hh => (gY_some (acc := acc) (t := L.drop (i + 1)) (g := ownO q.l q.ps q.S) (p := p) (x := x) hh).symm.trans hR)
      generalize rcB q.l q.ps p 20 = b20 at *
      generalize rc q.l q.ps p 20 = X20 at *
      obtain ⟨n12, h12⟩ : ∃ n, rd X20 12 4 = n := ⟨_, rfl⟩
      rw [h12] at HN12 HN8 HTX HOB HOV hax hx8
      generalize rcB q.l q.ps (p + n12) 8 = b8 at *
      generalize rc q.l q.ps (p + n12) 8 = X8 at *
      obtain ⟨n8, h8⟩ : ∃ n, rd X8 0 4 = n := ⟨_, rfl⟩
      rw [h8] at HN8 HTX HOB HOV hx8
      obtain ⟨tb, htb⟩ : ∃ b, txtB q.S n8 = b := ⟨_, rfl⟩
      rw [htb] at HTX HOB
      rw [HOV.out] at HYE
      obtain ⟨n0, h0⟩ : ∃ n, rd X20 0 2 = n := ⟨_, rfl⟩
      obtain ⟨n2, h2⟩ : ∃ n, rd X20 2 2 = n := ⟨_, rfl⟩
      obtain ⟨n4, h4⟩ : ∃ n, rd X20 4 2 = n := ⟨_, rfl⟩
      obtain ⟨n6, h6⟩ : ∃ n, rd X20 6 2 = n := ⟨_, rfl⟩
      have hn6 : n6 < 65536 := by rw [← h6]; exact rd2 _ _
      have hn2 : n2 < 65536 := by rw [← h2]; exact rd2 _ _
      rw [h0] at HN0 HOB
      rw [h2] at HN2 HFI HYE
      rw [h4] at HN4 HYE
      rw [h6] at HN6 HOB
      have hpI : (p : Int) ≤ 16384 := by omega
      have h12I : (n12 : Int) ≤ 4294967295 := by omega
      have hnc : ((p + n12 : Nat) : Int) = (p : Int) + (n12 : Int) := Int.natCast_add _ _
      rw [hnc] at HN8
      clear h12 h8 htb h0 h2 h4 h6 hnc hR HR HNK HTK HOV hp y0 hil hpl hp0
      have HB0 : Hid (Below wr.heap.size wr wr) := Below.refl _ _
      go_upto_region 6 with fail
      refine rgtO6 wr q w.heap.size g i p ln lc n0 b20 (HBK.out _ HB0.out) (HYC.out _ HB0.out) p1 p2 hltI (fun X hX => HN0.out X (HB0.out.trans (hX.mono HB0.out.size))) _ _ _ _ _ _ _ _ _ _ _ _ _ _ _ _ _ _ _ _ _ _ _ _ _ _ _ _ _ _ _ _ _ _ _ _ _ _ _ _ _ _ _ _ _ _ _ _ _ _ _ _ _ _ _ _ _ _ _ _ _ _ _ _ _ _ _ _ _ _ _ _ _ _ _ _ _ _ _ _ _ _ _ _ _ _ _ _ _ _ _ _ _ _ _ _ _ _ _ _ _ _ _ _ _ _ _ _ _ _ _ _ _ _ _ _ _ _ _ _ _ _ _ _ _ ?_
      intro v1 u39 u40 u41 u42 u43 u44 u45 u46 u47 hb
      have HV1 := hide (HB0.out.trans (hb.mono HB0.out.size))
      clear hb
      go_upto_region 7 with fail
      refine rgtO7 v1 q w.heap.size g i p ln lc n2 b20 (HBK.out _ HV1.out) (HYC.out _ HV1.out) p1 p2 hltI (fun X hX => HN2.out X (HV1.out.trans (hX.mono HV1.out.size))) _ _ _ _ _ _ _ _ _ _ _ _ _ _ _ _ _ _ _ _ _ _ _ _ _ _ _ _ _ _ _ _ _ _ _ _ _ _ _ _ _ _ _ _ _ _ _ _ _ _ _ _ _ _ _ _ _ _ _ _ _ _ _ _ _ _ _ _ _ _ _ _ _ _ _ _ _ _ _ _ _ _ _ _ _ _ _ _ _ _ _ _ _ _ _ _ _ _ _ _ _ _ _ _ _ _ _ _ _ _ _ _ _ _ _ _ _ _ _ _ _ _ _ _ _ ?_
      intro v2 u48 u49 u50 u51 u52 u53 u54 u55 u56 hb
      have HV2 := hide (HV1.out.trans (hb.mono HV1.out.size))
      clear hb
      go_upto_region 8 with fail
      refine rgtO8 v2 q w.heap.size g i p ln lc n4 b20 (HBK.out _ HV2.out) (HYC.out _ HV2.out) p1 p2 hltI (fun X hX => HN4.out X (HV2.out.trans (hX.mono HV2.out.size))) _ _ _ _ _ _ _ _ _ _ _ _ _ _ _ _ _ _ _ _ _ _ _ _ _ _ _ _ _ _ _ _ _ _ _ _ _ _ _ _ _ _ _ _ _ _ _ _ _ _ _ _ _ _ _ _ _ _ _ _ _ _ _ _ _ _ _ _ _ _ _ _ _ _ _ _ _ _ _ _ _ _ _ _ _ _ _ _ _ _ _ _ _ _ _ _ _ _ _ _ _ _ _ _ _ _ _ _ _ _ _ _ _ _ _ _ _ _ _ _ _ _ _ _ _ ?_
      intro v3 u57 u58 u59 u60 u61 u62 u63 u64 u65 hb
      have HV3 := hide (HV2.out.trans (hb.mono HV2.out.size))
      clear hb
      go_upto_region 9 with fail
      refine rgtO9 v3 q w.heap.size g i p ln lc n6 b20 (HBK.out _ HV3.out) (HYC.out _ HV3.out) p1 p2 hltI (fun X hX => HN6.out X (HV3.out.trans (hX.mono HV3.out.size))) _ _ _ _ _ _ _ _ _ _ _ _ _ _ _ _ _ _ _ _ _ _ _ _ _ _ _ _ _ _ _ _ _ _ _ _ _ _ _ _ _ _ _ _ _ _ _ _ _ _ _ _ _ _ _ _ _ _ _ _ _ _ _ _ _ _ _ _ _ _ _ _ _ _ _ _ _ _ _ _ _ _ _ _ _ _ _ _ _ _ _ _ _ _ _ _ _ _ _ _ _ _ _ _ _ _ _ _ _ _ _ _ _ _ _ _ _ _ _ _ _ _ _ _ _ ?_
      intro v4 u66 u67 u68 u69 u70 u71 u72 u73 u74 hb
      have HV4 := hide (HV3.out.trans (hb.mono HV3.out.size))
      clear hb
      go_upto_region 10 with fail
      refine rgtO10 v4 q w.heap.size g i p ln lc n12 b20 (HBK.out _ HV4.out) (HYC.out _ HV4.out) p1 p2 hltI (fun X hX => HN12.out X (HV4.out.trans (hX.mono HV4.out.size))) _ _ _ _ _ _ _ _ _ _ _ _ _ _ _ _ _ _ _ _ _ _ _ _ _ _ _ _ _ _ _ _ _ _ _ _ _ _ _ _ _ _ _ _ _ _ _ _ _ _ _ _ _ _ _ _ _ _ _ _ _ _ _ _ _ _ _ _ _ _ _ _ _ _ _ _ _ _ _ _ _ _ _ _ _ _ _ _ _ _ _ _ _ _ _ _ _ _ _ _ _ _ _ _ _ _ _ _ _ _ _ _ _ _ _ _ _ _ _ _ _ _ _ _ _ ?_
      intro v5 u75 u76 u77 u78 u79 u80 u81 u82 u83 hb
      have HV5 := hide (HV4.out.trans (hb.mono HV4.out.size))
      clear hb
      go_upto_region 11 with fail
      refine rgtO11 v5 q w.heap.size g i p ln lc n12 n8 b8 (HBK.out _ HV5.out) (HYC.out _ HV5.out) p1 p2 hltI hpI h12I (fun X hX => HN8.out X (HV5.out.trans (hX.mono HV5.out.size))) _ _ _ _ _ _ _ _ _ _ _ _ _ _ _ _ _ _ _ _ _ _ _ _ _ _ _ _ _ _ _ _ _ _ _ _ _ _ _ _ _ _ _ _ _ _ _ _ _ _ _ _ _ _ _ _ _ _ _ _ _ _ _ _ _ _ _ _ _ _ _ _ _ _ _ _ _ _ _ _ _ _ _ _ _ _ _ _ _ _ _ _ _ _ _ _ _ _ _ _ _ _ _ _ _ _ _ _ _ _ _ _ _ _ _ _ _ _ _ _ _ _ _ _ ?_
      intro v6 u84 u85 u86 u87 u88 u89 u90 u91 u92 u93 u94 hb
      have HV6 := hide (HV5.out.trans (hb.mono HV5.out.size))
      clear hb
      have kt := HTX.out v6 HV6.out
      have HZ6 := hide (HBK.out v6 HV6.out)
      clear HN0 HN2 HN4 HN6 HN12 HN8 HTX HBK HYC HLDF
      go_wp2_with ((with_reducible refine at_loadF ?_); refine load_row rfl _ _ rfl w.heap.size _ (load_fc HZ6.out) rfl ?_)
      refine kt.mono ?_
      rintro e v7 ⟨rfl, hb7⟩
      have HV7 := hide (HV6.out.trans (hb7.mono HV6.out.size))
      have HB7 : Hid (Below w1.heap.size w1 v7) := HBr.out.trans (HV7.out.mono HBr.out.size)
      have HO7 := hide (HOW.out.stay HV7.out)
      have HW7 : Hid (Below w.heap.size w v7) := HB1.out.trans (HB7.out.mono HB1.out.size)
      clear kt hb7 HV1 HV2 HV3 HV4 HV5 HV6 HB0 HZ6
      by_cases hbad : ownB q.l q.ps q.S p = false
      · have HN : Hid (none = O) := HGN.out (HNO.out hbad)
        have hcs : n0 ≠ 1 ∨ (n0 = 1 ∧ n6 = 0) ∨ (n0 = 1 ∧ n6 ≠ 0 ∧ b8 = false) ∨ (n0 = 1 ∧ n6 ≠ 0 ∧ b8 = true ∧ tb = false) := by
          rw [HOB.out] at hbad
          by_cases e0 : n0 = 1
          · by_cases e6 : n6 = 0
            · exact .inr (.inl ⟨e0, e6⟩)
            · cases b8 with
              | false => exact .inr (.inr (.inl ⟨e0, e6, rfl⟩))
              | true => cases tb with
                | false => exact .inr (.inr (.inr ⟨e0, e6, rfl, rfl⟩))
                | true => rw [decide_eq_true e0, decide_eq_false e6] at hbad; cases hbad
          · exact .inl e0
        clear hbad HOB HNO HFI HYE HGN HGS
        rcases hcs with e0 | ⟨rfl, rfl⟩ | ⟨rfl, e6, rfl⟩ | ⟨rfl, e6, rfl, rfl⟩
        · have k0 : ((n0 : Int) != 1) = true := by simp; omega
          clear e0
          go_wp2
          go_ret2
          exact ⟨by rw [← HN.out]; rfl, HW7.out⟩
        · go_wp2
          go_ret2
          exact ⟨by rw [← HN.out]; rfl, HW7.out⟩
        · have k6 : ¬ (n6 : Int) < 1 := by omega
          clear e6
          go_wp2
          go_ret2
          exact ⟨by rw [← HN.out]; rfl, HW7.out⟩
        · have k6 : ¬ (n6 : Int) < 1 := by omega
          clear e6
          go_wp2
          go_ret2
          exact ⟨by rw [← HN.out]; rfl, HW7.out⟩
      · have hok : ownB q.l q.ps q.S p = true := by cases hh : ownB q.l q.ps q.S p; exact absurd hh hbad; rfl
        have hT := hok
        rw [HOB.out] at hT
        simp only [Bool.and_eq_true, Bool.not_eq_true', decide_eq_true_eq, decide_eq_false_iff_not] at hT
        obtain ⟨⟨⟨e0, e6⟩, e8⟩, et⟩ := hT
        have k6 : ¬ (n6 : Int) < 1 := by omega
        subst e0 e8 et
        by_cases c2 : n2 % 2 = 0
        · have HR2 := hide (HGS.out _ (HYE.out hok c2))
          have km : ((n2 : Int) % 2 == 0) = true := by simp; omega
          have km2 : ((n2 : Int).tmod 2 == 0) = true := by rw [Int.tmod_eq_emod_of_nonneg (by omega)]; exact km
          have hbu := fun (x : Int) (y : ByteArray) => built_v x y
          have HLA : Hid (acc.length ≤ 60000) := by have := HL.out; unfold Hid; omega
          have HWL : Hid (w1.heap.size ≤ v7.heap.size) := HB7.out.size
          clear hbad hok HOB HNO HFI HYE HGN HGS e6 c2
          go_wp2_with (at_builtin; refine append_vr rfl _ _ rfl w1.heap.size v7 _ acc HO7.out ⟨n4, txtS q.S n8, []⟩ rfl _ rfl rfl (by have := HLA.out; omega) HWL.out ?_)
          intro v8 w8 o8 hb8
          have HO8 := hide o8
          have HB8 : Hid (Below w1.heap.size w1 w8) := HB7.out.trans hb8
          clear o8 hb8 hbu
          go_wp2
          go_roundw
          case rel => exact ⟨i + 1, acc ++ [⟨n4, txtS q.S n8, []⟩], by go_num, by omega, by have := HL.out; unfold Hid; simp; omega, HB8, HO8, HR2⟩
          case measure => simp [intOf]; omega
        · have HR2 := hide (by have := HGS.out _ (HFI.out hok c2); rw [List.append_nil] at this; exact this)
          have km : ((n2 : Int) % 2 == 0) = false := by simp; omega
          have km2 : ((n2 : Int).tmod 2 == 0) = false := by rw [Int.tmod_eq_emod_of_nonneg (by omega)]; exact km
          clear hbad hok HOB HNO HFI HYE HGN HGS e6 c2
          go_wp2
          go_roundw
          case rel => exact ⟨i + 1, acc, by go_num, by omega, by have := HL.out; unfold Hid; omega, HB7, HO7, HR2⟩
          case measure => simp [intOf]; omega
    · have hltI : ¬ (i : Int) < (ln : Int) := by omega
      have hR := HR.out
      rw [List.drop_eq_nil_of_le (by have := HNL.out; omega), gY_end] at hR
      have HR2 := hide hR
      clear hR HR
      go_wp2
      go_ret2
      exact ⟨by rw [← HR2.out]; exact ⟨_, rfl, HOW.out.low (by have := HB1.out.size; omega)⟩, HB1.out.trans (HBr.out.mono HB1.out.size)⟩
end Go.Proofs.Ytdclofiifcpkkaa
namespace Go.Proofs.Ytdclofiifcpkkaa
open Go.RowKit Go.PlainAid Go.Sort
/-- A whole value is loaded, as a step of a drawn region. -/
theorem step_load {ops : Array Oper} {o : Oper} {a : Act} {W : World} {K : Act → World → Prop} {Q : Exit → Act → World → Prop} {E : Prop} (hgd : o.guard = none) (T : TypeId) (x : Operand) (ho : o.op = .load T x) (p : Addr) (hx : a.eval x = .pointer (some p)) (v : Value)
    (hr : (loadVar T p).run Try.prog W = .ok v W) (h : K (a.put o.dst v) W) : if Region.wanted o (yielded ops a.tmps) = true then Oper.wp Try.prog o a W K Q else E := by
  have hw : Region.wanted o (yielded ops a.tmps) = true := by simp [Region.wanted, hgd]
  rw [if_pos hw]
  unfold Oper.wp execOp
  simp only [ho, hx, Instr.loadAt, Instr.sureAddr, Sem.run_bind, Sem.run_pure, Result.andThen_ok, hr]
  exact h
theorem OwnU.form3 {w : World} {B : Nat} {v : Value} {l : List Nat} (h : OwnU w B v l) (hl : l.length ≤ 65536) : ∃ a n c, v = .slice a n c := by
  obtain ⟨a, c, e⟩ := (h.arg hl).form
  exact ⟨_, _, _, e⟩
set_option maxHeartbeats 4000000 in
set_option maxRecDepth 1000000 in
theorem rgtA6 (X : World) (q : Rp) (Z g i p ln lc : Nat) (n : Nat) (b : Bool) (hF : X.heap[Z]? = some (.cells q.fC.toArray 117 (0, 0))) (yl : X.cell? ⟨g, i, none⟩ = some (.int .u64 (p : Nat))) (p1 : ln ≤ lc) (p2 : lc ≤ 9223372036854775807) (hltI : (i : Int) < (ln : Int))
    (kn : ∀ W, Below X.heap.size X W → Calls Try.prog 74 #[.agg q.fC.toArray, .int .u64 (p : Nat), .int .u64 16, .int .u64 0, .int .i64 2] W fun e w' => e = .returned (.tuple #[.int .u64 (n : Nat), .bool b]) ∧ Below W.heap.size W w')
    (K : Act → World → Prop) (Q : Exit → Act → World → Prop) (c0 c1 c2 c4 c5 c6 c7 c9 c10 c12 c13 c14 c15 c16 c17 c18 c19 c20 c21 c22 c23 c24 c25 c26 c27 c28 c29 c30 c31 c32 c33 c34 c35 c36 c37 c38 c39 c40 c41 c42 c43 c44 c45 c46 c47 c48 c49 c50 c51 c52 c53 c54 c55 c56 c57 c58 c59 c60 c61 c62 c63 c64 c65 c66 c67 c68 c69 c70 c71 c72 c73 c74 c75 c76 c77 c78 c79 c80 c81 c82 c83 c84 c85 c86 c87 c88 c89 c90 c91 c92 c93 c94 c95 c96 c97 c98 c99 c100 c101 c102 c103 c104 c105 c106 c107 c108 c109 c110 c111 c112 c113 c114 c115 c116 c117 c118 c119 c120 c121 c122 c123 c124 c125 c126 c127 c128 c129 c130 c131 c132 c133 c134 c135 c136 c137 c138 c139 c140 c141 c142 c143 c144 c145 c146 c147 c148 c149 c150 c151 c152 c153 : Value) (hK : ∀ (W : World) (u44 u45 u46 u47 u48 u49 u50 u51 u52 : Value), Below X.heap.size X W → K ⟨(c0 :: c1 :: c2 :: .pointer (some ⟨Z, 0, none⟩) :: c4 :: c5 :: c6 :: c7 :: .slice (some ⟨g, 0, none⟩) ln lc :: c9 :: c10 :: .int .i64 (i : Nat) :: .int .u64 (n : Nat) :: .bool b :: c14 :: c15 :: c16 :: c17 :: c18 :: c19 :: c20 :: c21 :: c22 :: c23 :: c24 :: c25 :: c26 :: c27 :: c28 :: c29 :: c30 :: c31 :: c32 :: c33 :: c34 :: c35 :: c36 :: c37 :: c38 :: c39 :: c40 :: c41 :: c42 :: c43 :: u44 :: u45 :: u46 :: u47 :: u48 :: u49 :: u50 :: u51 :: u52 :: c53 :: c54 :: c55 :: c56 :: c57 :: c58 :: c59 :: c60 :: c61 :: c62 :: c63 :: c64 :: c65 :: c66 :: c67 :: c68 :: c69 :: c70 :: c71 :: c72 :: c73 :: c74 :: c75 :: c76 :: c77 :: c78 :: c79 :: c80 :: c81 :: c82 :: c83 :: c84 :: c85 :: c86 :: c87 :: c88 :: c89 :: c90 :: c91 :: c92 :: c93 :: c94 :: c95 :: c96 :: c97 :: c98 :: c99 :: c100 :: c101 :: c102 :: c103 :: c104 :: c105 :: c106 :: c107 :: c108 :: c109 :: c110 :: c111 :: c112 :: c113 :: c114 :: c115 :: c116 :: c117 :: c118 :: c119 :: c120 :: c121 :: c122 :: c123 :: c124 :: c125 :: c126 :: c127 :: c128 :: c129 :: c130 :: c131 :: c132 :: c133 :: c134 :: c135 :: c136 :: c137 :: c138 :: c139 :: c140 :: c141 :: c142 :: c143 :: c144 :: c145 :: c146 :: c147 :: c148 :: c149 :: c150 :: c151 :: c152 :: c153 :: []).toArray, []⟩ W) :
    Code.wp Try.prog (pickC [true, true, true, false, true, false, false, true, false, false, false] (Try.f52.body.getD .skip)) (Exit.then K Q) ⟨(c0 :: c1 :: c2 :: .pointer (some ⟨Z, 0, none⟩) :: c4 :: c5 :: c6 :: c7 :: .slice (some ⟨g, 0, none⟩) ln lc :: c9 :: c10 :: .int .i64 (i : Nat) :: c12 :: c13 :: c14 :: c15 :: c16 :: c17 :: c18 :: c19 :: c20 :: c21 :: c22 :: c23 :: c24 :: c25 :: c26 :: c27 :: c28 :: c29 :: c30 :: c31 :: c32 :: c33 :: c34 :: c35 :: c36 :: c37 :: c38 :: c39 :: c40 :: c41 :: c42 :: c43 :: c44 :: c45 :: c46 :: c47 :: c48 :: c49 :: c50 :: c51 :: c52 :: c53 :: c54 :: c55 :: c56 :: c57 :: c58 :: c59 :: c60 :: c61 :: c62 :: c63 :: c64 :: c65 :: c66 :: c67 :: c68 :: c69 :: c70 :: c71 :: c72 :: c73 :: c74 :: c75 :: c76 :: c77 :: c78 :: c79 :: c80 :: c81 :: c82 :: c83 :: c84 :: c85 :: c86 :: c87 :: c88 :: c89 :: c90 :: c91 :: c92 :: c93 :: c94 :: c95 :: c96 :: c97 :: c98 :: c99 :: c100 :: c101 :: c102 :: c103 :: c104 :: c105 :: c106 :: c107 :: c108 :: c109 :: c110 :: c111 :: c112 :: c113 :: c114 :: c115 :: c116 :: c117 :: c118 :: c119 :: c120 :: c121 :: c122 :: c123 :: c124 :: c125 :: c126 :: c127 :: c128 :: c129 :: c130 :: c131 :: c132 :: c133 :: c134 :: c135 :: c136 :: c137 :: c138 :: c139 :: c140 :: c141 :: c142 :: c143 :: c144 :: c145 :: c146 :: c147 :: c148 :: c149 :: c150 :: c151 :: c152 :: c153 :: []).toArray, []⟩ X := by
  have HK := hide hK
  have HN := hide kn
  have HLD : Hid (∀ W, (∃ p : Regrown, W = grow (redrawn X p.d) p.os) → (loadVar 117 ⟨Z, 0, none⟩).run Try.prog W = .ok (.agg q.fC.toArray) W) := fun W hW => by
    obtain ⟨p, rfl⟩ := hW
    exact load_fc (block_stay hF (below_regrown X p.d p.os))
  clear hK kn hF
  conv => arg 2; whnf
  refine wp_region_quiet_below (by kernel_rfl) (by kernel_rfl) ?_
  have xyl := cell_regrown yl
  refine quiet_load rfl _ _ rfl _ rfl _ HLD.out ⟨(c0 :: c1 :: c2 :: .pointer (some ⟨Z, 0, none⟩) :: c4 :: c5 :: c6 :: c7 :: .slice (some ⟨g, 0, none⟩) ln lc :: c9 :: c10 :: .int .i64 (i : Nat) :: c12 :: c13 :: c14 :: c15 :: c16 :: c17 :: c18 :: c19 :: c20 :: c21 :: c22 :: c23 :: c24 :: c25 :: c26 :: c27 :: c28 :: c29 :: c30 :: c31 :: c32 :: c33 :: c34 :: c35 :: c36 :: c37 :: c38 :: c39 :: c40 :: c41 :: c42 :: c43 :: c44 :: (.agg q.fC.toArray) :: c46 :: c47 :: c48 :: c49 :: c50 :: c51 :: c52 :: c53 :: c54 :: c55 :: c56 :: c57 :: c58 :: c59 :: c60 :: c61 :: c62 :: c63 :: c64 :: c65 :: c66 :: c67 :: c68 :: c69 :: c70 :: c71 :: c72 :: c73 :: c74 :: c75 :: c76 :: c77 :: c78 :: c79 :: c80 :: c81 :: c82 :: c83 :: c84 :: c85 :: c86 :: c87 :: c88 :: c89 :: c90 :: c91 :: c92 :: c93 :: c94 :: c95 :: c96 :: c97 :: c98 :: c99 :: c100 :: c101 :: c102 :: c103 :: c104 :: c105 :: c106 :: c107 :: c108 :: c109 :: c110 :: c111 :: c112 :: c113 :: c114 :: c115 :: c116 :: c117 :: c118 :: c119 :: c120 :: c121 :: c122 :: c123 :: c124 :: c125 :: c126 :: c127 :: c128 :: c129 :: c130 :: c131 :: c132 :: c133 :: c134 :: c135 :: c136 :: c137 :: c138 :: c139 :: c140 :: c141 :: c142 :: c143 :: c144 :: c145 :: c146 :: c147 :: c148 :: c149 :: c150 :: c151 :: c152 :: c153 :: []).toArray, []⟩ rfl ?_
  generalize q.fC.toArray = fq at *
  repeat (go_big_quiet_step (first | (with_reducible exact Calls.regrown_of (HN.out _ (below_regrown _ _ _)))))
  refine wpQuiet_nil ?_
  intro _ hwq
  obtain ⟨⟨dq, osq⟩, hwq2⟩ := hwq
  subst hwq2
  exact HK.out _ _ _ _ _ _ _ _ _ _ (below_regrown X dq osq)
set_option maxHeartbeats 4000000 in
set_option maxRecDepth 1000000 in
theorem rgtA7 (X : World) (q : Rp) (Z g i p ln lc : Nat) (n : Nat) (b : Bool) (hF : X.heap[Z]? = some (.cells q.fC.toArray 117 (0, 0))) (yl : X.cell? ⟨g, i, none⟩ = some (.int .u64 (p : Nat))) (p1 : ln ≤ lc) (p2 : lc ≤ 9223372036854775807) (hltI : (i : Int) < (ln : Int))
    (kn : ∀ W, Below X.heap.size X W → Calls Try.prog 74 #[.agg q.fC.toArray, .int .u64 (p : Nat), .int .u64 16, .int .u64 2, .int .i64 2] W fun e w' => e = .returned (.tuple #[.int .u64 (n : Nat), .bool b]) ∧ Below W.heap.size W w')
    (K : Act → World → Prop) (Q : Exit → Act → World → Prop) (c0 c1 c2 c4 c5 c6 c7 c9 c10 c12 c13 c14 c15 c16 c17 c18 c19 c20 c21 c22 c23 c24 c25 c26 c27 c28 c29 c30 c31 c32 c33 c34 c35 c36 c37 c38 c39 c40 c41 c42 c43 c44 c45 c46 c47 c48 c49 c50 c51 c52 c53 c54 c55 c56 c57 c58 c59 c60 c61 c62 c63 c64 c65 c66 c67 c68 c69 c70 c71 c72 c73 c74 c75 c76 c77 c78 c79 c80 c81 c82 c83 c84 c85 c86 c87 c88 c89 c90 c91 c92 c93 c94 c95 c96 c97 c98 c99 c100 c101 c102 c103 c104 c105 c106 c107 c108 c109 c110 c111 c112 c113 c114 c115 c116 c117 c118 c119 c120 c121 c122 c123 c124 c125 c126 c127 c128 c129 c130 c131 c132 c133 c134 c135 c136 c137 c138 c139 c140 c141 c142 c143 c144 c145 c146 c147 c148 c149 c150 c151 c152 c153 : Value) (hK : ∀ (W : World) (u53 u54 u55 u56 u57 u58 u59 u60 u61 : Value), Below X.heap.size X W → K ⟨(c0 :: c1 :: c2 :: .pointer (some ⟨Z, 0, none⟩) :: c4 :: c5 :: c6 :: c7 :: .slice (some ⟨g, 0, none⟩) ln lc :: c9 :: c10 :: .int .i64 (i : Nat) :: c12 :: c13 :: .int .u64 (n : Nat) :: .bool b :: c16 :: c17 :: c18 :: c19 :: c20 :: c21 :: c22 :: c23 :: c24 :: c25 :: c26 :: c27 :: c28 :: c29 :: c30 :: c31 :: c32 :: c33 :: c34 :: c35 :: c36 :: c37 :: c38 :: c39 :: c40 :: c41 :: c42 :: c43 :: c44 :: c45 :: c46 :: c47 :: c48 :: c49 :: c50 :: c51 :: c52 :: u53 :: u54 :: u55 :: u56 :: u57 :: u58 :: u59 :: u60 :: u61 :: c62 :: c63 :: c64 :: c65 :: c66 :: c67 :: c68 :: c69 :: c70 :: c71 :: c72 :: c73 :: c74 :: c75 :: c76 :: c77 :: c78 :: c79 :: c80 :: c81 :: c82 :: c83 :: c84 :: c85 :: c86 :: c87 :: c88 :: c89 :: c90 :: c91 :: c92 :: c93 :: c94 :: c95 :: c96 :: c97 :: c98 :: c99 :: c100 :: c101 :: c102 :: c103 :: c104 :: c105 :: c106 :: c107 :: c108 :: c109 :: c110 :: c111 :: c112 :: c113 :: c114 :: c115 :: c116 :: c117 :: c118 :: c119 :: c120 :: c121 :: c122 :: c123 :: c124 :: c125 :: c126 :: c127 :: c128 :: c129 :: c130 :: c131 :: c132 :: c133 :: c134 :: c135 :: c136 :: c137 :: c138 :: c139 :: c140 :: c141 :: c142 :: c143 :: c144 :: c145 :: c146 :: c147 :: c148 :: c149 :: c150 :: c151 :: c152 :: c153 :: []).toArray, []⟩ W) :
    Code.wp Try.prog (pickC [true, true, true, false, true, false, false, true, false, false, true, false] (Try.f52.body.getD .skip)) (Exit.then K Q) ⟨(c0 :: c1 :: c2 :: .pointer (some ⟨Z, 0, none⟩) :: c4 :: c5 :: c6 :: c7 :: .slice (some ⟨g, 0, none⟩) ln lc :: c9 :: c10 :: .int .i64 (i : Nat) :: c12 :: c13 :: c14 :: c15 :: c16 :: c17 :: c18 :: c19 :: c20 :: c21 :: c22 :: c23 :: c24 :: c25 :: c26 :: c27 :: c28 :: c29 :: c30 :: c31 :: c32 :: c33 :: c34 :: c35 :: c36 :: c37 :: c38 :: c39 :: c40 :: c41 :: c42 :: c43 :: c44 :: c45 :: c46 :: c47 :: c48 :: c49 :: c50 :: c51 :: c52 :: c53 :: c54 :: c55 :: c56 :: c57 :: c58 :: c59 :: c60 :: c61 :: c62 :: c63 :: c64 :: c65 :: c66 :: c67 :: c68 :: c69 :: c70 :: c71 :: c72 :: c73 :: c74 :: c75 :: c76 :: c77 :: c78 :: c79 :: c80 :: c81 :: c82 :: c83 :: c84 :: c85 :: c86 :: c87 :: c88 :: c89 :: c90 :: c91 :: c92 :: c93 :: c94 :: c95 :: c96 :: c97 :: c98 :: c99 :: c100 :: c101 :: c102 :: c103 :: c104 :: c105 :: c106 :: c107 :: c108 :: c109 :: c110 :: c111 :: c112 :: c113 :: c114 :: c115 :: c116 :: c117 :: c118 :: c119 :: c120 :: c121 :: c122 :: c123 :: c124 :: c125 :: c126 :: c127 :: c128 :: c129 :: c130 :: c131 :: c132 :: c133 :: c134 :: c135 :: c136 :: c137 :: c138 :: c139 :: c140 :: c141 :: c142 :: c143 :: c144 :: c145 :: c146 :: c147 :: c148 :: c149 :: c150 :: c151 :: c152 :: c153 :: []).toArray, []⟩ X := by
  have HK := hide hK
  have HN := hide kn
  have HLD : Hid (∀ W, (∃ p : Regrown, W = grow (redrawn X p.d) p.os) → (loadVar 117 ⟨Z, 0, none⟩).run Try.prog W = .ok (.agg q.fC.toArray) W) := fun W hW => by
    obtain ⟨p, rfl⟩ := hW
    exact load_fc (block_stay hF (below_regrown X p.d p.os))
  clear hK kn hF
  conv => arg 2; whnf
  refine wp_region_quiet_below (by kernel_rfl) (by kernel_rfl) ?_
  have xyl := cell_regrown yl
  refine quiet_load rfl _ _ rfl _ rfl _ HLD.out ⟨(c0 :: c1 :: c2 :: .pointer (some ⟨Z, 0, none⟩) :: c4 :: c5 :: c6 :: c7 :: .slice (some ⟨g, 0, none⟩) ln lc :: c9 :: c10 :: .int .i64 (i : Nat) :: c12 :: c13 :: c14 :: c15 :: c16 :: c17 :: c18 :: c19 :: c20 :: c21 :: c22 :: c23 :: c24 :: c25 :: c26 :: c27 :: c28 :: c29 :: c30 :: c31 :: c32 :: c33 :: c34 :: c35 :: c36 :: c37 :: c38 :: c39 :: c40 :: c41 :: c42 :: c43 :: c44 :: c45 :: c46 :: c47 :: c48 :: c49 :: c50 :: c51 :: c52 :: c53 :: (.agg q.fC.toArray) :: c55 :: c56 :: c57 :: c58 :: c59 :: c60 :: c61 :: c62 :: c63 :: c64 :: c65 :: c66 :: c67 :: c68 :: c69 :: c70 :: c71 :: c72 :: c73 :: c74 :: c75 :: c76 :: c77 :: c78 :: c79 :: c80 :: c81 :: c82 :: c83 :: c84 :: c85 :: c86 :: c87 :: c88 :: c89 :: c90 :: c91 :: c92 :: c93 :: c94 :: c95 :: c96 :: c97 :: c98 :: c99 :: c100 :: c101 :: c102 :: c103 :: c104 :: c105 :: c106 :: c107 :: c108 :: c109 :: c110 :: c111 :: c112 :: c113 :: c114 :: c115 :: c116 :: c117 :: c118 :: c119 :: c120 :: c121 :: c122 :: c123 :: c124 :: c125 :: c126 :: c127 :: c128 :: c129 :: c130 :: c131 :: c132 :: c133 :: c134 :: c135 :: c136 :: c137 :: c138 :: c139 :: c140 :: c141 :: c142 :: c143 :: c144 :: c145 :: c146 :: c147 :: c148 :: c149 :: c150 :: c151 :: c152 :: c153 :: []).toArray, []⟩ rfl ?_
  generalize q.fC.toArray = fq at *
  repeat (go_big_quiet_step (first | (with_reducible exact Calls.regrown_of (HN.out _ (below_regrown _ _ _)))))
  refine wpQuiet_nil ?_
  intro _ hwq
  obtain ⟨⟨dq, osq⟩, hwq2⟩ := hwq
  subst hwq2
  exact HK.out _ _ _ _ _ _ _ _ _ _ (below_regrown X dq osq)
set_option maxHeartbeats 4000000 in
set_option maxRecDepth 1000000 in
theorem rgtA8 (X : World) (q : Rp) (Z g i p ln lc : Nat) (n : Nat) (b : Bool) (hF : X.heap[Z]? = some (.cells q.fC.toArray 117 (0, 0))) (yl : X.cell? ⟨g, i, none⟩ = some (.int .u64 (p : Nat))) (p1 : ln ≤ lc) (p2 : lc ≤ 9223372036854775807) (hltI : (i : Int) < (ln : Int))
    (kn : ∀ W, Below X.heap.size X W → Calls Try.prog 74 #[.agg q.fC.toArray, .int .u64 (p : Nat), .int .u64 16, .int .u64 4, .int .i64 4] W fun e w' => e = .returned (.tuple #[.int .u64 (n : Nat), .bool b]) ∧ Below W.heap.size W w')
    (K : Act → World → Prop) (Q : Exit → Act → World → Prop) (c0 c1 c2 c4 c5 c6 c7 c9 c10 c12 c13 c14 c15 c16 c17 c18 c19 c20 c21 c22 c23 c24 c25 c26 c27 c28 c29 c30 c31 c32 c33 c34 c35 c36 c37 c38 c39 c40 c41 c42 c43 c44 c45 c46 c47 c48 c49 c50 c51 c52 c53 c54 c55 c56 c57 c58 c59 c60 c61 c62 c63 c64 c65 c66 c67 c68 c69 c70 c71 c72 c73 c74 c75 c76 c77 c78 c79 c80 c81 c82 c83 c84 c85 c86 c87 c88 c89 c90 c91 c92 c93 c94 c95 c96 c97 c98 c99 c100 c101 c102 c103 c104 c105 c106 c107 c108 c109 c110 c111 c112 c113 c114 c115 c116 c117 c118 c119 c120 c121 c122 c123 c124 c125 c126 c127 c128 c129 c130 c131 c132 c133 c134 c135 c136 c137 c138 c139 c140 c141 c142 c143 c144 c145 c146 c147 c148 c149 c150 c151 c152 c153 : Value) (hK : ∀ (W : World) (u62 u63 u64 u65 u66 u67 u68 u69 u70 : Value), Below X.heap.size X W → K ⟨(c0 :: c1 :: c2 :: .pointer (some ⟨Z, 0, none⟩) :: c4 :: c5 :: c6 :: c7 :: .slice (some ⟨g, 0, none⟩) ln lc :: c9 :: c10 :: .int .i64 (i : Nat) :: c12 :: c13 :: c14 :: c15 :: .int .u64 (n : Nat) :: .bool b :: c18 :: c19 :: c20 :: c21 :: c22 :: c23 :: c24 :: c25 :: c26 :: c27 :: c28 :: c29 :: c30 :: c31 :: c32 :: c33 :: c34 :: c35 :: c36 :: c37 :: c38 :: c39 :: c40 :: c41 :: c42 :: c43 :: c44 :: c45 :: c46 :: c47 :: c48 :: c49 :: c50 :: c51 :: c52 :: c53 :: c54 :: c55 :: c56 :: c57 :: c58 :: c59 :: c60 :: c61 :: u62 :: u63 :: u64 :: u65 :: u66 :: u67 :: u68 :: u69 :: u70 :: c71 :: c72 :: c73 :: c74 :: c75 :: c76 :: c77 :: c78 :: c79 :: c80 :: c81 :: c82 :: c83 :: c84 :: c85 :: c86 :: c87 :: c88 :: c89 :: c90 :: c91 :: c92 :: c93 :: c94 :: c95 :: c96 :: c97 :: c98 :: c99 :: c100 :: c101 :: c102 :: c103 :: c104 :: c105 :: c106 :: c107 :: c108 :: c109 :: c110 :: c111 :: c112 :: c113 :: c114 :: c115 :: c116 :: c117 :: c118 :: c119 :: c120 :: c121 :: c122 :: c123 :: c124 :: c125 :: c126 :: c127 :: c128 :: c129 :: c130 :: c131 :: c132 :: c133 :: c134 :: c135 :: c136 :: c137 :: c138 :: c139 :: c140 :: c141 :: c142 :: c143 :: c144 :: c145 :: c146 :: c147 :: c148 :: c149 :: c150 :: c151 :: c152 :: c153 :: []).toArray, []⟩ W) :
    Code.wp Try.prog (pickC [true, true, true, false, true, false, false, true, false, false, true, true, false] (Try.f52.body.getD .skip)) (Exit.then K Q) ⟨(c0 :: c1 :: c2 :: .pointer (some ⟨Z, 0, none⟩) :: c4 :: c5 :: c6 :: c7 :: .slice (some ⟨g, 0, none⟩) ln lc :: c9 :: c10 :: .int .i64 (i : Nat) :: c12 :: c13 :: c14 :: c15 :: c16 :: c17 :: c18 :: c19 :: c20 :: c21 :: c22 :: c23 :: c24 :: c25 :: c26 :: c27 :: c28 :: c29 :: c30 :: c31 :: c32 :: c33 :: c34 :: c35 :: c36 :: c37 :: c38 :: c39 :: c40 :: c41 :: c42 :: c43 :: c44 :: c45 :: c46 :: c47 :: c48 :: c49 :: c50 :: c51 :: c52 :: c53 :: c54 :: c55 :: c56 :: c57 :: c58 :: c59 :: c60 :: c61 :: c62 :: c63 :: c64 :: c65 :: c66 :: c67 :: c68 :: c69 :: c70 :: c71 :: c72 :: c73 :: c74 :: c75 :: c76 :: c77 :: c78 :: c79 :: c80 :: c81 :: c82 :: c83 :: c84 :: c85 :: c86 :: c87 :: c88 :: c89 :: c90 :: c91 :: c92 :: c93 :: c94 :: c95 :: c96 :: c97 :: c98 :: c99 :: c100 :: c101 :: c102 :: c103 :: c104 :: c105 :: c106 :: c107 :: c108 :: c109 :: c110 :: c111 :: c112 :: c113 :: c114 :: c115 :: c116 :: c117 :: c118 :: c119 :: c120 :: c121 :: c122 :: c123 :: c124 :: c125 :: c126 :: c127 :: c128 :: c129 :: c130 :: c131 :: c132 :: c133 :: c134 :: c135 :: c136 :: c137 :: c138 :: c139 :: c140 :: c141 :: c142 :: c143 :: c144 :: c145 :: c146 :: c147 :: c148 :: c149 :: c150 :: c151 :: c152 :: c153 :: []).toArray, []⟩ X := by
  have HK := hide hK
  have HN := hide kn
  have HLD : Hid (∀ W, (∃ p : Regrown, W = grow (redrawn X p.d) p.os) → (loadVar 117 ⟨Z, 0, none⟩).run Try.prog W = .ok (.agg q.fC.toArray) W) := fun W hW => by
    obtain ⟨p, rfl⟩ := hW
    exact load_fc (block_stay hF (below_regrown X p.d p.os))
  clear hK kn hF
  conv => arg 2; whnf
  refine wp_region_quiet_below (by kernel_rfl) (by kernel_rfl) ?_
  have xyl := cell_regrown yl
  refine quiet_load rfl _ _ rfl _ rfl _ HLD.out ⟨(c0 :: c1 :: c2 :: .pointer (some ⟨Z, 0, none⟩) :: c4 :: c5 :: c6 :: c7 :: .slice (some ⟨g, 0, none⟩) ln lc :: c9 :: c10 :: .int .i64 (i : Nat) :: c12 :: c13 :: c14 :: c15 :: c16 :: c17 :: c18 :: c19 :: c20 :: c21 :: c22 :: c23 :: c24 :: c25 :: c26 :: c27 :: c28 :: c29 :: c30 :: c31 :: c32 :: c33 :: c34 :: c35 :: c36 :: c37 :: c38 :: c39 :: c40 :: c41 :: c42 :: c43 :: c44 :: c45 :: c46 :: c47 :: c48 :: c49 :: c50 :: c51 :: c52 :: c53 :: c54 :: c55 :: c56 :: c57 :: c58 :: c59 :: c60 :: c61 :: c62 :: (.agg q.fC.toArray) :: c64 :: c65 :: c66 :: c67 :: c68 :: c69 :: c70 :: c71 :: c72 :: c73 :: c74 :: c75 :: c76 :: c77 :: c78 :: c79 :: c80 :: c81 :: c82 :: c83 :: c84 :: c85 :: c86 :: c87 :: c88 :: c89 :: c90 :: c91 :: c92 :: c93 :: c94 :: c95 :: c96 :: c97 :: c98 :: c99 :: c100 :: c101 :: c102 :: c103 :: c104 :: c105 :: c106 :: c107 :: c108 :: c109 :: c110 :: c111 :: c112 :: c113 :: c114 :: c115 :: c116 :: c117 :: c118 :: c119 :: c120 :: c121 :: c122 :: c123 :: c124 :: c125 :: c126 :: c127 :: c128 :: c129 :: c130 :: c131 :: c132 :: c133 :: c134 :: c135 :: c136 :: c137 :: c138 :: c139 :: c140 :: c141 :: c142 :: c143 :: c144 :: c145 :: c146 :: c147 :: c148 :: c149 :: c150 :: c151 :: c152 :: c153 :: []).toArray, []⟩ rfl ?_
  generalize q.fC.toArray = fq at *
  repeat (go_big_quiet_step (first | (with_reducible exact Calls.regrown_of (HN.out _ (below_regrown _ _ _)))))
  refine wpQuiet_nil ?_
  intro _ hwq
  obtain ⟨⟨dq, osq⟩, hwq2⟩ := hwq
  subst hwq2
  exact HK.out _ _ _ _ _ _ _ _ _ _ (below_regrown X dq osq)
set_option maxHeartbeats 4000000 in
set_option maxRecDepth 1000000 in
theorem rgtA9 (X : World) (q : Rp) (Z g i p ln lc : Nat) (n : Nat) (b : Bool) (hF : X.heap[Z]? = some (.cells q.fC.toArray 117 (0, 0))) (yl : X.cell? ⟨g, i, none⟩ = some (.int .u64 (p : Nat))) (p1 : ln ≤ lc) (p2 : lc ≤ 9223372036854775807) (hltI : (i : Int) < (ln : Int))
    (kn : ∀ W, Below X.heap.size X W → Calls Try.prog 74 #[.agg q.fC.toArray, .int .u64 (p : Nat), .int .u64 16, .int .u64 8, .int .i64 4] W fun e w' => e = .returned (.tuple #[.int .u64 (n : Nat), .bool b]) ∧ Below W.heap.size W w')
    (K : Act → World → Prop) (Q : Exit → Act → World → Prop) (c0 c1 c2 c4 c5 c6 c7 c9 c10 c12 c13 c14 c15 c16 c17 c18 c19 c20 c21 c22 c23 c24 c25 c26 c27 c28 c29 c30 c31 c32 c33 c34 c35 c36 c37 c38 c39 c40 c41 c42 c43 c44 c45 c46 c47 c48 c49 c50 c51 c52 c53 c54 c55 c56 c57 c58 c59 c60 c61 c62 c63 c64 c65 c66 c67 c68 c69 c70 c71 c72 c73 c74 c75 c76 c77 c78 c79 c80 c81 c82 c83 c84 c85 c86 c87 c88 c89 c90 c91 c92 c93 c94 c95 c96 c97 c98 c99 c100 c101 c102 c103 c104 c105 c106 c107 c108 c109 c110 c111 c112 c113 c114 c115 c116 c117 c118 c119 c120 c121 c122 c123 c124 c125 c126 c127 c128 c129 c130 c131 c132 c133 c134 c135 c136 c137 c138 c139 c140 c141 c142 c143 c144 c145 c146 c147 c148 c149 c150 c151 c152 c153 : Value) (hK : ∀ (W : World) (u71 u72 u73 u74 u75 u76 u77 u78 u79 : Value), Below X.heap.size X W → K ⟨(c0 :: c1 :: c2 :: .pointer (some ⟨Z, 0, none⟩) :: c4 :: c5 :: c6 :: c7 :: .slice (some ⟨g, 0, none⟩) ln lc :: c9 :: c10 :: .int .i64 (i : Nat) :: c12 :: c13 :: c14 :: c15 :: c16 :: c17 :: .int .u64 (n : Nat) :: .bool b :: c20 :: c21 :: c22 :: c23 :: c24 :: c25 :: c26 :: c27 :: c28 :: c29 :: c30 :: c31 :: c32 :: c33 :: c34 :: c35 :: c36 :: c37 :: c38 :: c39 :: c40 :: c41 :: c42 :: c43 :: c44 :: c45 :: c46 :: c47 :: c48 :: c49 :: c50 :: c51 :: c52 :: c53 :: c54 :: c55 :: c56 :: c57 :: c58 :: c59 :: c60 :: c61 :: c62 :: c63 :: c64 :: c65 :: c66 :: c67 :: c68 :: c69 :: c70 :: u71 :: u72 :: u73 :: u74 :: u75 :: u76 :: u77 :: u78 :: u79 :: c80 :: c81 :: c82 :: c83 :: c84 :: c85 :: c86 :: c87 :: c88 :: c89 :: c90 :: c91 :: c92 :: c93 :: c94 :: c95 :: c96 :: c97 :: c98 :: c99 :: c100 :: c101 :: c102 :: c103 :: c104 :: c105 :: c106 :: c107 :: c108 :: c109 :: c110 :: c111 :: c112 :: c113 :: c114 :: c115 :: c116 :: c117 :: c118 :: c119 :: c120 :: c121 :: c122 :: c123 :: c124 :: c125 :: c126 :: c127 :: c128 :: c129 :: c130 :: c131 :: c132 :: c133 :: c134 :: c135 :: c136 :: c137 :: c138 :: c139 :: c140 :: c141 :: c142 :: c143 :: c144 :: c145 :: c146 :: c147 :: c148 :: c149 :: c150 :: c151 :: c152 :: c153 :: []).toArray, []⟩ W) :
    Code.wp Try.prog (pickC [true, true, true, false, true, false, false, true, false, false, true, true, true, false] (Try.f52.body.getD .skip)) (Exit.then K Q) ⟨(c0 :: c1 :: c2 :: .pointer (some ⟨Z, 0, none⟩) :: c4 :: c5 :: c6 :: c7 :: .slice (some ⟨g, 0, none⟩) ln lc :: c9 :: c10 :: .int .i64 (i : Nat) :: c12 :: c13 :: c14 :: c15 :: c16 :: c17 :: c18 :: c19 :: c20 :: c21 :: c22 :: c23 :: c24 :: c25 :: c26 :: c27 :: c28 :: c29 :: c30 :: c31 :: c32 :: c33 :: c34 :: c35 :: c36 :: c37 :: c38 :: c39 :: c40 :: c41 :: c42 :: c43 :: c44 :: c45 :: c46 :: c47 :: c48 :: c49 :: c50 :: c51 :: c52 :: c53 :: c54 :: c55 :: c56 :: c57 :: c58 :: c59 :: c60 :: c61 :: c62 :: c63 :: c64 :: c65 :: c66 :: c67 :: c68 :: c69 :: c70 :: c71 :: c72 :: c73 :: c74 :: c75 :: c76 :: c77 :: c78 :: c79 :: c80 :: c81 :: c82 :: c83 :: c84 :: c85 :: c86 :: c87 :: c88 :: c89 :: c90 :: c91 :: c92 :: c93 :: c94 :: c95 :: c96 :: c97 :: c98 :: c99 :: c100 :: c101 :: c102 :: c103 :: c104 :: c105 :: c106 :: c107 :: c108 :: c109 :: c110 :: c111 :: c112 :: c113 :: c114 :: c115 :: c116 :: c117 :: c118 :: c119 :: c120 :: c121 :: c122 :: c123 :: c124 :: c125 :: c126 :: c127 :: c128 :: c129 :: c130 :: c131 :: c132 :: c133 :: c134 :: c135 :: c136 :: c137 :: c138 :: c139 :: c140 :: c141 :: c142 :: c143 :: c144 :: c145 :: c146 :: c147 :: c148 :: c149 :: c150 :: c151 :: c152 :: c153 :: []).toArray, []⟩ X := by
  have HK := hide hK
  have HN := hide kn
  have HLD : Hid (∀ W, (∃ p : Regrown, W = grow (redrawn X p.d) p.os) → (loadVar 117 ⟨Z, 0, none⟩).run Try.prog W = .ok (.agg q.fC.toArray) W) := fun W hW => by
    obtain ⟨p, rfl⟩ := hW
    exact load_fc (block_stay hF (below_regrown X p.d p.os))
  clear hK kn hF
  conv => arg 2; whnf
  refine wp_region_quiet_below (by kernel_rfl) (by kernel_rfl) ?_
  have xyl := cell_regrown yl
  refine quiet_load rfl _ _ rfl _ rfl _ HLD.out ⟨(c0 :: c1 :: c2 :: .pointer (some ⟨Z, 0, none⟩) :: c4 :: c5 :: c6 :: c7 :: .slice (some ⟨g, 0, none⟩) ln lc :: c9 :: c10 :: .int .i64 (i : Nat) :: c12 :: c13 :: c14 :: c15 :: c16 :: c17 :: c18 :: c19 :: c20 :: c21 :: c22 :: c23 :: c24 :: c25 :: c26 :: c27 :: c28 :: c29 :: c30 :: c31 :: c32 :: c33 :: c34 :: c35 :: c36 :: c37 :: c38 :: c39 :: c40 :: c41 :: c42 :: c43 :: c44 :: c45 :: c46 :: c47 :: c48 :: c49 :: c50 :: c51 :: c52 :: c53 :: c54 :: c55 :: c56 :: c57 :: c58 :: c59 :: c60 :: c61 :: c62 :: c63 :: c64 :: c65 :: c66 :: c67 :: c68 :: c69 :: c70 :: c71 :: (.agg q.fC.toArray) :: c73 :: c74 :: c75 :: c76 :: c77 :: c78 :: c79 :: c80 :: c81 :: c82 :: c83 :: c84 :: c85 :: c86 :: c87 :: c88 :: c89 :: c90 :: c91 :: c92 :: c93 :: c94 :: c95 :: c96 :: c97 :: c98 :: c99 :: c100 :: c101 :: c102 :: c103 :: c104 :: c105 :: c106 :: c107 :: c108 :: c109 :: c110 :: c111 :: c112 :: c113 :: c114 :: c115 :: c116 :: c117 :: c118 :: c119 :: c120 :: c121 :: c122 :: c123 :: c124 :: c125 :: c126 :: c127 :: c128 :: c129 :: c130 :: c131 :: c132 :: c133 :: c134 :: c135 :: c136 :: c137 :: c138 :: c139 :: c140 :: c141 :: c142 :: c143 :: c144 :: c145 :: c146 :: c147 :: c148 :: c149 :: c150 :: c151 :: c152 :: c153 :: []).toArray, []⟩ rfl ?_
  generalize q.fC.toArray = fq at *
  repeat (go_big_quiet_step (first | (with_reducible exact Calls.regrown_of (HN.out _ (below_regrown _ _ _)))))
  refine wpQuiet_nil ?_
  intro _ hwq
  obtain ⟨⟨dq, osq⟩, hwq2⟩ := hwq
  subst hwq2
  exact HK.out _ _ _ _ _ _ _ _ _ _ (below_regrown X dq osq)
set_option maxHeartbeats 4000000 in
set_option maxRecDepth 1000000 in
theorem rgtA17 (X : World) (q : Rp) (Z g i p ln lc : Nat) (n : Nat) (b : Bool) (hF : X.heap[Z]? = some (.cells q.fC.toArray 117 (0, 0))) (yl : X.cell? ⟨g, i, none⟩ = some (.int .u64 (p : Nat))) (p1 : ln ≤ lc) (p2 : lc ≤ 9223372036854775807) (hltI : (i : Int) < (ln : Int))
    (kn : ∀ W, Below X.heap.size X W → Calls Try.prog 74 #[.agg q.fC.toArray, .int .u64 (p : Nat), .int .u64 16, .int .u64 6, .int .i64 2] W fun e w' => e = .returned (.tuple #[.int .u64 (n : Nat), .bool b]) ∧ Below W.heap.size W w')
    (K : Act → World → Prop) (Q : Exit → Act → World → Prop) (c0 c1 c2 c4 c5 c6 c7 c8 c9 c10 c11 c12 c13 c14 c15 c16 c17 c18 c19 c20 c21 c23 c25 c26 c27 c28 c29 c30 c31 c32 c33 c34 c35 c36 c37 c38 c39 c40 c41 c42 c43 c44 c45 c46 c47 c48 c49 c50 c51 c52 c53 c54 c55 c56 c57 c58 c59 c60 c61 c62 c63 c64 c65 c66 c67 c68 c69 c70 c71 c72 c73 c74 c75 c76 c77 c78 c79 c80 c81 c82 c83 c84 c85 c86 c87 c88 c89 c90 c91 c92 c93 c94 c95 c96 c97 c98 c99 c100 c101 c102 c103 c104 c105 c106 c107 c108 c109 c110 c111 c112 c113 c114 c115 c116 c117 c118 c119 c120 c121 c122 c123 c124 c125 c126 c127 c128 c129 c130 c131 c132 c133 c134 c135 c136 c137 c138 c139 c140 c141 c142 c143 c144 c145 c146 c147 c148 c149 c150 c151 c152 c153 : Value) (hK : ∀ (W : World) (u114 u115 u116 u117 u118 u119 u120 u121 u122 : Value), Below X.heap.size X W → K ⟨(c0 :: c1 :: c2 :: .pointer (some ⟨Z, 0, none⟩) :: c4 :: c5 :: c6 :: c7 :: c8 :: c9 :: c10 :: c11 :: c12 :: c13 :: c14 :: c15 :: c16 :: c17 :: c18 :: c19 :: c20 :: c21 :: .slice (some ⟨g, 0, none⟩) ln lc :: c23 :: .int .i64 (i : Nat) :: .int .u64 (n : Nat) :: .bool b :: c27 :: c28 :: c29 :: c30 :: c31 :: c32 :: c33 :: c34 :: c35 :: c36 :: c37 :: c38 :: c39 :: c40 :: c41 :: c42 :: c43 :: c44 :: c45 :: c46 :: c47 :: c48 :: c49 :: c50 :: c51 :: c52 :: c53 :: c54 :: c55 :: c56 :: c57 :: c58 :: c59 :: c60 :: c61 :: c62 :: c63 :: c64 :: c65 :: c66 :: c67 :: c68 :: c69 :: c70 :: c71 :: c72 :: c73 :: c74 :: c75 :: c76 :: c77 :: c78 :: c79 :: c80 :: c81 :: c82 :: c83 :: c84 :: c85 :: c86 :: c87 :: c88 :: c89 :: c90 :: c91 :: c92 :: c93 :: c94 :: c95 :: c96 :: c97 :: c98 :: c99 :: c100 :: c101 :: c102 :: c103 :: c104 :: c105 :: c106 :: c107 :: c108 :: c109 :: c110 :: c111 :: c112 :: c113 :: u114 :: u115 :: u116 :: u117 :: u118 :: u119 :: u120 :: u121 :: u122 :: c123 :: c124 :: c125 :: c126 :: c127 :: c128 :: c129 :: c130 :: c131 :: c132 :: c133 :: c134 :: c135 :: c136 :: c137 :: c138 :: c139 :: c140 :: c141 :: c142 :: c143 :: c144 :: c145 :: c146 :: c147 :: c148 :: c149 :: c150 :: c151 :: c152 :: c153 :: []).toArray, []⟩ W) :
    Code.wp Try.prog (pickC [true, true, true, false, true, false, false, true, false, false, true, true, true, true, true, true, true, true, false, false, true, false, false, false] (Try.f52.body.getD .skip)) (Exit.then K Q) ⟨(c0 :: c1 :: c2 :: .pointer (some ⟨Z, 0, none⟩) :: c4 :: c5 :: c6 :: c7 :: c8 :: c9 :: c10 :: c11 :: c12 :: c13 :: c14 :: c15 :: c16 :: c17 :: c18 :: c19 :: c20 :: c21 :: .slice (some ⟨g, 0, none⟩) ln lc :: c23 :: .int .i64 (i : Nat) :: c25 :: c26 :: c27 :: c28 :: c29 :: c30 :: c31 :: c32 :: c33 :: c34 :: c35 :: c36 :: c37 :: c38 :: c39 :: c40 :: c41 :: c42 :: c43 :: c44 :: c45 :: c46 :: c47 :: c48 :: c49 :: c50 :: c51 :: c52 :: c53 :: c54 :: c55 :: c56 :: c57 :: c58 :: c59 :: c60 :: c61 :: c62 :: c63 :: c64 :: c65 :: c66 :: c67 :: c68 :: c69 :: c70 :: c71 :: c72 :: c73 :: c74 :: c75 :: c76 :: c77 :: c78 :: c79 :: c80 :: c81 :: c82 :: c83 :: c84 :: c85 :: c86 :: c87 :: c88 :: c89 :: c90 :: c91 :: c92 :: c93 :: c94 :: c95 :: c96 :: c97 :: c98 :: c99 :: c100 :: c101 :: c102 :: c103 :: c104 :: c105 :: c106 :: c107 :: c108 :: c109 :: c110 :: c111 :: c112 :: c113 :: c114 :: c115 :: c116 :: c117 :: c118 :: c119 :: c120 :: c121 :: c122 :: c123 :: c124 :: c125 :: c126 :: c127 :: c128 :: c129 :: c130 :: c131 :: c132 :: c133 :: c134 :: c135 :: c136 :: c137 :: c138 :: c139 :: c140 :: c141 :: c142 :: c143 :: c144 :: c145 :: c146 :: c147 :: c148 :: c149 :: c150 :: c151 :: c152 :: c153 :: []).toArray, []⟩ X := by
  have HK := hide hK
  have HN := hide kn
  have HLD : Hid (∀ W, (∃ p : Regrown, W = grow (redrawn X p.d) p.os) → (loadVar 117 ⟨Z, 0, none⟩).run Try.prog W = .ok (.agg q.fC.toArray) W) := fun W hW => by
    obtain ⟨p, rfl⟩ := hW
    exact load_fc (block_stay hF (below_regrown X p.d p.os))
  clear hK kn hF
  conv => arg 2; whnf
  refine wp_region_quiet_below (by kernel_rfl) (by kernel_rfl) ?_
  have xyl := cell_regrown yl
  refine quiet_load rfl _ _ rfl _ rfl _ HLD.out ⟨(c0 :: c1 :: c2 :: .pointer (some ⟨Z, 0, none⟩) :: c4 :: c5 :: c6 :: c7 :: c8 :: c9 :: c10 :: c11 :: c12 :: c13 :: c14 :: c15 :: c16 :: c17 :: c18 :: c19 :: c20 :: c21 :: .slice (some ⟨g, 0, none⟩) ln lc :: c23 :: .int .i64 (i : Nat) :: c25 :: c26 :: c27 :: c28 :: c29 :: c30 :: c31 :: c32 :: c33 :: c34 :: c35 :: c36 :: c37 :: c38 :: c39 :: c40 :: c41 :: c42 :: c43 :: c44 :: c45 :: c46 :: c47 :: c48 :: c49 :: c50 :: c51 :: c52 :: c53 :: c54 :: c55 :: c56 :: c57 :: c58 :: c59 :: c60 :: c61 :: c62 :: c63 :: c64 :: c65 :: c66 :: c67 :: c68 :: c69 :: c70 :: c71 :: c72 :: c73 :: c74 :: c75 :: c76 :: c77 :: c78 :: c79 :: c80 :: c81 :: c82 :: c83 :: c84 :: c85 :: c86 :: c87 :: c88 :: c89 :: c90 :: c91 :: c92 :: c93 :: c94 :: c95 :: c96 :: c97 :: c98 :: c99 :: c100 :: c101 :: c102 :: c103 :: c104 :: c105 :: c106 :: c107 :: c108 :: c109 :: c110 :: c111 :: c112 :: c113 :: c114 :: (.agg q.fC.toArray) :: c116 :: c117 :: c118 :: c119 :: c120 :: c121 :: c122 :: c123 :: c124 :: c125 :: c126 :: c127 :: c128 :: c129 :: c130 :: c131 :: c132 :: c133 :: c134 :: c135 :: c136 :: c137 :: c138 :: c139 :: c140 :: c141 :: c142 :: c143 :: c144 :: c145 :: c146 :: c147 :: c148 :: c149 :: c150 :: c151 :: c152 :: c153 :: []).toArray, []⟩ rfl ?_
  generalize q.fC.toArray = fq at *
  repeat (go_big_quiet_step (first | (with_reducible exact Calls.regrown_of (HN.out _ (below_regrown _ _ _)))))
  refine wpQuiet_nil ?_
  intro _ hwq
  obtain ⟨⟨dq, osq⟩, hwq2⟩ := hwq
  subst hwq2
  exact HK.out _ _ _ _ _ _ _ _ _ _ (below_regrown X dq osq)
set_option maxHeartbeats 4000000 in
set_option maxRecDepth 1000000 in
theorem rgtA18 (X : World) (q : Rp) (Z g i p ln lc : Nat) (n : Nat) (b : Bool) (hF : X.heap[Z]? = some (.cells q.fC.toArray 117 (0, 0))) (yl : X.cell? ⟨g, i, none⟩ = some (.int .u64 (p : Nat))) (p1 : ln ≤ lc) (p2 : lc ≤ 9223372036854775807) (hltI : (i : Int) < (ln : Int))
    (kn : ∀ W, Below X.heap.size X W → Calls Try.prog 74 #[.agg q.fC.toArray, .int .u64 (p : Nat), .int .u64 16, .int .u64 8, .int .i64 4] W fun e w' => e = .returned (.tuple #[.int .u64 (n : Nat), .bool b]) ∧ Below W.heap.size W w')
    (K : Act → World → Prop) (Q : Exit → Act → World → Prop) (c0 c1 c2 c4 c5 c6 c7 c8 c9 c10 c11 c12 c13 c14 c15 c16 c17 c18 c19 c20 c21 c23 c25 c26 c27 c28 c29 c30 c31 c32 c33 c34 c35 c36 c37 c38 c39 c40 c41 c42 c43 c44 c45 c46 c47 c48 c49 c50 c51 c52 c53 c54 c55 c56 c57 c58 c59 c60 c61 c62 c63 c64 c65 c66 c67 c68 c69 c70 c71 c72 c73 c74 c75 c76 c77 c78 c79 c80 c81 c82 c83 c84 c85 c86 c87 c88 c89 c90 c91 c92 c93 c94 c95 c96 c97 c98 c99 c100 c101 c102 c103 c104 c105 c106 c107 c108 c109 c110 c111 c112 c113 c114 c115 c116 c117 c118 c119 c120 c121 c122 c123 c124 c125 c126 c127 c128 c129 c130 c131 c132 c133 c134 c135 c136 c137 c138 c139 c140 c141 c142 c143 c144 c145 c146 c147 c148 c149 c150 c151 c152 c153 : Value) (hK : ∀ (W : World) (u123 u124 u125 u126 u127 u128 u129 u130 u131 : Value), Below X.heap.size X W → K ⟨(c0 :: c1 :: c2 :: .pointer (some ⟨Z, 0, none⟩) :: c4 :: c5 :: c6 :: c7 :: c8 :: c9 :: c10 :: c11 :: c12 :: c13 :: c14 :: c15 :: c16 :: c17 :: c18 :: c19 :: c20 :: c21 :: .slice (some ⟨g, 0, none⟩) ln lc :: c23 :: .int .i64 (i : Nat) :: c25 :: c26 :: .int .u64 (n : Nat) :: .bool b :: c29 :: c30 :: c31 :: c32 :: c33 :: c34 :: c35 :: c36 :: c37 :: c38 :: c39 :: c40 :: c41 :: c42 :: c43 :: c44 :: c45 :: c46 :: c47 :: c48 :: c49 :: c50 :: c51 :: c52 :: c53 :: c54 :: c55 :: c56 :: c57 :: c58 :: c59 :: c60 :: c61 :: c62 :: c63 :: c64 :: c65 :: c66 :: c67 :: c68 :: c69 :: c70 :: c71 :: c72 :: c73 :: c74 :: c75 :: c76 :: c77 :: c78 :: c79 :: c80 :: c81 :: c82 :: c83 :: c84 :: c85 :: c86 :: c87 :: c88 :: c89 :: c90 :: c91 :: c92 :: c93 :: c94 :: c95 :: c96 :: c97 :: c98 :: c99 :: c100 :: c101 :: c102 :: c103 :: c104 :: c105 :: c106 :: c107 :: c108 :: c109 :: c110 :: c111 :: c112 :: c113 :: c114 :: c115 :: c116 :: c117 :: c118 :: c119 :: c120 :: c121 :: c122 :: u123 :: u124 :: u125 :: u126 :: u127 :: u128 :: u129 :: u130 :: u131 :: c132 :: c133 :: c134 :: c135 :: c136 :: c137 :: c138 :: c139 :: c140 :: c141 :: c142 :: c143 :: c144 :: c145 :: c146 :: c147 :: c148 :: c149 :: c150 :: c151 :: c152 :: c153 :: []).toArray, []⟩ W) :
    Code.wp Try.prog (pickC [true, true, true, false, true, false, false, true, false, false, true, true, true, true, true, true, true, true, false, false, true, false, false, true, false] (Try.f52.body.getD .skip)) (Exit.then K Q) ⟨(c0 :: c1 :: c2 :: .pointer (some ⟨Z, 0, none⟩) :: c4 :: c5 :: c6 :: c7 :: c8 :: c9 :: c10 :: c11 :: c12 :: c13 :: c14 :: c15 :: c16 :: c17 :: c18 :: c19 :: c20 :: c21 :: .slice (some ⟨g, 0, none⟩) ln lc :: c23 :: .int .i64 (i : Nat) :: c25 :: c26 :: c27 :: c28 :: c29 :: c30 :: c31 :: c32 :: c33 :: c34 :: c35 :: c36 :: c37 :: c38 :: c39 :: c40 :: c41 :: c42 :: c43 :: c44 :: c45 :: c46 :: c47 :: c48 :: c49 :: c50 :: c51 :: c52 :: c53 :: c54 :: c55 :: c56 :: c57 :: c58 :: c59 :: c60 :: c61 :: c62 :: c63 :: c64 :: c65 :: c66 :: c67 :: c68 :: c69 :: c70 :: c71 :: c72 :: c73 :: c74 :: c75 :: c76 :: c77 :: c78 :: c79 :: c80 :: c81 :: c82 :: c83 :: c84 :: c85 :: c86 :: c87 :: c88 :: c89 :: c90 :: c91 :: c92 :: c93 :: c94 :: c95 :: c96 :: c97 :: c98 :: c99 :: c100 :: c101 :: c102 :: c103 :: c104 :: c105 :: c106 :: c107 :: c108 :: c109 :: c110 :: c111 :: c112 :: c113 :: c114 :: c115 :: c116 :: c117 :: c118 :: c119 :: c120 :: c121 :: c122 :: c123 :: c124 :: c125 :: c126 :: c127 :: c128 :: c129 :: c130 :: c131 :: c132 :: c133 :: c134 :: c135 :: c136 :: c137 :: c138 :: c139 :: c140 :: c141 :: c142 :: c143 :: c144 :: c145 :: c146 :: c147 :: c148 :: c149 :: c150 :: c151 :: c152 :: c153 :: []).toArray, []⟩ X := by
  have HK := hide hK
  have HN := hide kn
  have HLD : Hid (∀ W, (∃ p : Regrown, W = grow (redrawn X p.d) p.os) → (loadVar 117 ⟨Z, 0, none⟩).run Try.prog W = .ok (.agg q.fC.toArray) W) := fun W hW => by
    obtain ⟨p, rfl⟩ := hW
    exact load_fc (block_stay hF (below_regrown X p.d p.os))
  clear hK kn hF
  conv => arg 2; whnf
  refine wp_region_quiet_below (by kernel_rfl) (by kernel_rfl) ?_
  have xyl := cell_regrown yl
  refine quiet_load rfl _ _ rfl _ rfl _ HLD.out ⟨(c0 :: c1 :: c2 :: .pointer (some ⟨Z, 0, none⟩) :: c4 :: c5 :: c6 :: c7 :: c8 :: c9 :: c10 :: c11 :: c12 :: c13 :: c14 :: c15 :: c16 :: c17 :: c18 :: c19 :: c20 :: c21 :: .slice (some ⟨g, 0, none⟩) ln lc :: c23 :: .int .i64 (i : Nat) :: c25 :: c26 :: c27 :: c28 :: c29 :: c30 :: c31 :: c32 :: c33 :: c34 :: c35 :: c36 :: c37 :: c38 :: c39 :: c40 :: c41 :: c42 :: c43 :: c44 :: c45 :: c46 :: c47 :: c48 :: c49 :: c50 :: c51 :: c52 :: c53 :: c54 :: c55 :: c56 :: c57 :: c58 :: c59 :: c60 :: c61 :: c62 :: c63 :: c64 :: c65 :: c66 :: c67 :: c68 :: c69 :: c70 :: c71 :: c72 :: c73 :: c74 :: c75 :: c76 :: c77 :: c78 :: c79 :: c80 :: c81 :: c82 :: c83 :: c84 :: c85 :: c86 :: c87 :: c88 :: c89 :: c90 :: c91 :: c92 :: c93 :: c94 :: c95 :: c96 :: c97 :: c98 :: c99 :: c100 :: c101 :: c102 :: c103 :: c104 :: c105 :: c106 :: c107 :: c108 :: c109 :: c110 :: c111 :: c112 :: c113 :: c114 :: c115 :: c116 :: c117 :: c118 :: c119 :: c120 :: c121 :: c122 :: c123 :: (.agg q.fC.toArray) :: c125 :: c126 :: c127 :: c128 :: c129 :: c130 :: c131 :: c132 :: c133 :: c134 :: c135 :: c136 :: c137 :: c138 :: c139 :: c140 :: c141 :: c142 :: c143 :: c144 :: c145 :: c146 :: c147 :: c148 :: c149 :: c150 :: c151 :: c152 :: c153 :: []).toArray, []⟩ rfl ?_
  generalize q.fC.toArray = fq at *
  repeat (go_big_quiet_step (first | (with_reducible exact Calls.regrown_of (HN.out _ (below_regrown _ _ _)))))
  refine wpQuiet_nil ?_
  intro _ hwq
  obtain ⟨⟨dq, osq⟩, hwq2⟩ := hwq
  subst hwq2
  exact HK.out _ _ _ _ _ _ _ _ _ _ (below_regrown X dq osq)
end Go.Proofs.Ytdclofiifcpkkaa
namespace Go.Proofs.Ytdclofiifcpkkaa
open Go.RowKit Go.PlainAid Go.Sort
set_option maxHeartbeats 4000000 in
set_option maxRecDepth 1000000 in
theorem rgtA11 (X : World) (q : Rp) (Z g i p ln lc : Nat) (m k : Nat) (rb : Bool) (R : List Nat) (hRL : R.length ≤ 65536) (hF : X.heap[Z]? = some (.cells q.fC.toArray 117 (0, 0))) (yl : X.cell? ⟨g, i, none⟩ = some (.int .u64 (p : Nat))) (p1 : ln ≤ lc) (p2 : lc ≤ 9223372036854775807) (hltI : (i : Int) < (ln : Int)) (hpI : (p : Int) ≤ 16384) (hmI : (m : Int) ≤ 4294967295)
    (kn : ∀ W, Below X.heap.size X W → Calls Try.prog 73 #[.agg q.fC.toArray, .int .u64 ((p : Int) + (m : Int)), .int .u64 (k : Nat), .int .u64 16, .int .u64 12] W fun e w' => (∃ v, e = .returned (.tuple #[v, .bool rb]) ∧ OwnU w' W.heap.size v R) ∧ Below W.heap.size W w')
    (K : Act → World → Prop) (Q : Exit → Act → World → Prop) (c0 c1 c2 c4 c5 c6 c7 c9 c10 c12 c13 c15 c16 c17 c19 c20 c21 c22 c23 c24 c25 c26 c27 c28 c29 c30 c31 c32 c33 c34 c35 c36 c37 c38 c39 c40 c41 c42 c43 c44 c45 c46 c47 c48 c49 c50 c51 c52 c53 c54 c55 c56 c57 c58 c59 c60 c61 c62 c63 c64 c65 c66 c67 c68 c69 c70 c71 c72 c73 c74 c75 c76 c77 c78 c79 c80 c81 c82 c83 c84 c85 c86 c87 c88 c89 c90 c91 c92 c93 c94 c95 c96 c97 c98 c99 c100 c101 c102 c103 c104 c105 c106 c107 c108 c109 c110 c111 c112 c113 c114 c115 c116 c117 c118 c119 c120 c121 c122 c123 c124 c125 c126 c127 c128 c129 c130 c131 c132 c133 c134 c135 c136 c137 c138 c139 c140 c141 c142 c143 c144 c145 c146 c147 c148 c149 c150 c151 c152 c153 : Value) (hK : ∀ (W : World) (xa : Option Addr) (xn xc : Nat) (u86 u87 u88 u89 u90 u91 u92 u93 u94 u95 u96 u97 : Value), OwnU W X.heap.size (.slice xa xn xc) R → Below X.heap.size X W → K ⟨(c0 :: c1 :: c2 :: .pointer (some ⟨Z, 0, none⟩) :: c4 :: c5 :: c6 :: c7 :: .slice (some ⟨g, 0, none⟩) ln lc :: c9 :: c10 :: .int .i64 (i : Nat) :: c12 :: c13 :: .int .u64 (k : Nat) :: c15 :: c16 :: c17 :: .int .u64 (m : Nat) :: c19 :: c20 :: c21 :: .slice xa xn xc :: .bool rb :: c24 :: c25 :: c26 :: c27 :: c28 :: c29 :: c30 :: c31 :: c32 :: c33 :: c34 :: c35 :: c36 :: c37 :: c38 :: c39 :: c40 :: c41 :: c42 :: c43 :: c44 :: c45 :: c46 :: c47 :: c48 :: c49 :: c50 :: c51 :: c52 :: c53 :: c54 :: c55 :: c56 :: c57 :: c58 :: c59 :: c60 :: c61 :: c62 :: c63 :: c64 :: c65 :: c66 :: c67 :: c68 :: c69 :: c70 :: c71 :: c72 :: c73 :: c74 :: c75 :: c76 :: c77 :: c78 :: c79 :: c80 :: c81 :: c82 :: c83 :: c84 :: c85 :: u86 :: u87 :: u88 :: u89 :: u90 :: u91 :: u92 :: u93 :: u94 :: u95 :: u96 :: u97 :: c98 :: c99 :: c100 :: c101 :: c102 :: c103 :: c104 :: c105 :: c106 :: c107 :: c108 :: c109 :: c110 :: c111 :: c112 :: c113 :: c114 :: c115 :: c116 :: c117 :: c118 :: c119 :: c120 :: c121 :: c122 :: c123 :: c124 :: c125 :: c126 :: c127 :: c128 :: c129 :: c130 :: c131 :: c132 :: c133 :: c134 :: c135 :: c136 :: c137 :: c138 :: c139 :: c140 :: c141 :: c142 :: c143 :: c144 :: c145 :: c146 :: c147 :: c148 :: c149 :: c150 :: c151 :: c152 :: c153 :: []).toArray, []⟩ W) :
    Code.wp Try.prog (pickC [true, true, true, false, true, false, false, true, false, false, true, true, true, true, true, false] (Try.f52.body.getD .skip)) (Exit.then K Q) ⟨(c0 :: c1 :: c2 :: .pointer (some ⟨Z, 0, none⟩) :: c4 :: c5 :: c6 :: c7 :: .slice (some ⟨g, 0, none⟩) ln lc :: c9 :: c10 :: .int .i64 (i : Nat) :: c12 :: c13 :: .int .u64 (k : Nat) :: c15 :: c16 :: c17 :: .int .u64 (m : Nat) :: c19 :: c20 :: c21 :: c22 :: c23 :: c24 :: c25 :: c26 :: c27 :: c28 :: c29 :: c30 :: c31 :: c32 :: c33 :: c34 :: c35 :: c36 :: c37 :: c38 :: c39 :: c40 :: c41 :: c42 :: c43 :: c44 :: c45 :: c46 :: c47 :: c48 :: c49 :: c50 :: c51 :: c52 :: c53 :: c54 :: c55 :: c56 :: c57 :: c58 :: c59 :: c60 :: c61 :: c62 :: c63 :: c64 :: c65 :: c66 :: c67 :: c68 :: c69 :: c70 :: c71 :: c72 :: c73 :: c74 :: c75 :: c76 :: c77 :: c78 :: c79 :: c80 :: c81 :: c82 :: c83 :: c84 :: c85 :: c86 :: c87 :: c88 :: c89 :: c90 :: c91 :: c92 :: c93 :: c94 :: c95 :: c96 :: c97 :: c98 :: c99 :: c100 :: c101 :: c102 :: c103 :: c104 :: c105 :: c106 :: c107 :: c108 :: c109 :: c110 :: c111 :: c112 :: c113 :: c114 :: c115 :: c116 :: c117 :: c118 :: c119 :: c120 :: c121 :: c122 :: c123 :: c124 :: c125 :: c126 :: c127 :: c128 :: c129 :: c130 :: c131 :: c132 :: c133 :: c134 :: c135 :: c136 :: c137 :: c138 :: c139 :: c140 :: c141 :: c142 :: c143 :: c144 :: c145 :: c146 :: c147 :: c148 :: c149 :: c150 :: c151 :: c152 :: c153 :: []).toArray, []⟩ X := by
  have HK := hide hK
  have HDD : Hid (Below X.heap.size X X.drew) := (Below.refl _ _).drew
  have HSA : Hid (∀ W, Below X.heap.size X W → W.cell? ⟨Z, 0, none⟩ = some (.slice q.ba q.bn q.bc) ∧ W.cell? ⟨Z, 1, none⟩ = some (.int .u16 q.m) ∧ W.cell? ⟨Z, 2, none⟩ = some (.slice q.va q.vn q.vc) ∧ W.cell? ⟨Z, 3, none⟩ = some (.int .u32 q.d.type) ∧ W.cell? ⟨Z, 4, none⟩ = some (.int .u32 q.d.flags) ∧ W.cell? ⟨Z, 5, none⟩ = some (.int .u64 q.d.off) ∧ W.cell? ⟨Z, 6, none⟩ = some (.int .u64 q.d.vaddr) ∧ W.cell? ⟨Z, 7, none⟩ = some (.int .u64 q.d.filesz) ∧ W.cell? ⟨Z, 8, none⟩ = some (.int .u64 q.d.memsz) ∧ W.cell? ⟨Z, 9, none⟩ = some (.int .u64 q.d.align) ∧ W.cell? ⟨Z, 10, none⟩ = some (.int .u32 q.r.type) ∧ W.cell? ⟨Z, 11, none⟩ = some (.int .u32 q.r.flags) ∧ W.cell? ⟨Z, 12, none⟩ = some (.int .u64 q.r.off) ∧ W.cell? ⟨Z, 13, none⟩ = some (.int .u64 q.r.vaddr) ∧ W.cell? ⟨Z, 14, none⟩ = some (.int .u64 q.r.filesz) ∧ W.cell? ⟨Z, 15, none⟩ = some (.int .u64 q.r.memsz) ∧ W.cell? ⟨Z, 16, none⟩ = some (.int .u64 q.r.align) ∧ W.cell? ⟨Z, 17, none⟩ = some (.slice q.sa q.sn q.sc) ∧ W.cell? ⟨g, i, none⟩ = some (.int .u64 (p : Nat))) := fun W hW => by
    obtain ⟨c0, c1, c2, c3, c4, c5, c6, c7, c8, c9, c10, c11, c12, c13, c14, c15, c16, c17⟩ := fC_cells (block_stay hF hW)
    exact ⟨c0, c1, c2, c3, c4, c5, c6, c7, c8, c9, c10, c11, c12, c13, c14, c15, c16, c17, (hW.cell (p := ⟨g, i, none⟩) (World.block_lt_of_cell? _ _ yl)).trans yl⟩
  have hwr : IntKind.u64.wrap ((p : Int) + (m : Int)) = (p : Int) + (m : Int) := by rw [IntKind.wrap_u64]; omega
  have hi0 : (0 : Int) ≤ (i : Int) := by omega
  have SD := HSA.out X.drew HDD.out
  have kd := kn X.drew HDD.out
  unfold Rp.fC hdCells at kd
  simp only [List.cons_append, List.nil_append] at kd
  clear hK kn hF
  refine wp_mono (Q := Exit.then K fun _ _ _ => False) ?_ (fun e a' w' hq => by cases e <;> first | exact hq | exact hq.elim)
  conv => arg 2; whnf
  go_region_held_law (fun w' => w'.cell? ⟨Z, 0, none⟩ = some (.slice q.ba q.bn q.bc) ∧ w'.cell? ⟨Z, 1, none⟩ = some (.int .u16 q.m) ∧ w'.cell? ⟨Z, 2, none⟩ = some (.slice q.va q.vn q.vc) ∧ w'.cell? ⟨Z, 3, none⟩ = some (.int .u32 q.d.type) ∧ w'.cell? ⟨Z, 4, none⟩ = some (.int .u32 q.d.flags) ∧ w'.cell? ⟨Z, 5, none⟩ = some (.int .u64 q.d.off) ∧ w'.cell? ⟨Z, 6, none⟩ = some (.int .u64 q.d.vaddr) ∧ w'.cell? ⟨Z, 7, none⟩ = some (.int .u64 q.d.filesz) ∧ w'.cell? ⟨Z, 8, none⟩ = some (.int .u64 q.d.memsz) ∧ w'.cell? ⟨Z, 9, none⟩ = some (.int .u64 q.d.align) ∧ w'.cell? ⟨Z, 10, none⟩ = some (.int .u32 q.r.type) ∧ w'.cell? ⟨Z, 11, none⟩ = some (.int .u32 q.r.flags) ∧ w'.cell? ⟨Z, 12, none⟩ = some (.int .u64 q.r.off) ∧ w'.cell? ⟨Z, 13, none⟩ = some (.int .u64 q.r.vaddr) ∧ w'.cell? ⟨Z, 14, none⟩ = some (.int .u64 q.r.filesz) ∧ w'.cell? ⟨Z, 15, none⟩ = some (.int .u64 q.r.memsz) ∧ w'.cell? ⟨Z, 16, none⟩ = some (.int .u64 q.r.align) ∧ w'.cell? ⟨Z, 17, none⟩ = some (.slice q.sa q.sn q.sc) ∧ w'.cell? ⟨g, i, none⟩ = some (.int .u64 (p : Nat)))
    (first | with_reducible assumption)
    (first
      | (go_at_call 73; refine kd.mono ?_; rintro e W3 ⟨⟨v3, rfl, ow3⟩, hb3⟩; obtain ⟨xa, xn, xc, hv⟩ := ow3.form3 hRL; subst hv; have HO3 := hide ow3; have HB3 := hide (HDD.out.trans (hb3.mono HDD.out.size)); have SC3 := HSA.out W3 HB3.out; clear ow3 hb3 kd))
  exact HK.out _ _ _ _ _ _ _ _ _ _ _ _ _ _ _ _ HO3.out HB3.out
end Go.Proofs.Ytdclofiifcpkkaa
namespace Go.Proofs.Ytdclofiifcpkkaa
open Go.RowKit Go.PlainAid Go.Sort
def limO (o : Option (List Vv)) : Option (List Vv) := o.bind fun R => if R.length ≤ 41 then some R else none
/-- What is left of one library's places, and of the others. -/
def gY2 (g h : Nat → Option (List Vv)) (acc : List Vv) (M T : List Nat) : Option (List Vv) := (gL h M).bind fun y => gY g (acc ++ y) T
theorem gY2_end (g h : Nat → Option (List Vv)) (acc : List Vv) (T : List Nat) : gY2 g h acc [] T = gY g acc T := by simp [gY2, gL]
theorem gY2_none {g h : Nat → Option (List Vv)} {acc : List Vv} {p : Nat} {t T : List Nat} (e : h p = none) : gY2 g h acc (p :: t) T = none := by unfold gY2; rw [gL, e]; rfl
theorem gY2_some {g h : Nat → Option (List Vv)} {acc : List Vv} {p : Nat} {t T : List Nat} {x : List Vv} (e : h p = some x) : gY2 g h acc (p :: t) T = gY2 g h (acc ++ x) t T := by
  unfold gY2; rw [gL, e]; cases gL h t <;> simp
theorem gY_start2 {g h : Nat → Option (List Vv)} {acc : List Vv} {p : Nat} {t M : List Nat} (e : g p = gL h M) : gY g acc (p :: t) = gY2 g h acc M t := by
  unfold gY2
  rw [← e]
  cases hh : g p with
  | none => exact gY_none hh
  | some x => exact gY_some hh
theorem gY_ge {g : Nat → Option (List Vv)} {acc : List Vv} {L : List Nat} {R : List Vv} (h : gY g acc L = some R) : acc.length ≤ R.length := by
  unfold gY at h
  obtain ⟨x, _, rfl⟩ := Option.map_eq_some_iff.1 h
  simp
theorem gY2_over {g h : Nat → Option (List Vv)} {acc : List Vv} {M T : List Nat} (hl : 41 < acc.length) : limO (gY2 g h acc M T) = none := by
  unfold limO gY2
  cases gL h M with
  | none => rfl
  | some y =>
    simp only [Option.bind_some]
    cases hh : gY g (acc ++ y) T with
    | none => rfl
    | some R =>
      have := gY_ge hh
      rw [List.length_append] at this
      simp only [Option.bind_some]
      rw [if_neg (by omega)]
theorem askO_no {l : List UInt8} {ps : List Ph} {S f : List UInt8} {a : Nat} (h : txtB S (rd (rc l ps a 16) 8 4) = false) : askO l ps S f a = none := by unfold askO; rw [h]; rfl
theorem askO_yes {l : List UInt8} {ps : List Ph} {S f : List UInt8} {a : Nat} (h : txtB S (rd (rc l ps a 16) 8 4) = true) : askO l ps S f a = some [⟨rd (rc l ps a 16) 6 2, txtS S (rd (rc l ps a 16) 8 4), f⟩] := by unfold askO; rw [h]; rfl
theorem libO_no {l : List UInt8} {ps : List Ph} {S : List UInt8} {a : Nat} (h : libB l ps S a = false) : libO l ps S a = none := by unfold libO; rw [h]; rfl
theorem libO_row {l : List UInt8} {ps : List Ph} {S : List UInt8} {a : Nat} (h : (rowZ l ps 16 12 (rd (rc l ps a 16) 2 2) (a + rd (rc l ps a 16) 8 4)).2 = false) : libO l ps S a = none := by
  unfold libO rowG; rw [h]; split <;> rfl
theorem libO_yes {l : List UInt8} {ps : List Ph} {S : List UInt8} {a : Nat} (hb : libB l ps S a = true) (h : (rowZ l ps 16 12 (rd (rc l ps a 16) 2 2) (a + rd (rc l ps a 16) 8 4)).2 = true) :
    libO l ps S a = gL (askO l ps S (libF l ps S a)) (rowZ l ps 16 12 (rd (rc l ps a 16) 2 2) (a + rd (rc l ps a 16) 8 4)).1 := by
  unfold libO rowG; rw [hb, h]; rfl
theorem append_vr2 {ops : Array Oper} {rest : List Oper} {o : Oper} {a : Act} {Q : Exit → Act → World → Prop} (hgd : o.guard = none) (s x : Operand)
    (ho : o.op = .call { callee := .builtin .append, args := #[s, x], argTypes := #[64, 64] })
    (B : Nat) (wr : World) (v : Value) (l : List Vv) (hown : OwnV 69 .u64 wr B v l) (e : Vv) (hs : a.eval s = v)
    (q : Nat) (hq : q = wr.heap.size) (hx : a.eval x = .slice (some ⟨q, 0, none⟩) 1 1) (hlen : l.length ≤ 1000000) (hB : B ≤ wr.heap.size)
    (h : ∀ v' w', OwnV 69 .u64 w' B v' (l ++ [e]) → wr.grownBy w' v.ownBlock → (v'.ownBlock = v.ownBlock ∨ ∃ k, v'.ownBlock = some k ∧ wr.heap.size ≤ k) → wpList Try.prog ops Q rest (a.put o.dst v') w') :
    wpList Try.prog ops Q (o :: rest) a (wr.alloc (.cells (e.cells .u64).toArray 69)) := by
  subst hq
  obtain ⟨i, hi, hz0, hz1, hz2⟩ := info_parts info_vr
  obtain ⟨v', w', hr, h2, h3, _, h5⟩ := run_append_own_at (P := Try.prog) (wr.alloc (.cells (e.cells .u64).toArray 69)) B 64 o.type 69 i _ 3 40 Try.underlying64 hi hz0 hz1 hz2 rfl (by decide) v l.length (flatV .u64 l) (World.ownsRow.alloc hown _) ⟨wr.heap.size, 0, none⟩ 1 1 (e.cells .u64) rfl
    (fun j u hj => by rw [add_at, Nat.zero_add, World.cell?_alloc_at _ _ _ _ (by simp)]; simpa using hj) (e.one _) (by unfold maxLen; omega) (by omega) (by simp; omega)
  refine wpList_plain hgd fun K hK => ?_
  unfold Oper.wp execOp
  simp only [ho, resolve, invoke, builtin, Sem.run_bind, Sem.run_pure, Result.andThen_ok, List.map_toArray, List.map_cons, List.map_nil, hs, hx, hr]
  refine hK _ _ (h v' w' ?_ (grown_alloc h3) ?_)
  · unfold OwnV
    rw [List.length_append, flatV_app]
    simpa [flatV] using h2
  · rcases h5 with e | e
    · exact .inl e
    · exact .inr ⟨_, e, by simp⟩
theorem built_v3 (x : Int) (y z : ByteArray) : Try.prog.built 69 [(0, .int .u64 x), (1, .string y), (2, .string z)] = some #[.int .u64 x, .string y, .string z] := by kernel_rfl
set_option maxHeartbeats 8000000 in
set_option maxRecDepth 20000 in
theorem rf_asked (w : World) (q : Rp) (hk : Rf w q) (a many : Nat) (ha : a < 18446744073709551616) (hm : many ≤ 60000) :
    Calls Try.prog 52 #[.agg q.fC.toArray, .int .u64 (a : Nat), .int .u64 (many : Nat)] w fun e w' =>
      GIs w' w.heap.size (limO (gL (libO q.l q.ps q.S) (rowZ q.l q.ps 16 12 many a).1)) (rowZ q.l q.ps 16 12 many a).2 e ∧ Below w.heap.size w w' := by
  have HB := hide (below1 w (.cells q.fC.toArray 117))
  have HZ : Hid ((w.alloc (.cells q.fC.toArray 117)).heap[w.heap.size]? = some (.cells q.fC.toArray 117 (0, 0))) := heap_alloc_new _ _
  have HK := hide hk
  have hrow := rf_row (w.alloc (.cells q.fC.toArray 117)) q (hk.below HB.out) a many 16 12 ha (by omega) (by decide) (by decide)
  have HME := hide (fun many a p hp => rc_lo hk.k.lo (row_mem (l := q.l) (ps := q.ps) (long := 16) (next := 12) many a p hp))
  have HME1 := hide (HME.out many a)
  have HLN : Hid ((rowZ q.l q.ps 16 12 many a).1.length ≤ 60000) := Nat.le_trans (row_len _ _ _ _ _ _) hm
  obtain ⟨⟨L, ok⟩, hL⟩ : ∃ P, rowZ q.l q.ps 16 12 many a = P := ⟨_, rfl⟩
  rw [hL] at hrow HME1 HLN ⊢
  simp only at hrow HME1 HLN ⊢
  obtain ⟨O, hO⟩ : ∃ O, limO (gL (libO q.l q.ps q.S) L) = O := ⟨_, rfl⟩
  have HO : Hid (limO (gY (libO q.l q.ps q.S) [] (L.drop 0)) = O) := by rw [Hid, List.drop_zero, gY_start]; exact hO
  rw [hO]
  clear hk hL hO ha
  go_enter Try.func52, Try.ntmps52
  go_wp2_with ((with_reducible refine at_loadF ?_); refine load_row rfl _ _ rfl w.heap.size _ (load_fc HZ.out) rfl ?_)
  refine hrow.mono ?_
  rintro e w1 ⟨⟨vl, rfl, ownL⟩, hb1⟩
  have HB1 := hide (HB.out.trans (hb1.mono HB.out.size))
  have HZ1 := hide (block_stay HZ.out hb1)
  have HA1 := hide (ownL.arg (by have := HLN.out; omega))
  obtain ⟨la, ln, lc, rfl, hln⟩ : ∃ a n c, vl = .slice a n c ∧ L.length = n := by obtain ⟨a, c, e⟩ := HA1.out.form; exact ⟨a, _, c, e, rfl⟩
  have hlb : ln ≤ 60000 := by rw [← hln]; exact HLN.out
  have HNL := hide hln
  clear hrow hb1 ownL HB HZ hln
  go_wp2
  go_loopw [10, 11] (fun v10 v11 wr => ∃ (i : Nat) (acc : List Vv), v11 = .int .i64 i ∧ i ≤ ln ∧ Hid (acc.length ≤ 41) ∧ Hid (Below w1.heap.size w1 wr) ∧ Hid (OwnV 69 .u64 wr w1.heap.size v10 acc) ∧ Hid (limO (gY (libO q.l q.ps q.S) acc (L.drop i)) = O))
    (fun _ v11 _ => ln - (intOf v11).toNat)
  case atStart => exact ⟨0, [], rfl, by omega, by unfold Hid; simp, Below.refl _ _, OwnV.nil _ _ _ _, HO⟩
  case round =>
    obtain ⟨i, acc, rfl, hi, HL, HBr, HOW, HR⟩ := hrel
    clear HO
    by_cases hlt : i < ln
    · have hltI : (i : Int) < (ln : Int) := by omega
      have hil : i < L.length := by rw [HNL.out]; exact hlt
      obtain ⟨g, hga, p1, p2, hgl, y0⟩ := HA1.out.at i hil
      subst hga
      rw [HNL.out] at p1
      have hpl := HME1.out _ (List.getElem_mem hil)
      have hR := HR.out
      rw [List.drop_eq_getElem_cons hil] at hR
      obtain ⟨p, hp⟩ : ∃ p, L[i] = p := ⟨_, rfl⟩
      rw [hp] at y0 hpl hR
      have HBK : Hid (∀ X, Below wr.heap.size wr X → X.heap[w.heap.size]? = some (.cells q.fC.toArray 117 (0, 0))) := fun X hX => block_stay HZ1.out (HBr.out.trans (hX.mono HBr.out.size))
      have HYC : Hid (∀ X, Below wr.heap.size wr X → X.cell? ⟨g, i, none⟩ = some (.int .u64 p)) := fun X hX => ((HBr.out.trans (hX.mono HBr.out.size)).cell (p := ⟨g, i, none⟩) hgl).trans y0
      have HKX : Hid (∀ X, Below wr.heap.size wr X → Rf X q) := fun X hX => HK.out.below (HB1.out.trans ((HBr.out.trans (hX.mono HBr.out.size)).mono HB1.out.size))
      have hp0 : p < 18446744073709551616 := by omega
      have HN0 := hide (fun X hX => rf_n X q (HKX.out X hX) p 16 0 2 hp0 (by decide) (by decide) (by decide) (by decide))
      have HN2 := hide (fun X hX => rf_n X q (HKX.out X hX) p 16 2 2 hp0 (by decide) (by decide) (by decide) (by decide))
      have HN4 := hide (fun X hX => rf_n X q (HKX.out X hX) p 16 4 4 hp0 (by decide) (by decide) (by decide) (by decide))
      have HN8 := hide (fun X hX => rf_n X q (HKX.out X hX) p 16 8 4 hp0 (by decide) (by decide) (by decide) (by decide))
      have hx4 := rd4 (rc q.l q.ps p 16) 4
      have hx8 := rd4 (rc q.l q.ps p 16) 8
      have hx2 := rd2 (rc q.l q.ps p 16) 2
      have HTX := hide (fun X hX => rf_text X q (HKX.out X hX) (rd (rc q.l q.ps p 16) 4 4) (by omega))
      have HRW := hide (fun X hX => rf_row X q (HKX.out X hX) (p + rd (rc q.l q.ps p 16) 8 4) (rd (rc q.l q.ps p 16) 2 2) 16 12 (by omega) (by omega) (by decide) (by decide))
      have HLB : Hid (libB q.l q.ps q.S p = (decide (rd (rc q.l q.ps p 16) 0 2 = 1) && txtB q.S (rd (rc q.l q.ps p 16) 4 4))) := rfl
      have HLF : Hid (libF q.l q.ps q.S p = txtS q.S (rd (rc q.l q.ps p 16) 4 4)) := rfl
      have HNO := hide (fun hh => libO_no (l := q.l) (ps := q.ps) (S := q.S) (a := p) hh)
      have HNR := hide (fun hh => libO_row (l := q.l) (ps := q.ps) (S := q.S) (a := p) hh)
      have HYE := hide (fun hb hh => libO_yes (l := q.l) (ps := q.ps) (S := q.S) (a := p) hb hh)
      have HML : Hid ((rowZ q.l q.ps 16 12 (rd (rc q.l q.ps p 16) 2 2) (p + rd (rc q.l q.ps p 16) 8 4)).1.length ≤ 65536) := Nat.le_trans (row_len _ _ _ _ _ _) (by omega)
      have HMM := hide (HME.out (rd (rc q.l q.ps p 16) 2 2) (p + rd (rc q.l q.ps p 16) 8 4))
      have HGN : Hid (libO q.l q.ps q.S p = none → none = O) := fun hh => by rw [← hR, gY_none hh]; rfl
      have HGS : Hid (∀ h M, libO q.l q.ps q.S p = gL h M → limO (gY2 (libO q.l q.ps q.S) h acc M (L.drop (i + 1))) = O) := fun h M hh => by rw [← hR, gY_start2 hh]
      generalize rcB q.l q.ps p 16 = b16 at *
      generalize rc q.l q.ps p 16 = X16 at *
      obtain ⟨n8, h8⟩ : ∃ n, rd X16 8 4 = n := ⟨_, rfl⟩
      obtain ⟨n2, h2⟩ : ∃ n, rd X16 2 2 = n := ⟨_, rfl⟩
      obtain ⟨n4, h4⟩ : ∃ n, rd X16 4 4 = n := ⟨_, rfl⟩
      obtain ⟨n0, h0⟩ : ∃ n, rd X16 0 2 = n := ⟨_, rfl⟩
      rw [h8] at HN8 hx8
      rw [h2] at HN2 hx2
      rw [h4] at HN4 HTX HLB HLF hx4
      rw [h0] at HN0 HLB
      rw [h8, h2] at HRW HNR HYE HML HMM
      obtain ⟨⟨M, rb⟩, hM⟩ : ∃ P, rowZ q.l q.ps 16 12 n2 (p + n8) = P := ⟨_, rfl⟩
      rw [hM] at HRW HNR HYE HML HMM
      simp only at HRW HNR HYE HML HMM
      obtain ⟨tb, htb⟩ : ∃ b, txtB q.S n4 = b := ⟨_, rfl⟩
      rw [htb] at HTX HLB
      rw [← HLF.out] at HTX
      have hpI : (p : Int) ≤ 16384 := by omega
      have h8I : (n8 : Int) ≤ 4294967295 := by omega
      have hnc : ((p + n8 : Nat) : Int) = (p : Int) + (n8 : Int) := Int.natCast_add _ _
      rw [hnc] at HRW
      clear h8 h2 h4 h0 hM htb hnc hR HR hp y0 hil hpl hp0 HLF
      generalize libF q.l q.ps q.S p = fr at *
      have HB0 : Hid (Below wr.heap.size wr wr) := Below.refl _ _
      go_upto_region 6 with fail
      refine rgtA6 wr q w.heap.size g i p ln lc n0 b16 (HBK.out _ HB0.out) (HYC.out _ HB0.out) p1 p2 hltI (fun X hX => HN0.out X (HB0.out.trans (hX.mono HB0.out.size))) _ _ _ _ _ _ _ _ _ _ _ _ _ _ _ _ _ _ _ _ _ _ _ _ _ _ _ _ _ _ _ _ _ _ _ _ _ _ _ _ _ _ _ _ _ _ _ _ _ _ _ _ _ _ _ _ _ _ _ _ _ _ _ _ _ _ _ _ _ _ _ _ _ _ _ _ _ _ _ _ _ _ _ _ _ _ _ _ _ _ _ _ _ _ _ _ _ _ _ _ _ _ _ _ _ _ _ _ _ _ _ _ _ _ _ _ _ _ _ _ _ _ _ _ _ _ _ _ _ _ _ _ _ _ _ _ _ _ _ _ _ _ _ _ _ _ _ _ _ _ _ _ _ ?_
      intro v1 u44 u45 u46 u47 u48 u49 u50 u51 u52 hb
      have HV1 := hide (HB0.out.trans (hb.mono HB0.out.size))
      clear hb
      go_upto_region 7 with fail
      refine rgtA7 v1 q w.heap.size g i p ln lc n2 b16 (HBK.out _ HV1.out) (HYC.out _ HV1.out) p1 p2 hltI (fun X hX => HN2.out X (HV1.out.trans (hX.mono HV1.out.size))) _ _ _ _ _ _ _ _ _ _ _ _ _ _ _ _ _ _ _ _ _ _ _ _ _ _ _ _ _ _ _ _ _ _ _ _ _ _ _ _ _ _ _ _ _ _ _ _ _ _ _ _ _ _ _ _ _ _ _ _ _ _ _ _ _ _ _ _ _ _ _ _ _ _ _ _ _ _ _ _ _ _ _ _ _ _ _ _ _ _ _ _ _ _ _ _ _ _ _ _ _ _ _ _ _ _ _ _ _ _ _ _ _ _ _ _ _ _ _ _ _ _ _ _ _ _ _ _ _ _ _ _ _ _ _ _ _ _ _ _ _ _ _ _ _ _ _ _ _ _ _ _ _ ?_
      intro v2 u53 u54 u55 u56 u57 u58 u59 u60 u61 hb
      have HV2 := hide (HV1.out.trans (hb.mono HV1.out.size))
      clear hb
      go_upto_region 8 with fail
      refine rgtA8 v2 q w.heap.size g i p ln lc n4 b16 (HBK.out _ HV2.out) (HYC.out _ HV2.out) p1 p2 hltI (fun X hX => HN4.out X (HV2.out.trans (hX.mono HV2.out.size))) _ _ _ _ _ _ _ _ _ _ _ _ _ _ _ _ _ _ _ _ _ _ _ _ _ _ _ _ _ _ _ _ _ _ _ _ _ _ _ _ _ _ _ _ _ _ _ _ _ _ _ _ _ _ _ _ _ _ _ _ _ _ _ _ _ _ _ _ _ _ _ _ _ _ _ _ _ _ _ _ _ _ _ _ _ _ _ _ _ _ _ _ _ _ _ _ _ _ _ _ _ _ _ _ _ _ _ _ _ _ _ _ _ _ _ _ _ _ _ _ _ _ _ _ _ _ _ _ _ _ _ _ _ _ _ _ _ _ _ _ _ _ _ _ _ _ _ _ _ _ _ _ _ ?_
      intro v3 u62 u63 u64 u65 u66 u67 u68 u69 u70 hb
      have HV3 := hide (HV2.out.trans (hb.mono HV2.out.size))
      clear hb
      go_upto_region 9 with fail
      refine rgtA9 v3 q w.heap.size g i p ln lc n8 b16 (HBK.out _ HV3.out) (HYC.out _ HV3.out) p1 p2 hltI (fun X hX => HN8.out X (HV3.out.trans (hX.mono HV3.out.size))) _ _ _ _ _ _ _ _ _ _ _ _ _ _ _ _ _ _ _ _ _ _ _ _ _ _ _ _ _ _ _ _ _ _ _ _ _ _ _ _ _ _ _ _ _ _ _ _ _ _ _ _ _ _ _ _ _ _ _ _ _ _ _ _ _ _ _ _ _ _ _ _ _ _ _ _ _ _ _ _ _ _ _ _ _ _ _ _ _ _ _ _ _ _ _ _ _ _ _ _ _ _ _ _ _ _ _ _ _ _ _ _ _ _ _ _ _ _ _ _ _ _ _ _ _ _ _ _ _ _ _ _ _ _ _ _ _ _ _ _ _ _ _ _ _ _ _ _ _ _ _ _ _ ?_
      intro v4 u71 u72 u73 u74 u75 u76 u77 u78 u79 hb
      have HV4 := hide (HV3.out.trans (hb.mono HV3.out.size))
      clear hb
      have kt := HTX.out v4 HV4.out
      have HZ4 := hide (HBK.out v4 HV4.out)
      clear HN0 HN2 HN4 HN8 HTX
      go_wp2_with ((with_reducible refine at_loadF ?_); refine load_row rfl _ _ rfl w.heap.size _ (load_fc HZ4.out) rfl ?_)
      refine kt.mono ?_
      rintro e v5 ⟨rfl, hb5⟩
      have HV5 := hide (HV4.out.trans (hb5.mono HV4.out.size))
      clear kt hb5 HV1 HV2 HV3 HV4 HB0 HZ4
      go_upto_region 11 with fail
      refine rgtA11 v5 q w.heap.size g i p ln lc n8 n2 rb M HML.out (HBK.out _ HV5.out) (HYC.out _ HV5.out) p1 p2 hltI hpI h8I (fun X hX => HRW.out X (HV5.out.trans (hX.mono HV5.out.size))) _ _ _ _ _ _ _ _ _ _ _ _ _ _ _ _ _ _ _ _ _ _ _ _ _ _ _ _ _ _ _ _ _ _ _ _ _ _ _ _ _ _ _ _ _ _ _ _ _ _ _ _ _ _ _ _ _ _ _ _ _ _ _ _ _ _ _ _ _ _ _ _ _ _ _ _ _ _ _ _ _ _ _ _ _ _ _ _ _ _ _ _ _ _ _ _ _ _ _ _ _ _ _ _ _ _ _ _ _ _ _ _ _ _ _ _ _ _ _ _ _ _ _ _ _ _ _ _ _ _ _ _ _ _ _ _ _ _ _ _ _ _ _ _ _ _ _ _ _ _ _ ?_
      intro v6 xa xn xc u86 u87 u88 u89 u90 u91 u92 u93 u94 u95 u96 u97 om hb6
      have HV6 := hide (HV5.out.trans (hb6.mono HV5.out.size))
      have HM6 := hide om
      have HAP : Hid (∀ k, u10.ownBlock = some k → (Value.slice xa xn xc).ownBlock ≠ some k) := fun k hk e => by
        have h1 := (World.ownsRow.lt HOW.out k hk).2
        have h2 := (World.ownsRow.lt om k e).1
        have := HV5.out.size
        omega
      have HB6 : Hid (Below w1.heap.size w1 v6) := HBr.out.trans (HV6.out.mono HBr.out.size)
      have HO6 := hide (HOW.out.stay HV6.out)
      have HW6 : Hid (Below w.heap.size w v6) := HB1.out.trans (HB6.out.mono HB1.out.size)
      clear om hb6 HRW HBK HYC HKX HV5 HV6 HOW
      by_cases hbad : libB q.l q.ps q.S p = false ∨ rb = false
      · have HN : Hid (none = O) := HGN.out (by rcases hbad with e | e; exact HNO.out e; exact HNR.out e)
        have hcs : n0 ≠ 1 ∨ (n0 = 1 ∧ tb = false) ∨ (n0 = 1 ∧ tb = true ∧ rb = false) := by
          rw [HLB.out] at hbad
          by_cases e0 : n0 = 1
          · cases tb with
            | false => exact .inr (.inl ⟨e0, rfl⟩)
            | true =>
              rw [decide_eq_true e0] at hbad
              rcases hbad with e | e
              · cases e
              · exact .inr (.inr ⟨e0, rfl, e⟩)
          · exact .inl e0
        clear hbad HLB HNO HNR HYE HGN HGS
        rcases hcs with e0 | ⟨rfl, rfl⟩ | ⟨rfl, rfl, rfl⟩
        · have k0 : ((n0 : Int) != 1) = true := by simp; omega
          clear e0
          go_wp2
          go_ret2
          exact ⟨by rw [← HN.out]; rfl, HW6.out⟩
        · go_wp2
          go_ret2
          exact ⟨by rw [← HN.out]; rfl, HW6.out⟩
        · go_wp2
          go_ret2
          exact ⟨by rw [← HN.out]; rfl, HW6.out⟩
      · have hok : libB q.l q.ps q.S p = true := by cases hh : libB q.l q.ps q.S p; exact absurd (.inl hh) hbad; rfl
        have hrb : rb = true := by cases rb; exact absurd (.inr rfl) hbad; rfl
        have hT := hok
        rw [HLB.out] at hT
        simp only [Bool.and_eq_true, decide_eq_true_eq] at hT
        obtain ⟨e0, et⟩ := hT
        have HR2 : Hid (limO (gY2 (libO q.l q.ps q.S) (askO q.l q.ps q.S fr) acc (M.drop 0) (L.drop (i + 1))) = O) := by rw [Hid, List.drop_zero]; exact HGS.out _ _ (HYE.out hok hrb)
        have k0 : ((n0 : Int) != 1) = false := by rw [e0]; rfl
        clear e0
        subst et hrb
        obtain ⟨mn, hmn⟩ : ∃ n, M.length = n := ⟨_, rfl⟩
        have hxn : xn = mn := by obtain ⟨a, c, e⟩ := (HM6.out.arg HML.out).form; injection e with _ e2 _; rw [e2, hmn]
        subst hxn
        have hml : xn ≤ 65536 := by rw [← hmn]; exact HML.out
        have HMN := hide hmn
        clear hbad hok HLB HNO HNR HYE HGN HGS hmn
        go_wp2
        go_loopw [10, 24] (fun v10 v24 wq => ∃ (j : Nat) (ac : List Vv), v24 = .int .i64 j ∧ j ≤ xn ∧ Hid (ac.length ≤ 41) ∧ Hid (OwnU wq v5.heap.size (.slice xa xn xc) M) ∧ Hid (∀ k, v10.ownBlock = some k → (Value.slice xa xn xc).ownBlock ≠ some k) ∧ Hid (Below w1.heap.size w1 wq) ∧ Hid (OwnV 69 .u64 wq w1.heap.size v10 ac) ∧ Hid (limO (gY2 (libO q.l q.ps q.S) (askO q.l q.ps q.S fr) ac (M.drop j) (L.drop (i + 1))) = O))
          (fun _ v24 _ => xn - (intOf v24).toNat)
        case atStart => exact ⟨0, acc, rfl, by omega, HL, HM6, HAP, HB6, HO6, HR2⟩
        case round =>
          obtain ⟨j, ac, rfl, hj, HL2, HMq, HAQ, HBq, HOq, HRq⟩ := hrel
          clear HR2 HO6 HL HM6 HAP
          by_cases hlj : j < xn
          · have hljI : (j : Int) < (xn : Int) := by omega
            have hjl : j < M.length := by rw [HMN.out]; exact hlj
            obtain ⟨g2, hga2, m1, m2, hgl2, z0⟩ := (HMq.out.arg HML.out).at j hjl
            subst hga2
            rw [HMN.out] at m1
            have hpl2 := HMM.out _ (List.getElem_mem hjl)
            have hR := HRq.out
            rw [List.drop_eq_getElem_cons hjl] at hR
            obtain ⟨p3, hp3⟩ : ∃ p, M[j] = p := ⟨_, rfl⟩
            rw [hp3] at z0 hpl2 hR
            have HBK : Hid (∀ X, Below wr.heap.size wr X → X.heap[w.heap.size]? = some (.cells q.fC.toArray 117 (0, 0))) := fun X hX => block_stay HZ1.out (HBq.out.trans (hX.mono HBq.out.size))
            have HYC : Hid (∀ X, Below wr.heap.size wr X → X.cell? ⟨g2, j, none⟩ = some (.int .u64 p3)) := fun X hX => (hX.cell (p := ⟨g2, j, none⟩) hgl2).trans z0
            have HKX : Hid (∀ X, Below wr.heap.size wr X → Rf X q) := fun X hX => HK.out.below (HB1.out.trans ((HBq.out.trans (hX.mono HBq.out.size)).mono HB1.out.size))
            have hp0 : p3 < 18446744073709551616 := by omega
            have HN6 := hide (fun X hX => rf_n X q (HKX.out X hX) p3 16 6 2 hp0 (by decide) (by decide) (by decide) (by decide))
            have HN8 := hide (fun X hX => rf_n X q (HKX.out X hX) p3 16 8 4 hp0 (by decide) (by decide) (by decide) (by decide))
            have hy8 := rd4 (rc q.l q.ps p3 16) 8
            have HTX := hide (fun X hX => rf_text X q (HKX.out X hX) (rd (rc q.l q.ps p3 16) 8 4) (by omega))
            have HGN : Hid (txtB q.S (rd (rc q.l q.ps p3 16) 8 4) = false → none = O) := fun hh => by rw [← hR, gY2_none (askO_no hh)]; rfl
            have HGS : Hid (txtB q.S (rd (rc q.l q.ps p3 16) 8 4) = true → limO (gY2 (libO q.l q.ps q.S) (askO q.l q.ps q.S fr) (ac ++ [⟨rd (rc q.l q.ps p3 16) 6 2, txtS q.S (rd (rc q.l q.ps p3 16) 8 4), fr⟩]) (M.drop (j + 1)) (L.drop (i + 1))) = O) := fun hh => by rw [← hR, gY2_some (askO_yes hh)]
            generalize rcB q.l q.ps p3 16 = b3 at *
            generalize rc q.l q.ps p3 16 = X3 at *
            obtain ⟨m6, h6⟩ : ∃ n, rd X3 6 2 = n := ⟨_, rfl⟩
            obtain ⟨m8, h8⟩ : ∃ n, rd X3 8 4 = n := ⟨_, rfl⟩
            rw [h6] at HN6 HGS
            rw [h8] at HN8 HGS HGN HTX hy8
            obtain ⟨ts, hts⟩ : ∃ b, txtB q.S m8 = b := ⟨_, rfl⟩
            rw [hts] at HTX HGN HGS
            obtain ⟨oa, on, oc, hov, hol⟩ : ∃ a n c, u10 = .slice a n c ∧ ac.length = n := by obtain ⟨a, c, e⟩ := HOq.out.form; exact ⟨a, _, c, e, rfl⟩
            subst hov
            have hon : on ≤ 41 := by rw [← hol]; exact HL2.out
            have HOL := hide hol
            clear h6 h8 hts hR HRq hp3 z0 hjl hpl2 hp0 hol
            have HB0 : Hid (Below wr.heap.size wr wr) := Below.refl _ _
            go_upto_region 17 with fail
            refine rgtA17 wr q w.heap.size g2 j p3 xn xc m6 b3 (HBK.out _ HB0.out) (HYC.out _ HB0.out) m1 m2 hljI (fun X hX => HN6.out X (HB0.out.trans (hX.mono HB0.out.size))) _ _ _ _ _ _ _ _ _ _ _ _ _ _ _ _ _ _ _ _ _ _ _ _ _ _ _ _ _ _ _ _ _ _ _ _ _ _ _ _ _ _ _ _ _ _ _ _ _ _ _ _ _ _ _ _ _ _ _ _ _ _ _ _ _ _ _ _ _ _ _ _ _ _ _ _ _ _ _ _ _ _ _ _ _ _ _ _ _ _ _ _ _ _ _ _ _ _ _ _ _ _ _ _ _ _ _ _ _ _ _ _ _ _ _ _ _ _ _ _ _ _ _ _ _ _ _ _ _ _ _ _ _ _ _ _ _ _ _ _ _ _ _ _ _ _ _ _ _ _ _ _ _ ?_
            intro z1 u114 u115 u116 u117 u118 u119 u120 u121 u122 hb
            have HZv1 := hide (HB0.out.trans (hb.mono HB0.out.size))
            clear hb
            go_upto_region 18 with fail
            refine rgtA18 z1 q w.heap.size g2 j p3 xn xc m8 b3 (HBK.out _ HZv1.out) (HYC.out _ HZv1.out) m1 m2 hljI (fun X hX => HN8.out X (HZv1.out.trans (hX.mono HZv1.out.size))) _ _ _ _ _ _ _ _ _ _ _ _ _ _ _ _ _ _ _ _ _ _ _ _ _ _ _ _ _ _ _ _ _ _ _ _ _ _ _ _ _ _ _ _ _ _ _ _ _ _ _ _ _ _ _ _ _ _ _ _ _ _ _ _ _ _ _ _ _ _ _ _ _ _ _ _ _ _ _ _ _ _ _ _ _ _ _ _ _ _ _ _ _ _ _ _ _ _ _ _ _ _ _ _ _ _ _ _ _ _ _ _ _ _ _ _ _ _ _ _ _ _ _ _ _ _ _ _ _ _ _ _ _ _ _ _ _ _ _ _ _ _ _ _ _ _ _ _ _ _ _ _ _ ?_
            intro z2 u123 u124 u125 u126 u127 u128 u129 u130 u131 hb
            have HZv2 := hide (HZv1.out.trans (hb.mono HZv1.out.size))
            clear hb
            have kt := HTX.out z2 HZv2.out
            have HZ4 := hide (HBK.out z2 HZv2.out)
            clear HN6 HN8 HTX HBK HYC HKX
            go_wp2_with ((with_reducible refine at_loadF ?_); refine load_row rfl _ _ rfl w.heap.size _ (load_fc HZ4.out) rfl ?_)
            refine kt.mono ?_
            rintro e z3 ⟨rfl, hb3⟩
            have HZv3 := hide (HZv2.out.trans (hb3.mono HZv2.out.size))
            have HB3 : Hid (Below w1.heap.size w1 z3) := HBq.out.trans (HZv3.out.mono HBq.out.size)
            have HM3 := hide (HMq.out.stay HZv3.out)
            have HO3 := hide (HOq.out.stay HZv3.out)
            have HW3 : Hid (Below w.heap.size w z3) := HB1.out.trans (HB3.out.mono HB1.out.size)
            clear kt hb3 HZv1 HZv2 HZv3 HB0 HZ4 HOq HBq HMq
            cases ts with
            | false =>
              have HN := hide (HGN.out rfl)
              clear HGN HGS
              go_wp2
              go_ret2
              exact ⟨by rw [← HN.out]; rfl, HW3.out⟩
            | true =>
              have HGO := hide (HGS.out rfl)
              clear HGN HGS
              by_cases h40 : 40 < on
              · have h4I : (40 : Int) < (on : Int) := by omega
                have HN : Hid (none = O) := by rw [Hid, ← HGO.out, gY2_over (by rw [List.length_append, HOL.out]; simp; omega)]
                clear HGO h40
                go_wp2
                go_ret2
                exact ⟨by rw [← HN.out]; rfl, HW3.out⟩
              · have h4I : ¬ (40 : Int) < (on : Int) := by omega
                have hbu := fun (x : Int) (y z : ByteArray) => built_v3 x y z
                have HLA : Hid (ac.length ≤ 40) := by have := HOL.out; unfold Hid; omega
                have HWL : Hid (w1.heap.size ≤ z3.heap.size) := HB3.out.size
                clear h40
                go_wp2_with (at_builtin; refine append_vr2 rfl _ _ rfl w1.heap.size z3 _ ac HO3.out ⟨m6, txtS q.S m8, fr⟩ rfl _ rfl rfl (by have := HLA.out; omega) HWL.out ?_)
                intro v8 w8 o8 g8 n8'
                have HO8 := hide o8
                have HB8 : Hid (Below w1.heap.size w1 w8) := HB3.out.trans (below_grown g8 (fun k hk => (World.ownsRow.lt HO3.out k hk).1) HWL.out)
                have HM8 := hide (HM3.out.apart g8 (fun k hk e => HAQ.out k e hk))
                have HA8 : Hid (∀ k, v8.ownBlock = some k → (Value.slice (some ⟨g2, 0, none⟩) xn xc).ownBlock ≠ some k) := fun k hk e => by
                  rcases n8' with e8 | ⟨k8, e8, hk8⟩
                  · exact HAQ.out k (e8 ▸ hk) e
                  · have h2 := (World.ownsRow.lt HM3.out k e).2
                    rw [e8] at hk; injection hk with hk; omega
                clear o8 g8 n8' hbu
                go_wp2
                go_roundw
                case rel => exact ⟨j + 1, ac ++ [⟨m6, txtS q.S m8, fr⟩], by go_num, by omega, by have := HLA.out; unfold Hid; simp; omega, HM8, HA8, HB8, HO8, HGO⟩
                case measure => simp [intOf]; omega
          · have hljI : ¬ (j : Int) < (xn : Int) := by omega
            have hR := HRq.out
            rw [List.drop_eq_nil_of_le (by have := HMN.out; omega), gY2_end] at hR
            have HR3 := hide hR
            clear hR HRq
            go_wp2
            go_roundw
            case rel => exact ⟨i + 1, ac, by go_num, by omega, HL2, HBq, HOq, HR3⟩
            case measure => simp [intOf]; omega
    · have hltI : ¬ (i : Int) < (ln : Int) := by omega
      have hR := HR.out
      rw [List.drop_eq_nil_of_le (by have := HNL.out; omega), gY_end] at hR
      have hR2 : some acc = O := by rw [← hR]; unfold limO; simp only [Option.bind_some]; rw [if_pos HL.out]
      have HR2 := hide hR2
      clear hR hR2 HR
      go_wp2
      go_ret2
      exact ⟨by rw [← HR2.out]; exact ⟨_, rfl, HOW.out.low (by have := HB1.out.size; omega)⟩, HB1.out.trans (HBr.out.mono HB1.out.size)⟩
end Go.Proofs.Ytdclofiifcpkkaa
namespace Go.Proofs.Ytdclofiifcpkkaa
open Go.RowKit Go.PlainAid Go.Sort
theorem apart_iff : ∀ A : List Vv, apartB A = true ↔ A.Pairwise (fun x y => y.num ≠ x.num)
  | [] => by simp [apartB]
  | v :: t => by
    rw [apartB, Bool.and_eq_true, List.pairwise_cons, apart_iff t]
    simp
theorem good_iff (A : List Vv) : goodB A = true ↔ A.length ≤ 32 ∧ (∀ i (h : i < A.length), 2 ≤ A[i].num ∧ A[i].num ≤ 32767) ∧ ∀ k i (hk : k < A.length) (hi : i < A.length), k < i → A[k].num ≠ A[i].num := by
  unfold goodB
  rw [Bool.and_eq_true, Bool.and_eq_true, apart_iff, List.pairwise_iff_getElem, decide_eq_true_eq, List.all_eq_true]
  constructor
  · rintro ⟨⟨h1, h2⟩, h3⟩
    refine ⟨h1, fun i h => ?_, fun k i hk hi hlt e => h3 k i hk hi hlt e.symm⟩
    have := h2 _ (List.getElem_mem h)
    simpa using this
  · rintro ⟨h1, h2, h3⟩
    refine ⟨⟨h1, fun x hx => ?_⟩, fun k i hk hi hlt e => h3 k i hk hi hlt e.symm⟩
    obtain ⟨i, hi, rfl⟩ := List.getElem_of_mem hx
    simpa using h2 i hi
theorem append_vs {ops : Array Oper} {rest : List Oper} {o : Oper} {a : Act} {Q : Exit → Act → World → Prop} {wr : World} (hgd : o.guard = none) (s x : Operand)
    (ho : o.op = .call { callee := .builtin .append, args := #[s, x], argTypes := #[64, 64] })
    (B C : Nat) (v vs : Value) (l m : List Vv) (hown : OwnV 69 .u64 wr B v l) (hsrc : OwnV 69 .u64 wr C vs m) (hs : a.eval s = v) (hx : a.eval x = vs) (hlen : l.length + m.length ≤ 1000000) (hB : B ≤ wr.heap.size)
    (h : ∀ v' w', OwnV 69 .u64 w' B v' (l ++ m) → Below B wr w' → wpList Try.prog ops Q rest (a.put o.dst v') w') : wpList Try.prog ops Q (o :: rest) a wr := by
  obtain ⟨i, hi, hz0, hz1, hz2⟩ := info_parts info_vr
  have hb : ∀ k, v.ownBlock = some k → B ≤ k := fun k hk => (World.ownsRow.lt hown k hk).1
  have hc := fun g hg => World.ownsRow.cells hsrc (g := g) hg
  have hsrc2 := hsrc
  unfold OwnV at hsrc2
  rcases hsrc2.2 with ⟨rfl, hn⟩ | ⟨g, cap, cur, rfl, _, _, _⟩
  · have : m = [] := List.length_eq_zero_iff.1 hn
    subst this
    refine wpList_append_own_none (P := Try.prog) hgd s x 64 ho B 69 i 3 Try.underlying64 hi v l.length (flatV .u64 l) hs hown hx ?_
    exact h v wr (by rw [List.append_nil]; exact hown) (Below.refl _ _)
  · obtain ⟨v', w', hr, h2, h3, _, h5⟩ := run_append_own_at (P := Try.prog) wr B 64 o.type 69 i _ 3 40 Try.underlying64 hi hz0 hz1 hz2 rfl (by decide) v l.length (flatV .u64 l) hown ⟨g, 0, none⟩ m.length cap (flatV .u64 m) hsrc.1
      (fun j u hj => hc g rfl j u hj) (fun u hu => by unfold flatV at hu; obtain ⟨y, _, hy⟩ := List.mem_flatMap.1 hu; exact y.one _ u hy) (by unfold maxLen; omega) (by omega) hB
    refine wpList_plain hgd fun K hK => ?_
    unfold Oper.wp execOp
    simp only [ho, resolve, invoke, builtin, Sem.run_bind, Sem.run_pure, Result.andThen_ok, List.map_toArray, List.map_cons, List.map_nil, hs, hx, hr]
    refine hK _ _ (h v' w' ?_ (below_grown h3 hb hB))
    unfold OwnV
    rw [List.length_append, flatV_app]
    exact h2
theorem gL_len {g : Nat → Option (List Vv)} (hg : ∀ p x, g p = some x → x.length ≤ 1) : ∀ (L : List Nat) (R : List Vv), gL g L = some R → R.length ≤ L.length
  | [], R, h => by rw [gL] at h; injection h with h; subst h; simp
  | p :: t, R, h => by
    rw [gL] at h
    cases hp : g p with
    | none => rw [hp] at h; cases h
    | some x =>
      rw [hp] at h
      simp only at h
      obtain ⟨y, hy, rfl⟩ := Option.map_eq_some_iff.1 h
      have := gL_len hg t y hy
      have := hg p x hp
      rw [List.length_append, List.length_cons]; omega
theorem ownG_len {l : List UInt8} {ps : List Ph} {S : List UInt8} {k a : Nat} {o : List Vv} (h : rowG l ps (ownO l ps S) 20 16 k a = some o) : o.length ≤ k := by
  unfold rowG at h
  split at h
  · refine Nat.le_trans (gL_len (fun p x hx => ?_) _ _ h) (row_len _ _ _ _ _ _)
    unfold ownO at hx
    split at hx
    · split at hx <;> (injection hx with hx; subst hx; simp)
    · cases hx
  · cases h
theorem limO_len {x : Option (List Vv)} {a : List Vv} (h : limO x = some a) : a.length ≤ 41 := by
  unfold limO at h
  cases x with
  | none => cases h
  | some y =>
    simp only [Option.bind_some] at h
    by_cases hy : y.length ≤ 41
    · rw [if_pos hy] at h; injection h with h; subst h; exact hy
    · rw [if_neg hy] at h; cases h
def zeroF : List Value := .slice none 0 0 :: (hdCells 0 (.slice none 0 0) noPh noPh ++ [.slice none 0 0])
theorem alloc_F (w : World) : (Instr.alloc 117 true (.tuple #[])).run Try.prog w = .ok (.pointer (some ⟨w.heap.size, 0, none⟩)) (w.alloc (.cells zeroF.toArray 117)) := by kernel_rfl
theorem build_F (w : World) (q : Rp) : (Instr.build 117 #[(0, .slice q.ba q.bn q.bc), (1, .agg (hdCells q.m (.slice q.va q.vn q.vc) q.d q.r).toArray), (2, .slice q.sa q.sn q.sc)]).run Try.prog w = .ok (.agg q.fC.toArray) w := by kernel_rfl
theorem F_size : ∀ w, (Go.sizeOf 117).run Try.prog w = .ok 18 w := Try.sizeOf117
theorem fC_one (q : Rp) : ∀ u ∈ q.fC, u.oneCell' = true := by
  intro u hu
  unfold Rp.fC at hu
  simp only [List.mem_cons, List.mem_append, List.not_mem_nil, or_false] at hu
  rcases hu with rfl | hu | rfl
  · rfl
  · exact hd_one _ _ _ _ _ _ u hu
  · rfl
theorem at_buildF {ops : Array Oper} {rest : List Oper} {a : Act} {Q : Exit → Act → World → Prop} {w : World} {ty : TypeId} {x : Array (Nat × Operand)} {d : Option Tmp} {ps : String} {af : Array Edge}
    (h : wpList Try.prog ops Q ({ dst := d, op := .build 117 x, type := ty, pos := ps, after := af, guard := none } :: rest) a w) : wpList Try.prog ops Q ({ dst := d, op := .build 117 x, type := ty, pos := ps, after := af, guard := none } :: rest) a w := h
theorem at_allocF {ops : Array Oper} {rest : List Oper} {a : Act} {Q : Exit → Act → World → Prop} {w : World} {ty : TypeId} {d : Option Tmp} {ps : String} {af : Array Edge}
    (h : wpList Try.prog ops Q ({ dst := d, op := .alloc 117, type := ty, pos := ps, after := af, guard := none } :: rest) a w) : wpList Try.prog ops Q ({ dst := d, op := .alloc 117, type := ty, pos := ps, after := af, guard := none } :: rest) a w := h
theorem fC_len (q : Rp) : q.fC.length = 18 := rfl
/-- Of versions that are had and that are asked for, all. -/
theorem limO_good {o : List Vv} {x : Option (List Vv)} : (match x with | none => none | some a => if goodB (o ++ a) then some (o ++ a) else none) = (match limO x with | none => none | some a => if goodB (o ++ a) then some (o ++ a) else none) := by
  cases x with
  | none => rfl
  | some a =>
    unfold limO
    simp only [Option.bind_some]
    by_cases h : a.length ≤ 41
    · rw [if_pos h]
    · rw [if_neg h]
      simp only
      rw [if_neg]
      intro hg
      have := ((good_iff _).1 hg).1
      rw [List.length_append] at this
      omega
end Go.Proofs.Ytdclofiifcpkkaa
