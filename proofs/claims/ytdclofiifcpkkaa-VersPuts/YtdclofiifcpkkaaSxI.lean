
/-
  Layer 10's reference: the symbols of a library, or what is wrong with them (that it ends, and what its symbols are: their shape alone). Begun.
-/
import Derived.Test.YtdclofiifcpkkaaSxAll
import Derived.Deep.Cut
import Derived.Deep.RegionHeldLaw
import Derived.BigRegion
import Derived.BigQuiet
import Derived.Test.YtdclofiifcpkkaaSyOne
import Derived.Test.YtdclofiifcpkkaaDyOne
set_option linter.unusedVariables false
namespace Go.Proofs.Ytdclofiifcpkkaa
open Go.RowKit Go.PlainAid Go.Sort
theorem cons_of {l : List Value} {n : Nat} (h : l.length = n + 1) : ∃ a t, l = a :: t ∧ t.length = n := by
  cases l with
  | nil => simp at h
  | cons a t => exact ⟨a, t, rfl, by simpa using h⟩
theorem forty {l : List Value} (h : l.length = 40) : ∃ c0 c1 c2 c3 c4 c5 c6 c7 c8 c9 c10 c11 c12 c13 c14 c15 c16 c17 c18 c19 c20 c21 c22 c23 c24 c25 c26 c27 c28 c29 c30 c31 c32 c33 c34 c35 c36 c37 c38 c39, l = [c0, c1, c2, c3, c4, c5, c6, c7, c8, c9, c10, c11, c12, c13, c14, c15, c16, c17, c18, c19, c20, c21, c22, c23, c24, c25, c26, c27, c28, c29, c30, c31, c32, c33, c34, c35, c36, c37, c38, c39] := by
  obtain ⟨c0, l0, rfl, h0⟩ := cons_of h
  obtain ⟨c1, l1, rfl, h1⟩ := cons_of h0
  obtain ⟨c2, l2, rfl, h2⟩ := cons_of h1
  obtain ⟨c3, l3, rfl, h3⟩ := cons_of h2
  obtain ⟨c4, l4, rfl, h4⟩ := cons_of h3
  obtain ⟨c5, l5, rfl, h5⟩ := cons_of h4
  obtain ⟨c6, l6, rfl, h6⟩ := cons_of h5
  obtain ⟨c7, l7, rfl, h7⟩ := cons_of h6
  obtain ⟨c8, l8, rfl, h8⟩ := cons_of h7
  obtain ⟨c9, l9, rfl, h9⟩ := cons_of h8
  obtain ⟨c10, l10, rfl, h10⟩ := cons_of h9
  obtain ⟨c11, l11, rfl, h11⟩ := cons_of h10
  obtain ⟨c12, l12, rfl, h12⟩ := cons_of h11
  obtain ⟨c13, l13, rfl, h13⟩ := cons_of h12
  obtain ⟨c14, l14, rfl, h14⟩ := cons_of h13
  obtain ⟨c15, l15, rfl, h15⟩ := cons_of h14
  obtain ⟨c16, l16, rfl, h16⟩ := cons_of h15
  obtain ⟨c17, l17, rfl, h17⟩ := cons_of h16
  obtain ⟨c18, l18, rfl, h18⟩ := cons_of h17
  obtain ⟨c19, l19, rfl, h19⟩ := cons_of h18
  obtain ⟨c20, l20, rfl, h20⟩ := cons_of h19
  obtain ⟨c21, l21, rfl, h21⟩ := cons_of h20
  obtain ⟨c22, l22, rfl, h22⟩ := cons_of h21
  obtain ⟨c23, l23, rfl, h23⟩ := cons_of h22
  obtain ⟨c24, l24, rfl, h24⟩ := cons_of h23
  obtain ⟨c25, l25, rfl, h25⟩ := cons_of h24
  obtain ⟨c26, l26, rfl, h26⟩ := cons_of h25
  obtain ⟨c27, l27, rfl, h27⟩ := cons_of h26
  obtain ⟨c28, l28, rfl, h28⟩ := cons_of h27
  obtain ⟨c29, l29, rfl, h29⟩ := cons_of h28
  obtain ⟨c30, l30, rfl, h30⟩ := cons_of h29
  obtain ⟨c31, l31, rfl, h31⟩ := cons_of h30
  obtain ⟨c32, l32, rfl, h32⟩ := cons_of h31
  obtain ⟨c33, l33, rfl, h33⟩ := cons_of h32
  obtain ⟨c34, l34, rfl, h34⟩ := cons_of h33
  obtain ⟨c35, l35, rfl, h35⟩ := cons_of h34
  obtain ⟨c36, l36, rfl, h36⟩ := cons_of h35
  obtain ⟨c37, l37, rfl, h37⟩ := cons_of h36
  obtain ⟨c38, l38, rfl, h38⟩ := cons_of h37
  obtain ⟨c39, l39, rfl, h39⟩ := cons_of h38
  obtain rfl : l39 = [] := List.length_eq_zero_iff.1 h39
  exact ⟨c0, c1, c2, c3, c4, c5, c6, c7, c8, c9, c10, c11, c12, c13, c14, c15, c16, c17, c18, c19, c20, c21, c22, c23, c24, c25, c26, c27, c28, c29, c30, c31, c32, c33, c34, c35, c36, c37, c38, c39, rfl⟩
theorem rf_one (w : World) (xv : Value) (r : List UInt8) (hx : Arg w xv r) (hr : r.length = 24) (sv : Value) (S : List UInt8) (hs : Arg w sv S) (first : Bool) (span : Nat) (hsp : span < 18446744073709551616) :
    Calls Try.prog 34 #[xv, sv, .bool first, .int .u64 (span : Nat)] w fun e w' => e = .returned (.tuple #[.agg (oneZ r S first span).1.cells.toArray, .bool (oneZ r S first span).2]) ∧ Below w.heap.size w w' := by
  cases first
  · exact rf_one1 w xv r hx hr sv S hs span hsp
  · exact rf_one0 w xv r hx hr sv S hs span hsp
set_option maxRecDepth 20000 in
theorem build_L (q : Lp) (h : q.cs.length = 40) (w : World) : (Instr.build 90 #[(0, .slice q.ba q.bn q.bc), (1, .agg q.hC.toArray), (2, .agg q.cs.toArray)]).run Try.prog w = .ok (.agg q.lC.toArray) w := by
  obtain ⟨c0, c1, c2, c3, c4, c5, c6, c7, c8, c9, c10, c11, c12, c13, c14, c15, c16, c17, c18, c19, c20, c21, c22, c23, c24, c25, c26, c27, c28, c29, c30, c31, c32, c33, c34, c35, c36, c37, c38, c39, e⟩ := forty h
  obtain ⟨ba, bn, bc, l, m, va, vn, vc, d, r, ps, cs, st, sl, sy, ol, nw⟩ := q
  simp only at e
  subst e
  kernel_rfl
def zeroL : List Value := .slice none 0 0 :: (zeroHd ++ zeroDy)
theorem alloc_L0 (w : World) : (Instr.alloc 90 true (.tuple #[])).run Try.prog w = .ok (.pointer (some ⟨w.heap.size, 0, none⟩)) (w.alloc (.cells zeroL.toArray 90)) := by kernel_rfl
theorem l_size : ∀ w, (Go.sizeOf 90).run Try.prog w = .ok 57 w := Try.sizeOf90
theorem partZ_size {l : List UInt8} {ps : List Ph} {x s : Nat} (h : (partZ l ps x s).2 = true) : (partZ l ps x s).1.length = s := by
  unfold partZ at h ⊢
  split
  · rename_i hc
    exact win_len _ _ _ hc.2
  · rename_i hc
    rw [if_neg hc] at h
    cases h
/-- A new block holds a symbol. -/
structure NewSy (wr wx : World) (Y : Nat) (t : Sy) : Prop where
  b : Below wr.heap.size wr wx
  low : wr.heap.size ≤ Y
  s : wx.heap[Y]? = some (.cells t.cells.toArray 48 (0, 0))
/-- What Parse answers: something is wrong; or plain symbols. -/
def PIs (B : Nat) (w' : World) (e : Ending) : Prop :=
  (∃ k : Nat, 0 < k ∧ k < 1000 ∧ e = .returned (.tuple #[.slice none 0 0, .int .i64 (k : Nat)])) ∨
  ∃ (v : Value) (L : List Sy), e = .returned (.tuple #[v, .int .i64 0]) ∧ OwnSy w' B v L ∧ L ≠ [] ∧ L.length ≤ 256 ∧ ∀ s ∈ L, bareS s
/-- What Parse holds. -/
structure Pq (w wx : World) (q : Lp) : Prop where
  b : Below w.heap.size w wx
  hh : wx.heap[w.heap.size]? = some (.cells q.hC.toArray 30 (0, 0))
  hd : wx.heap[w.heap.size + 1]? = some (.cells q.cs.toArray 35 (0, 0))
  x : HasL wx (w.heap.size + 2) q
theorem Pq.stay {w wx wy : World} {q : Lp} (h : Pq w wx q) (hb : Below wx.heap.size wx wy) : Pq w wy q := ⟨h.b.trans (hb.mono h.b.size), block_stay h.hh hb, block_stay h.hd hb, h.x.stay hb⟩
theorem quiet_loadW {ops : Array Oper} {rest : List Oper} {o : Oper} {a : Act} {C : World → Prop} {Q : Act → Prop} (T : TypeId) (x : Operand) (ho : o.op = .load T x) (p : Addr) (hx : a.eval x = .pointer (some p)) (v : Value)
    (hr : ∀ W, C W → (loadVar T p).run Try.prog W = .ok v W) (hw : Region.wanted o (yielded ops a.tmps) = true) (a' : Act) (ha : a.put o.dst v = a') (h : wpQuiet Try.prog ops C Q rest a') : wpQuiet Try.prog ops C Q (o :: rest) a := by
  subst ha
  unfold wpQuiet
  rw [if_pos hw]
  refine ⟨v, fun W hW => ?_, h⟩
  unfold Oper.quietAt Oper.quietUpon execOp
  simp only [ho, hx, Instr.loadAt, Instr.sureAddr, Sem.run_bind, Sem.run_pure, Result.andThen_ok, hr W hW]
  exact ⟨trivial, trivial⟩
theorem textAt_len (S : List UInt8) (p : Nat) : (textAt S p).1.length ≤ S.length := by
  unfold textAt
  split
  · simp
  · split
    · simp only [List.length_take, List.length_drop]; omega
    · simp
abbrev okN (s : Sy) : Prop := bareS s ∧ s.name.length ≤ 140737488351232
theorem oneZ_okN (r S : List UInt8) (first : Bool) (span : Nat) (h : S.length ≤ 140737488351232) : okN (oneZ r S first span).1 := by
  refine ⟨oneZ_bare _ _ _ _, ?_⟩
  unfold oneZ
  split
  · simp [noSy]
  · split
    · simp [noSy]
    · exact Nat.le_trans (textAt_len _ _) h
theorem rf_oneS (w : World) (xv : Value) (r : List UInt8) (hx : Arg w xv r) (hr : r.length = 24) (sv : Value) (S : List UInt8) (hs : Arg w sv S) (first : Bool) (z : Int) (h0 : 0 ≤ z) (h1 : z < 18446744073709551616) :
    Calls Try.prog 34 #[xv, sv, .bool first, .int .u64 z] w fun e w' => (∃ (t : Sy) (b : Bool), okN t ∧ e = .returned (.tuple #[.agg #[.string ⟨t.name.toArray⟩, .string ⟨t.ver.toArray⟩, .bool t.hidden, .int .i64 t.bind, .bool t.defined, .int .u64 t.value, .int .u64 t.size], .bool b])) ∧ Below w.heap.size w w' := by
  obtain ⟨n, rfl⟩ := Int.eq_ofNat_of_zero_le h0
  refine (rf_one w xv r hx hr sv S hs first n (by omega)).mono ?_
  rintro e w' ⟨rfl, hb⟩
  exact ⟨⟨_, _, oneZ_okN _ _ _ _ (by obtain ⟨_, _, _, _, _, hl⟩ := hs.isSlice; exact hl), rfl⟩, hb⟩
def zeroSy : Obj := .cells #[.string ⟨#[]⟩, .string ⟨#[]⟩, .bool false, .int .i64 0, .bool false, .int .u64 0, .int .u64 0] 48
/-- The headers lie here: their sixteen cells. -/
abbrev H16 (g : Nat) (q : Lp) (w' : World) : Prop :=
  w'.cell? ⟨g, 0, none⟩ = some (.int .u16 (q.m : Nat)) ∧
  w'.cell? ⟨g, 1, none⟩ = some (.slice q.va q.vn q.vc) ∧
  w'.cell? ⟨g, 2, none⟩ = some (.int .u32 (q.d.type : Nat)) ∧
  w'.cell? ⟨g, 3, none⟩ = some (.int .u32 (q.d.flags : Nat)) ∧
  w'.cell? ⟨g, 4, none⟩ = some (.int .u64 (q.d.off : Nat)) ∧
  w'.cell? ⟨g, 5, none⟩ = some (.int .u64 (q.d.vaddr : Nat)) ∧
  w'.cell? ⟨g, 6, none⟩ = some (.int .u64 (q.d.filesz : Nat)) ∧
  w'.cell? ⟨g, 7, none⟩ = some (.int .u64 (q.d.memsz : Nat)) ∧
  w'.cell? ⟨g, 8, none⟩ = some (.int .u64 (q.d.align : Nat)) ∧
  w'.cell? ⟨g, 9, none⟩ = some (.int .u32 (q.r.type : Nat)) ∧
  w'.cell? ⟨g, 10, none⟩ = some (.int .u32 (q.r.flags : Nat)) ∧
  w'.cell? ⟨g, 11, none⟩ = some (.int .u64 (q.r.off : Nat)) ∧
  w'.cell? ⟨g, 12, none⟩ = some (.int .u64 (q.r.vaddr : Nat)) ∧
  w'.cell? ⟨g, 13, none⟩ = some (.int .u64 (q.r.filesz : Nat)) ∧
  w'.cell? ⟨g, 14, none⟩ = some (.int .u64 (q.r.memsz : Nat)) ∧
  w'.cell? ⟨g, 15, none⟩ = some (.int .u64 (q.r.align : Nat))
theorem H16.of {g : Nat} {q : Lp} {w : World} (h : w.heap[g]? = some (.cells q.hC.toArray 30 (0, 0))) : H16 g q w :=
  ⟨cells_of_block h 0 _ rfl, cells_of_block h 1 _ rfl, cells_of_block h 2 _ rfl, cells_of_block h 3 _ rfl, cells_of_block h 4 _ rfl, cells_of_block h 5 _ rfl, cells_of_block h 6 _ rfl, cells_of_block h 7 _ rfl, cells_of_block h 8 _ rfl, cells_of_block h 9 _ rfl, cells_of_block h 10 _ rfl, cells_of_block h 11 _ rfl, cells_of_block h 12 _ rfl, cells_of_block h 13 _ rfl, cells_of_block h 14 _ rfl, cells_of_block h 15 _ rfl⟩
theorem H16.stay {g : Nat} {q : Lp} {W W' : World} (h : H16 g q W) (hb : Below W.heap.size W W') : H16 g q W' := by
  have k : ∀ j v, W.cell? ⟨g, j, none⟩ = some v → W'.cell? ⟨g, j, none⟩ = some v := fun j v e => (hb.cell (p := ⟨g, j, none⟩) (World.block_lt_of_cell? _ _ e)).trans e
  obtain ⟨h0, h1, h2, h3, h4, h5, h6, h7, h8, h9, h10, h11, h12, h13, h14, h15⟩ := h
  exact ⟨k _ _ h0, k _ _ h1, k _ _ h2, k _ _ h3, k _ _ h4, k _ _ h5, k _ _ h6, k _ _ h7, k _ _ h8, k _ _ h9, k _ _ h10, k _ _ h11, k _ _ h12, k _ _ h13, k _ _ h14, k _ _ h15⟩
theorem H16.same {g : Nat} {q : Lp} {W W' : World} (h : H16 g q W) (e : W'.heap[g]? = W.heap[g]?) : H16 g q W' := by
  have k : ∀ j v, W.cell? ⟨g, j, none⟩ = some v → W'.cell? ⟨g, j, none⟩ = some v := fun j v h => (World.cell?_of_block (w := W) e).trans h
  obtain ⟨h0, h1, h2, h3, h4, h5, h6, h7, h8, h9, h10, h11, h12, h13, h14, h15⟩ := h
  exact ⟨k _ _ h0, k _ _ h1, k _ _ h2, k _ _ h3, k _ _ h4, k _ _ h5, k _ _ h6, k _ _ h7, k _ _ h8, k _ _ h9, k _ _ h10, k _ _ h11, k _ _ h12, k _ _ h13, k _ _ h14, k _ _ h15⟩
theorem H16.set7 {g : Nat} {q : Lp} {W : World} (h : H16 g q W) {Y : Nat} (hn : g ≠ Y) (a0 a1 a2 a3 a4 a5 a6 : Value) :
    H16 g q (((((((W.setCell ⟨Y, 0, none⟩ a0).setCell ⟨Y, 1, none⟩ a1).setCell ⟨Y, 2, none⟩ a2).setCell ⟨Y, 3, none⟩ a3).setCell ⟨Y, 4, none⟩ a4).setCell ⟨Y, 5, none⟩ a5).setCell ⟨Y, 6, none⟩ a6) :=
  h.same (by rw [Below.heap_setCell _ _ _ _ hn, Below.heap_setCell _ _ _ _ hn, Below.heap_setCell _ _ _ _ hn, Below.heap_setCell _ _ _ _ hn, Below.heap_setCell _ _ _ _ hn, Below.heap_setCell _ _ _ _ hn, Below.heap_setCell _ _ _ _ hn])
theorem NewSy.alloc {wr X : World} (h : Below wr.heap.size wr X) (t : Sy) : NewSy wr (X.alloc (.cells #[.string ⟨t.name.toArray⟩, .string ⟨t.ver.toArray⟩, .bool t.hidden, .int .i64 t.bind, .bool t.defined, .int .u64 t.value, .int .u64 t.size] 48)) X.heap.size t := ⟨h.trans ((below1 X _).mono h.size), h.size, heap_alloc_new _ _⟩
theorem NewSy.set {wr X : World} (h : Below wr.heap.size wr X) {Y : Nat} (hY : wr.heap.size ≤ Y) {c0 c1 c2 c3 c4 c5 c6 : Value} (hb : X.heap[Y]? = some (.cells #[c0, c1, c2, c3, c4, c5, c6] 48 (0, 0))) (t : Sy) :
    NewSy wr (((((((X.setCell ⟨Y, 0, none⟩ (.string ⟨t.name.toArray⟩)).setCell ⟨Y, 1, none⟩ (.string ⟨t.ver.toArray⟩)).setCell ⟨Y, 2, none⟩ (.bool t.hidden)).setCell ⟨Y, 3, none⟩ (.int .i64 t.bind)).setCell ⟨Y, 4, none⟩ (.bool t.defined)).setCell ⟨Y, 5, none⟩ (.int .u64 t.value)).setCell ⟨Y, 6, none⟩ (.int .u64 t.size)) Y t :=
  ⟨below7 h hY _ _ _ _ _ _ _, hY, set7 hb _ _ _ _ _ _ _⟩
set_option maxHeartbeats 8000000 in
set_option maxRecDepth 20000 in
theorem rf_Parse10 (w : World) (q : Lp) (hk : Lk w q) :
    Calls Try.prog 12 #[.slice q.ba q.bn q.bc, .agg q.hC.toArray, .agg q.cs.toArray] w fun e w' => PIs w.heap.size w' e ∧ Below w.heap.size w w' := by
  have HK := hide hk
  have HB : Hid (Below w.heap.size w ((w.alloc (.cells q.hC.toArray 30)).alloc (.cells q.cs.toArray 35))) := ((Below.refl _ w).alloc (Nat.le_refl _) _).alloc (by simp) _
  have hs1 : (w.alloc (.cells q.hC.toArray 30)).heap.size = w.heap.size + 1 := by simp
  have hs2 : ((w.alloc (.cells q.hC.toArray 30)).alloc (.cells q.cs.toArray 35)).heap.size = w.heap.size + 2 := by simp
  have HG : Hid (((w.alloc (.cells q.hC.toArray 30)).alloc (.cells q.cs.toArray 35)).heap[w.heap.size]? = some (.cells q.hC.toArray 30 (0, 0))) := by
    rw [Hid, heap_alloc_old _ _ (by simp)]; exact heap_alloc_new _ _
  have HD : Hid (((w.alloc (.cells q.hC.toArray 30)).alloc (.cells q.cs.toArray 35)).heap[w.heap.size + 1]? = some (.cells q.cs.toArray 35 (0, 0))) := by
    rw [Hid, ← hs1]; exact heap_alloc_new _ _
  have HAL : Hid ((Instr.alloc 90 true (.tuple #[])).run Try.prog ((w.alloc (.cells q.hC.toArray 30)).alloc (.cells q.cs.toArray 35)) = .ok (.pointer (some ⟨w.heap.size + 2, 0, none⟩)) (((w.alloc (.cells q.hC.toArray 30)).alloc (.cells q.cs.toArray 35)).alloc (.cells zeroL.toArray 90))) := by
    rw [Hid, ← hs2]; exact alloc_L0 _
  have HZ : Hid ((((w.alloc (.cells q.hC.toArray 30)).alloc (.cells q.cs.toArray 35)).alloc (.cells zeroL.toArray 90)).heap[w.heap.size + 2]? = some (.cells zeroL.toArray 90 (0, 0))) := by
    rw [Hid, ← hs2]; exact heap_alloc_new _ _
  have HC3 := hide (below1 ((w.alloc (.cells q.hC.toArray 30)).alloc (.cells q.cs.toArray 35)) (.cells zeroL.toArray 90))
  have HS40 : Hid (q.cs.toArray.size = 40) := by rw [Hid, List.size_toArray]; exact hk.sz
  have HBL := hide (fun W => build_L q hk.sz W)
  have HLL : Hid (q.lC.length = 57) := by have := lC_len hk; rwa [List.size_toArray] at this
  have HSZ : Hid (∀ w, (Go.sizeOf 90).run Try.prog w = .ok q.lC.length w) := by rw [Hid, HLL.out]; exact l_size
  have HONE := hide (lC_one hk)
  have HNW : Hid ((zeroL.toArray.toList.take 0 ++ q.lC ++ zeroL.toArray.toList.drop (0 + q.lC.length)).toArray = q.lC.toArray) := by
    have e : List.drop (0 + 57) zeroL.toArray.toList = [] := rfl
    rw [Hid, HLL.out, e, List.append_nil]; rfl
  have HFT : Hid (0 + q.lC.length ≤ zeroL.toArray.size) := by rw [Hid, HLL.out]; exact Nat.le_refl 57
  have HLD := hide (fun W g (hW : HasL W g q) => load_L hW hk)
  have HS2 := hide hs2
  clear hk hs1 hs2
  go_enter Try.func12, Try.ntmps12
  go_wp2_with (first
    | ((with_reducible refine at_load ?_); refine load_row rfl _ _ rfl w.heap.size _ (load_hd HG.out rfl) rfl ?_)
    | ((with_reducible refine at_loadD ?_); refine load_row rfl _ _ rfl (w.heap.size + 1) _ (load_dy HD.out HS40.out) rfl ?_)
    | ((with_reducible refine at_buildY (T := 90) ?_); refine build_eq rfl _ _ rfl (.agg q.lC.toArray) ?hr ?_; (simp only [List.map_toArray, List.map_cons, List.map_nil]; exact HBL.out _))
    | ((with_reducible refine at_allocT (T := 90) ?_); refine alloc_opR rfl rfl _ _ HAL.out ?_)
    | ((with_reducible refine at_storeT (T := 90) ?_); refine store_part rfl _ _ _ rfl (w.heap.size + 2) 0 90 _ q.lC q.lC.toArray HZ.out rfl rfl HSZ.out HONE.out HFT.out HNW.out ?_))
  intro w1 hg1 hb1
  have HP : Hid (Pq w w1 q) := by
    have hB1 := grown_below (Nat.le_refl _) HC3.out (by rw [HS2.out]; exact hb1)
    exact ⟨HB.out.trans (hB1.mono HB.out.size), block_stay HG.out hB1, block_stay HD.out hB1, hg1⟩
  clear hg1 hb1 HB HG HD HAL HZ HC3 HBL HSZ HONE HNW HFT
  go_wp2_with (first
    | ((with_reducible refine at_loadT (T := 90) ?_); refine load_row rfl _ _ rfl (w.heap.size + 2) _ (HLD.out _ _ HP.out.x) rfl ?_))
  refine (rf_many w1 q (HK.out.below HP.out.b)).mono ?_
  rintro e w2 ⟨⟨n, k, hn, hkk, rfl⟩, hb2⟩
  have HP2 := hide (HP.out.stay hb2)
  have HN := hide hn
  clear hb2 HP hn
  by_cases hk0 : k = 0
  · subst hk0
    by_cases hbad : n < 1 ∨ 256 < n
    · have hcs : (n : Int) < 1 ∨ (decide ((n : Int) < 1) = false ∧ (256 : Int) < (n : Int)) := by
        rcases hbad with h | h
        · exact .inl (by omega)
        · by_cases h1 : n < 1
          · exact .inl (by omega)
          · exact .inr ⟨decide_eq_false (by omega), by omega⟩
      clear hbad
      rcases hcs with a1 | ⟨a1, a2⟩
      all_goals
        go_wp2
        go_ret2
        exact ⟨.inl ⟨100, by decide, by decide, rfl⟩, HP2.out.b⟩
    · have a1 : decide ((n : Int) < 1) = false := decide_eq_false (by omega)
      have a2 : decide ((256 : Int) < (n : Int)) = false := decide_eq_false (by omega)
      have HNB : Hid (1 ≤ n ∧ n ≤ 256) := ⟨by omega, by omega⟩
      have hnI : (n : Int) ≤ 256 := by omega
      have c9 := cells_of_block HP2.out.hd 9 (.int .u64 (q.sy : Nat)) (by rw [List.getElem?_toArray]; exact HK.out.c9)
      have HK2 := hide (HK.out.below HP2.out.b)
      have kP := ref8_Part w2 (.slice q.ba q.bn q.bc) q.l HK2.out.b q.m (.slice q.va q.vn q.vc) q.d q.r q.ps HK2.out.h HK2.out.ok HK2.out.sm q.sy (n * 24) HK2.out.b9 (by omega)
      rw [show ((n * 24 : Nat) : Int) = (n : Int) * 24 by omega] at kP
      clear hbad
      go_wp2_with (first
        | ((with_reducible refine at_load ?_); refine load_row rfl _ _ rfl w.heap.size _ (load_hd HP2.out.hh rfl) rfl ?_))
      refine kP.mono ?_
      rintro e w3 ⟨⟨v3, rfl, hO3⟩, hb3⟩
      have HP3 := hide (HP2.out.stay hb3)
      have HO3 := hide hO3
      have HPS := hide (fun hh => partZ_size (l := q.l) (ps := q.ps) (x := q.sy) (s := n * 24) hh)
      have HPL : Hid ((partZ q.l q.ps q.sy (n * 24)).1.length ≤ 140737488351232) := Nat.le_trans (part_len _ _ _ _) (Nat.le_trans HK.out.lm (by decide))
      generalize (partZ q.l q.ps q.sy (n * 24)).2 = pb at *
      generalize (partZ q.l q.ps q.sy (n * 24)).1 = pl at *
      clear hb3 hO3 kP c9 a1 a2 HK2 HP2
      have HK3 := hide (HK.out.below HP3.out.b)
      have kS := ref9_Strings w3 (.slice q.ba q.bn q.bc) q.l HK3.out.b q.m (.slice q.va q.vn q.vc) q.d q.r q.ps HK3.out.h HK3.out.ok HK3.out.sm q.cs.toArray HS40.out q.st q.sl (by rw [List.getElem?_toArray]; exact HK.out.c7) (by rw [List.getElem?_toArray]; exact HK.out.c8) HK.out.b7 HK.out.b8
      have HSL : Hid ((partZ q.l q.ps q.st q.sl).1.length ≤ 140737488351232) := Nat.le_trans (part_len _ _ _ _) (Nat.le_trans HK.out.lm (by decide))
      generalize (partZ q.l q.ps q.st q.sl).2 = sb at *
      generalize (partZ q.l q.ps q.st q.sl).1 = SS at *
      obtain ⟨pa, pn, pc, rfl⟩ : ∃ a n c, v3 = .slice a n c := by obtain ⟨a, c, e, _⟩ := (HO3.out.arg HPL.out).isSlice; exact ⟨_, _, _, e⟩
      go_wp2_with (first
        | ((with_reducible refine at_load ?_); refine load_row rfl _ _ rfl w.heap.size _ (load_hd HP3.out.hh rfl) rfl ?_)
        | ((with_reducible refine at_loadD ?_); refine load_row rfl _ _ rfl (w.heap.size + 1) _ (load_dy HP3.out.hd HS40.out) rfl ?_))
      refine kS.mono ?_
      rintro e w4 ⟨⟨v4, rfl, hO4⟩, hb4⟩
      have HP4 := hide (HP3.out.stay hb4)
      have HA3 := hide ((HO3.out.stay hb4).arg HPL.out)
      have HA4 := hide (hO4.arg HSL.out)
      obtain ⟨sa, sn, sc, rfl⟩ : ∃ a n c, v4 = .slice a n c := by obtain ⟨a, c, e, _⟩ := HA4.out.isSlice; exact ⟨_, _, _, e⟩
      clear hb4 hO4 kS HK3 HP3 HO3
      cases pb with
      | false =>
        go_wp2
        go_ret2
        exact ⟨.inl ⟨100, by decide, by decide, rfl⟩, HP4.out.b⟩
      | true =>
        have HPN : Hid (pl.length = n * 24) := HPS.out rfl
        cases sb with
        | false =>
          go_wp2
          go_ret2
          exact ⟨.inl ⟨100, by decide, by decide, rfl⟩, HP4.out.b⟩
        | true =>
          clear HPS
          obtain ⟨pg, po, pcap, hpe, hp1, hp2, _⟩ := HA3.out.cells (by rw [HPN.out]; have := HNB.out; omega)
          injection hpe with hpe1 hpe2 hpe3
          have hpn : pn = n * 24 := hpe2.trans HPN.out
          subst hpe1 hpe3 hpn
          rw [HPN.out] at hp1
          have HPM : Hid (n * 24 ≤ pc ∧ pc ≤ 9223372036854775807) := ⟨hp1, by unfold maxLen at hp2; omega⟩
          clear hpe2 hp1 hp2
          have hni : wrap64 (n : Int) = (n : Int) := by unfold wrap64; omega
          go_wp2
          go_loopw [15, 16] (fun vo vi wr => ∃ (i : Nat) (L : List Sy) (oa : Option Addr) (oc : Nat), vi = .int .i64 i ∧ vo = .slice oa i oc ∧ i ≤ n ∧ Hid (L.length = i) ∧ Hid (∀ s ∈ L, okN s) ∧ Hid (OwnSy wr w4.heap.size (.slice oa i oc) L) ∧ Hid (Below w4.heap.size w4 wr))
            (fun _ vi _ => n - (intOf vi).toNat)
          case atStart => exact ⟨0, [], none, 0, rfl, rfl, by omega, rfl, fun s hs => by simp at hs, OwnSy.nil _ _, Below.refl _ _⟩
          case round =>
            obtain ⟨i, L, oa, oc, rfl, rfl, hi, HL, HBR, HO, HBi⟩ := hrel
            by_cases hlt : i < n
            · have hltI : (i : Int) < (n : Int) := by omega
              have HPi := hide (HP4.out.stay HBi.out)
              have HKi := hide (HK.out.below HPi.out.b)
              have HHi : Hid (wr.heap[w.heap.size]? = some (.cells q.hC.toArray 30 (0, 0))) := HPi.out.hh
              have HXi : Hid (Arg wr (.slice (some ⟨pg, po + i * 24, none⟩) 24 (pc - i * 24)) (win pl (i * 24) 24)) := by
                have := HA3.out.below' HBi.out
                rw [← HPN.out] at this
                have k := this.cut (i * 24) 24 (by rw [HPN.out]; omega) (by have := HPM.out; omega)
                rw [Option.map_some, add_at] at k; exact k
              have HXL : Hid ((win pl (i * 24) 24).length = 24) := win_len _ _ _ (by rw [HPN.out]; omega)
              have HSi := hide (HA4.out.below' HBi.out)
              have hmP : IntKind.i64.wrap ((i : Int) * 24) = ((i * 24 : Nat) : Int) := by rw [IntKind.wrap_i64]; omega
              have hPP : i * 24 + 24 ≤ pc := by have := HPM.out; omega
              generalize i * 24 = PP at *
              have hcne : ¬ pc = PP := by omega
              have hb1 : (PP : Int) + 24 ≤ (pc : Int) := by omega
              have hb2 : (pc : Int) ≤ 9223372036854775807 := by have := HPM.out; omega
              have hmQ : IntKind.i64.wrap ((PP : Int) + 24) = (PP : Int) + 24 := by rw [IntKind.wrap_i64]; omega
              have HDD : Hid (Below wr.heap.size wr wr.drew) := (Below.refl _ _).drew
              have SC : H16 w.heap.size q wr.drew := (H16.of HHi.out).stay HDD.out
              have SA : H16 w.heap.size q (wr.alloc zeroSy).drew := (H16.of HHi.out).stay (below1d wr zeroSy)
              have HAZ : Hid ((wr.alloc zeroSy).drew.heap[wr.heap.size]? = some zeroSy) := heap_alloc_new wr zeroSy
              have HNE : Hid (w.heap.size < wr.heap.size) := (Array.getElem?_eq_some_iff.1 HHi.out).1
              have HSPN := hide (fun X (hX : Below wr.heap.size wr X) => ref8_Span X q.m (.slice q.va q.vn q.vc) q.d q.r q.ps ((HKi.out.below hX).h) HKi.out.sp)
              have HONE2 := hide (fun X (hX : Below wr.heap.size wr X) (fst : Bool) z h0 h1 => rf_oneS X _ _ (HXi.out.below' hX) HXL.out _ _ (HSi.out.below' hX) fst z h0 h1)
              have HBA := hide (below1d wr zeroSy)
              unfold zeroSy at SA HAZ HBA
              unfold hdCells at HSPN
              go_upto_region 15 with fail
              go_cut [17, 18] from 63 to 92 (fun v17 v18 wx => ∃ (Y : Nat) (t : Sy) (b : Bool), v17 = .pointer (some ⟨Y, 0, none⟩) ∧ v18 = .bool b ∧ Hid (okN t) ∧ Hid (NewSy wr wx Y t))
              case first =>
                go_region_held_law (fun w' => H16 w.heap.size q w')
                  (first | with_reducible assumption | with_reducible exact SB1 _ | with_reducible exact SB2 _ | with_reducible exact SP2 _ _ _ _ _ _ _)
                  (first
                    | (go_at_call 35; refine (HSPN.out _ (by first | exact HDD.out | exact HBA.out)).mono ?_; rintro e X1 ⟨rfl, hb⟩; have HX := hide (by first | exact HDD.out.trans (hb.mono HDD.out.size) | exact HBA.out.trans (hb.mono HBA.out.size)); have SC1 := (by first | exact H16.stay SC hb | exact H16.stay SA hb); have SB1 := fun o => H16.stay SC1 (below1 X1 o); first | (have HYB := hide (block_stay HAZ.out hb)) | skip; clear hb)
                    | (go_at_call 34; refine (HONE2.out _ (by first | exact HX.out | exact HX.out.trans ((below1 _ _).mono HX.out.size)) _ _ (wr_lo _) (wr_hi _)).mono ?_; rintro e X2 ⟨⟨t, b, hbt, rfl⟩, hb⟩; have HBT := hide hbt; have HXX := hide (by first | exact HX.out.trans (hb.mono HX.out.size) | exact (HX.out.trans ((below1 _ _).mono HX.out.size)).trans (hb.mono (HX.out.trans ((below1 _ _).mono HX.out.size)).size)); have SC2 := (by first | exact H16.stay SC1 hb | exact H16.stay (SB1 _) hb); have SB2 := fun o => H16.stay SC2 (below1 X2 o); first | (have hY := block_stay HYB.out hb; have y0 := cells_of_block hY 0 _ rfl; have y1 := cells_of_block hY 1 _ rfl; have y2 := cells_of_block hY 2 _ rfl; have y3 := cells_of_block hY 3 _ rfl; have y4 := cells_of_block hY 4 _ rfl; have y5 := cells_of_block hY 5 _ rfl; have y6 := cells_of_block hY 6 _ rfl; have f0 := block_soft hY 0; have f1 := block_soft hY 1; have f2 := block_soft hY 2; have f3 := block_soft hY 3; have f4 := block_soft hY 4; have f5 := block_soft hY 5; have f6 := block_soft hY 6; have SP2 := fun a0 a1 a2 a3 a4 a5 a6 => H16.set7 SC2 (show w.heap.size ≠ wr.heap.size by have := HNE.out; omega) a0 a1 a2 a3 a4 a5 a6; have HY := hide hY; clear hY) | (have hY := block_stay (heap_alloc_new X1 _) hb; have y0 := cells_of_block hY 0 _ rfl; have y1 := cells_of_block hY 1 _ rfl; have y2 := cells_of_block hY 2 _ rfl; have y3 := cells_of_block hY 3 _ rfl; have y4 := cells_of_block hY 4 _ rfl; have y5 := cells_of_block hY 5 _ rfl; have y6 := cells_of_block hY 6 _ rfl; have f0 := block_soft hY 0; have f1 := block_soft hY 1; have f2 := block_soft hY 2; have f3 := block_soft hY 3; have f4 := block_soft hY 4; have f5 := block_soft hY 5; have f6 := block_soft hY 6; have SP2 := fun a0 a1 a2 a3 a4 a5 a6 => H16.set7 SC2 (show w.heap.size ≠ X1.heap.size by have := HNE.out; have := HX.out.size; omega) a0 a1 a2 a3 a4 a5 a6; have HY := hide hY; clear hY) | skip; clear hb hbt))
                · go_wp2_with fail
                  go_meet
                  exact ⟨_, _, _, rfl, rfl, HBT.out, NewSy.alloc HXX.out _⟩
                · go_wp2_with fail
                  go_meet
                  exact ⟨_, _, _, rfl, rfl, HBT.out, NewSy.set HXX.out HX.out.size HY.out _⟩
                · go_wp2_with fail
                  go_meet
                  exact ⟨_, _, _, rfl, rfl, HBT.out, NewSy.set HXX.out (Nat.le_refl _) HY.out _⟩
                · go_wp2_with fail
                  go_meet
                  exact ⟨_, _, _, rfl, rfl, HBT.out, NewSy.alloc HXX.out _⟩
                · go_wp2_with fail
                  go_meet
                  exact ⟨_, _, _, rfl, rfl, HBT.out, NewSy.set HXX.out HX.out.size HY.out _⟩
                · go_wp2_with fail
                  go_meet
                  exact ⟨_, _, _, rfl, rfl, HBT.out, NewSy.set HXX.out HX.out.size HY.out _⟩
                · go_wp2_with fail
                  go_meet
                  exact ⟨_, _, _, rfl, rfl, HBT.out, NewSy.set HXX.out (Nat.le_refl _) HY.out _⟩
                · go_wp2_with fail
                  go_meet
                  exact ⟨_, _, _, rfl, rfl, HBT.out, NewSy.set HXX.out (Nat.le_refl _) HY.out _⟩
              case rest =>
                obtain ⟨Y, t, b, rfl, rfl, HBT, HN⟩ := hcut
                have HPc := hide (HPi.out.stay HN.out.b)
                have HOc := hide (HO.out.stay HN.out.b)
                have HBc : Hid (Below w4.heap.size w4 wc) := HBi.out.trans (HN.out.b.mono HBi.out.size)
                clear HPi HO HBi HHi HXi HSi HSPN HONE2 HBA HAZ HNE HDD SC SA
                cases b with
                | false =>
                  go_wp2
                  go_ret2
                  exact ⟨.inl ⟨100, by decide, by decide, rfl⟩, HPc.out.b⟩
                | true =>
                  have HS0 := hide HN.out.s
                  have HLL : Hid (L.length ≤ 1000000) := by rw [Hid, HL.out]; omega
                  have HB2 : Hid (∀ s ∈ L ++ [t], okN s) := fun s hs => by
                    rcases List.mem_append.1 hs with h | h
                    · exact HBR.out s h
                    · rw [List.mem_singleton.1 h]; exact HBT.out
                  have HL2 : Hid ((L ++ [t]).length = i + 1) := by rw [Hid, List.length_append, HL.out]; rfl
                  clear HN HBR HBT
                  obtain ⟨tn, tv, th, tbn, td, tvl, tsz⟩ := t
                  go_wp2_with (first
                    | ((with_reducible refine at_loadT (T := 48) ?_); refine load_row rfl _ _ rfl Y #[.string ⟨tn.toArray⟩, .string ⟨tv.toArray⟩, .bool th, .int .i64 tbn, .bool td, .int .u64 tvl, .int .u64 tsz] (load_sy HS0.out rfl) rfl ?_)
                    | (at_builtin; refine append_sy rfl _ _ rfl w4.heap.size wc _ _ HOc.out ⟨tn, tv, th, tbn, td, tvl, tsz⟩ rfl _ rfl rfl HLL.out HBc.out.size ?_))
                  intro v' w9 ho9 hb9
                  have HO9 := hide ho9
                  obtain ⟨a9, c9, rfl⟩ : ∃ a c, v' = .slice a (i + 1) c := by
                    obtain ⟨a, c, e⟩ := ho9.form
                    rw [HL2.out] at e
                    exact ⟨_, _, e⟩
                  have HB9 : Hid (Below w4.heap.size w4 w9) := HBc.out.trans hb9
                  clear ho9 hb9 HOc HS0 HPc HBc
                  go_wp2
                  go_roundw
                  case rel => exact ⟨i + 1, _, a9, c9, by go_num, rfl, by omega, HL2, HB2, HO9, HB9⟩
                  case measure => simp [intOf]; omega
            · have hltI : ¬ (i : Int) < (n : Int) := by omega
              have he : i = n := by omega
              subst he
              have HP5 := hide (HP4.out.stay HBi.out)
              have HK5 := hide (HK.out.below HP5.out.b)
              have HA5 := hide (HO.out.arg (by rw [HL.out]; have := HNB.out; omega))
              have HO5 := hide (HO.out.low HP4.out.b.size)
              have HNE : Hid (L ≠ []) := by intro e; have := HL.out; rw [e] at this; have := HNB.out; simp at *; omega
              have HL6 : Hid (L.length ≤ 256) := by rw [Hid, HL.out]; exact HNB.out.2
              clear HP4 HBi HA3 HA4 HO HPN HPM hi hni hlt HSL HPL
              generalize wr = w5 at *
              have kW := rf_wordZ w5 q HK5.out (q.ol : Int) (by omega) (by have := HK5.out.b10; omega)
              have c10 := cells_of_block HP5.out.hd 10 (.int .u64 (q.ol : Nat)) (by rw [List.getElem?_toArray]; exact HK5.out.c10)
              go_wp2_with (first
                | ((with_reducible refine at_loadT (T := 90) ?_); refine load_row rfl _ _ rfl (w.heap.size + 2) _ (HLD.out _ _ HP5.out.x) rfl ?_))
              refine kW.mono ?_
              rintro e w6 ⟨⟨rw, rb, hrw, rfl⟩, hb6⟩
              have HP6 := hide (HP5.out.stay hb6)
              have HA6 := hide (HA5.out.below hb6)
              have HO6 := hide (HO5.out.stay hb6)
              have HK6 := hide (HK5.out.below hb6)
              clear hb6 kW c10 HP5 HA5 HK5 HO5
              have c10 := cells_of_block HP6.out.hd 10 (.int .u64 (q.ol : Nat)) (by rw [List.getElem?_toArray]; exact HK6.out.c10)
              by_cases hok : q.ol = 0 ∨ (rb = true ∧ 1 ≤ rw ∧ rw ≤ 256)
              · have hcs : ((q.ol : Int) != 0) = false ∨ (((q.ol : Int) != 0) = true ∧ rb = true ∧ decide ((rw : Int) < 1) = false ∧ decide ((256 : Int) < (rw : Int)) = false) := by
                  by_cases h0 : q.ol = 0
                  · exact .inl (by simp [h0])
                  · rcases hok with h | ⟨h1, h2, h3⟩
                    · exact absurd h h0
                    · exact .inr ⟨by simp; omega, h1, decide_eq_false (by omega), decide_eq_false (by omega)⟩
                have kT := rf_table w6 q HK6.out
                clear hok
                go_upto_region 20 with fail
                go_cut [114] from 100 to 114 (fun v114 wx => v114 = .bool false ∧ wx = w6)
                case first =>
                  rcases hcs with a1 | ⟨a1, rfl, a2, a3⟩
                  all_goals
                    go_wp2
                    go_meet
                    exact ⟨rfl, rfl⟩
                case rest =>
                  obtain ⟨rfl, rfl⟩ := hcut
                  clear hcs c10
                  go_wp2_with (first
                    | ((with_reducible refine at_loadT (T := 90) ?_); refine load_row rfl _ _ rfl (w.heap.size + 2) _ (HLD.out _ _ HP6.out.x) rfl ?_))
                  refine kT.mono ?_
                  rintro e w7 ⟨⟨t, hgood, rfl⟩, hb7⟩
                  have HP7 := hide (HP6.out.stay (hb7.trans ((below1 w7 (.cells t.cells.toArray 97)).mono hb7.size)))
                  have HK7 := hide (HK6.out.below (hb7.trans ((below1 w7 (.cells t.cells.toArray 97)).mono hb7.size)))
                  have HA7 := hide (HA6.out.below (hb7.trans ((below1 w7 (.cells t.cells.toArray 97)).mono hb7.size)))
                  have HO7 := hide (HO6.out.stay (hb7.trans ((below1 w7 (.cells t.cells.toArray 97)).mono hb7.size)))
                  have HTB : Hid ((w7.alloc (.cells t.cells.toArray 97)).heap[w7.heap.size]? = some (.cells t.cells.toArray 97 (0, 0))) := heap_alloc_new _ _
                  have c11 := cells_of_block HP7.out.hd 11 (.int .u64 (q.nw : Nat)) (by rw [List.getElem?_toArray]; exact HK7.out.c11)
                  have HGD := hide hgood
                  clear kT hb7 HP6 HK6 HA6 HO6 hgood
                  obtain ⟨okb, x0, x1, x2, x3, x4, x5, x6⟩ := t
                  simp only [Nt.cells] at HP7 HK7 HA7 HO7 HTB c11 ⊢
                  have t0 := cells_of_block HTB.out 0 (.bool okb) rfl
                  by_cases hok : q.nw = 0 ∨ okb = true
                  · have hcs : ((q.nw : Int) != 0) = false ∨ (((q.nw : Int) != 0) = true ∧ okb = true) := by
                      by_cases h0 : q.nw = 0
                      · exact .inl (by simp [h0])
                      · exact .inr ⟨by simp; omega, hok.resolve_left h0⟩
                    have HOK := hide hok
                    clear hok
                    go_upto_region 23 with fail
                    generalize hw8 : World.alloc w7 _ = w8 at *
                    go_cut [124] from 117 to 124 (fun v124 wx => v124 = .bool false ∧ wx = w8)
                    case first =>
                      rcases hcs with a1 | ⟨a1, rfl⟩
                      all_goals
                        go_wp2
                        go_meet
                        exact ⟨rfl, rfl⟩
                    case rest =>
                      obtain ⟨rfl, rfl⟩ := hcut
                      clear hcs c11 t0 hw8
                      go_wp2
                      go_loopw [21] (fun vi wr => ∃ j : Nat, vi = .int .i64 j ∧ j ≤ i ∧ Hid (Below wc.heap.size wc wr)) (fun vi _ => i - (intOf vi).toNat)
                      case atStart => exact ⟨0, rfl, by omega, Below.refl _ _⟩
                      case round =>
                        obtain ⟨j, rfl, hj, HBj⟩ := hrel
                        by_cases hlj : j < i
                        · have hljI : (j : Int) < (i : Int) := by omega
                          have hjl : j < L.length := by rw [HL.out]; exact hlj
                          have HNM : Hid (L[j].name.length ≤ 140737488351232) := (HBR.out _ (List.getElem_mem hjl)).2
                          obtain ⟨g, rfl, p1, p2, _, y0, y1, y2, y3, y4, y5, y6⟩ := (HA7.out.below HBj.out).at j hjl
                          rw [HL.out] at p1
                          have HY0 : Hid (∀ W, Below wr.heap.size wr W → W.cell? ⟨g, j * 7, none⟩ = some (.string ⟨L[j].name.toArray⟩)) := fun W hW => (hW.cell (p := ⟨g, j * 7, none⟩) (World.block_lt_of_cell? _ _ y0)).trans y0
                          generalize L[j] = pS at *
                          obtain ⟨nm, vr, hd, bd, df, vl, sz⟩ := pS
                          simp only at y0 y1 y2 y3 y4 y5 y6 HNM HY0
                          have kH := ref10_Had ⟨nm, vr, hd, bd, df, vl, sz⟩ wr
                          generalize had ⟨nm, vr, hd, bd, df, vl, sz⟩ = hb at *
                          go_wp2_with fail
                          refine kH.mono ?_
                          rintro e w8 ⟨rfl, hb8⟩
                          have HBj8 : Hid (Below wc.heap.size wc w8) := HBj.out.trans (hb8.mono HBj.out.size)
                          have yY := HY0.out w8 hb8
                          clear kH hb8 y0 y1 y2 y3 y4 y5 y6 HBj
                          cases hb with
                          | false =>
                            go_wp2
                            go_roundw
                            case rel => exact ⟨j + 1, by go_num, by omega, HBj8⟩
                            case measure => simp [intOf]; omega
                          | true =>
                            have HK8 := hide (HK7.out.below HBj8.out)
                            have HP8 := hide (HP7.out.stay HBj8.out)
                            have HT8 := hide (block_stay HTB.out HBj8.out)
                            have k10 := cells_of_block HP8.out.hd 10 (.int .u64 (q.ol : Nat)) (by rw [List.getElem?_toArray]; exact HK8.out.c10)
                            have k11 := cells_of_block HP8.out.hd 11 (.int .u64 (q.nw : Nat)) (by rw [List.getElem?_toArray]; exact HK8.out.c11)
                            have e10 := cell_regrown k10
                            have e11 := cell_regrown k11
                            have eY := cell_regrown yY
                            have HLQ := hide (fun W (hW : ∃ p : Regrown, W = grow (redrawn w8 p.d) p.os) => HLD.out W (w.heap.size + 2) (by obtain ⟨p, rfl⟩ := hW; exact HP8.out.x.stay (below_regrown w8 p.d p.os)))
                            have HTQ := hide (fun W (hW : ∃ p : Regrown, W = grow (redrawn w8 p.d) p.os) => load_nt (w := W) (g := w7.heap.size) (t := ⟨okb, x0, x1, x2, x3, x4, x5, x6⟩) (by obtain ⟨p, rfl⟩ := hW; exact block_stay HT8.out (below_regrown w8 p.d p.os)))
                            have QO := hide (fun d os => Calls.regrown_of (rf_older (grow (redrawn w8 d) os) q (HK8.out.below (below_regrown w8 d os)) nm HNM.out j i (by omega) (by omega)))
                            generalize rOlder q nm j i = ob at *
                            obtain ⟨bo, hbo⟩ : ∃ b, ((q.ol : Int) != 0) = b := ⟨_, rfl⟩
                            obtain ⟨bn, hbn⟩ : ∃ b, ((q.nw : Int) != 0) = b := ⟨_, rfl⟩
                            have hok : bn = true → okb = true := fun e => by
                              rcases HOK.out with h | h
                              · rw [e] at hbn; simp [h] at hbn
                              · exact h
                            cases bn with
                            | false =>
                              have QL : Hid (True) := trivial
                              clear hok
                              cases bo <;> cases ob
                              · go_upto_region 29 with fail
                                try simp only [List.append_eq, List.cons_append, List.nil_append]
                                refine wp_region_quiet_below (by kernel_rfl) (by kernel_rfl) ?_
                                repeat (go_big_quiet_step (fail))
                                refine wpQuiet_nil ?_
                                intro _ hwq
                                obtain ⟨⟨ds, oss⟩, hwq2⟩ := hwq
                                subst hwq2
                                have HB9 : Hid (Below wc.heap.size wc (grow (redrawn w8 ds) oss)) := HBj8.out.trans ((below_regrown w8 ds oss).mono HBj8.out.size)
                                have HP9 := hide (HP7.out.stay HB9.out)
                                clear e10 e11 eY k10 k11 yY HLQ HTQ QO QL
                                generalize grow _ _ = w9 at *
                                go_wp2
                                go_roundw
                                case rel => exact ⟨j + 1, by go_num, by omega, HB9⟩
                                case measure => simp [intOf]; omega
                              · go_upto_region 29 with fail
                                try simp only [List.append_eq, List.cons_append, List.nil_append]
                                refine wp_region_quiet_below (by kernel_rfl) (by kernel_rfl) ?_
                                repeat (go_big_quiet_step (fail))
                                refine wpQuiet_nil ?_
                                intro _ hwq
                                obtain ⟨⟨ds, oss⟩, hwq2⟩ := hwq
                                subst hwq2
                                have HB9 : Hid (Below wc.heap.size wc (grow (redrawn w8 ds) oss)) := HBj8.out.trans ((below_regrown w8 ds oss).mono HBj8.out.size)
                                have HP9 := hide (HP7.out.stay HB9.out)
                                clear e10 e11 eY k10 k11 yY HLQ HTQ QO QL
                                generalize grow _ _ = w9 at *
                                go_wp2
                                go_roundw
                                case rel => exact ⟨j + 1, by go_num, by omega, HB9⟩
                                case measure => simp [intOf]; omega
                              · go_upto_region 29 with fail
                                try simp only [List.append_eq, List.cons_append, List.nil_append]
                                refine wp_region_quiet_below (by kernel_rfl) (by kernel_rfl) ?_
                                iterate 4 (go_big_quiet_step (fail))
                                (refine quiet_loadW 90 _ (by rfl) _ rfl _ HLQ.out (by rfl) _ rfl ?_); simp only [Act.put, List.setIfInBounds_toArray, List.set_cons_succ, List.set_cons_zero]
                                repeat (go_big_quiet_step (exact QO.out _ _))
                                refine wpQuiet_nil ?_
                                intro _ hwq
                                obtain ⟨⟨ds, oss⟩, hwq2⟩ := hwq
                                subst hwq2
                                have HB9 : Hid (Below wc.heap.size wc (grow (redrawn w8 ds) oss)) := HBj8.out.trans ((below_regrown w8 ds oss).mono HBj8.out.size)
                                have HP9 := hide (HP7.out.stay HB9.out)
                                clear e10 e11 eY k10 k11 yY HLQ HTQ QO QL
                                generalize grow _ _ = w9 at *
                                go_wp2
                                go_ret2
                                exact ⟨.inl ⟨101, by decide, by decide, rfl⟩, HP9.out.b⟩
                              · go_upto_region 29 with fail
                                try simp only [List.append_eq, List.cons_append, List.nil_append]
                                refine wp_region_quiet_below (by kernel_rfl) (by kernel_rfl) ?_
                                iterate 4 (go_big_quiet_step (fail))
                                (refine quiet_loadW 90 _ (by rfl) _ rfl _ HLQ.out (by rfl) _ rfl ?_); simp only [Act.put, List.setIfInBounds_toArray, List.set_cons_succ, List.set_cons_zero]
                                repeat (go_big_quiet_step (exact QO.out _ _))
                                refine wpQuiet_nil ?_
                                intro _ hwq
                                obtain ⟨⟨ds, oss⟩, hwq2⟩ := hwq
                                subst hwq2
                                have HB9 : Hid (Below wc.heap.size wc (grow (redrawn w8 ds) oss)) := HBj8.out.trans ((below_regrown w8 ds oss).mono HBj8.out.size)
                                have HP9 := hide (HP7.out.stay HB9.out)
                                clear e10 e11 eY k10 k11 yY HLQ HTQ QO QL
                                generalize grow _ _ = w9 at *
                                go_wp2
                                go_roundw
                                case rel => exact ⟨j + 1, by go_num, by omega, HB9⟩
                                case measure => simp [intOf]; omega
                            | true =>
                              obtain rfl := hok rfl
                              clear hok
                              have QL := hide (fun d os => Calls.regrown_of (rf_leads q ⟨true, x0, x1, x2, x3, x4, x5, x6⟩ HGD.out rfl nm HNM.out j (by omega) (grow (redrawn w8 d) os) (HK8.out.below (below_regrown w8 d os))))
                              simp only at QL
                              generalize rLead q x0 x1 x2 x3 x4 x5 x6 (gnu nm) j = lb at *
                              cases bo <;> cases ob <;> cases lb
                              · go_upto_region 29 with fail
                                try simp only [List.append_eq, List.cons_append, List.nil_append]
                                refine wp_region_quiet_below (by kernel_rfl) (by kernel_rfl) ?_
                                iterate 21 (go_big_quiet_step (fail))
                                (refine quiet_loadW 90 _ (by rfl) _ rfl _ HLQ.out (by rfl) _ rfl ?_); simp only [Act.put, List.setIfInBounds_toArray, List.set_cons_succ, List.set_cons_zero]
                                (refine quiet_loadW 97 _ (by rfl) _ rfl _ HTQ.out (by rfl) _ rfl ?_); simp only [Act.put, List.setIfInBounds_toArray, List.set_cons_succ, List.set_cons_zero]
                                repeat (go_big_quiet_step (exact QL.out _ _))
                                refine wpQuiet_nil ?_
                                intro _ hwq
                                obtain ⟨⟨ds, oss⟩, hwq2⟩ := hwq
                                subst hwq2
                                have HB9 : Hid (Below wc.heap.size wc (grow (redrawn w8 ds) oss)) := HBj8.out.trans ((below_regrown w8 ds oss).mono HBj8.out.size)
                                have HP9 := hide (HP7.out.stay HB9.out)
                                clear e10 e11 eY k10 k11 yY HLQ HTQ QO QL
                                generalize grow _ _ = w9 at *
                                go_wp2
                                go_ret2
                                exact ⟨.inl ⟨101, by decide, by decide, rfl⟩, HP9.out.b⟩
                              · go_upto_region 29 with fail
                                try simp only [List.append_eq, List.cons_append, List.nil_append]
                                refine wp_region_quiet_below (by kernel_rfl) (by kernel_rfl) ?_
                                iterate 21 (go_big_quiet_step (fail))
                                (refine quiet_loadW 90 _ (by rfl) _ rfl _ HLQ.out (by rfl) _ rfl ?_); simp only [Act.put, List.setIfInBounds_toArray, List.set_cons_succ, List.set_cons_zero]
                                (refine quiet_loadW 97 _ (by rfl) _ rfl _ HTQ.out (by rfl) _ rfl ?_); simp only [Act.put, List.setIfInBounds_toArray, List.set_cons_succ, List.set_cons_zero]
                                repeat (go_big_quiet_step (exact QL.out _ _))
                                refine wpQuiet_nil ?_
                                intro _ hwq
                                obtain ⟨⟨ds, oss⟩, hwq2⟩ := hwq
                                subst hwq2
                                have HB9 : Hid (Below wc.heap.size wc (grow (redrawn w8 ds) oss)) := HBj8.out.trans ((below_regrown w8 ds oss).mono HBj8.out.size)
                                have HP9 := hide (HP7.out.stay HB9.out)
                                clear e10 e11 eY k10 k11 yY HLQ HTQ QO QL
                                generalize grow _ _ = w9 at *
                                go_wp2
                                go_roundw
                                case rel => exact ⟨j + 1, by go_num, by omega, HB9⟩
                                case measure => simp [intOf]; omega
                              · go_upto_region 29 with fail
                                try simp only [List.append_eq, List.cons_append, List.nil_append]
                                refine wp_region_quiet_below (by kernel_rfl) (by kernel_rfl) ?_
                                iterate 21 (go_big_quiet_step (fail))
                                (refine quiet_loadW 90 _ (by rfl) _ rfl _ HLQ.out (by rfl) _ rfl ?_); simp only [Act.put, List.setIfInBounds_toArray, List.set_cons_succ, List.set_cons_zero]
                                (refine quiet_loadW 97 _ (by rfl) _ rfl _ HTQ.out (by rfl) _ rfl ?_); simp only [Act.put, List.setIfInBounds_toArray, List.set_cons_succ, List.set_cons_zero]
                                repeat (go_big_quiet_step (exact QL.out _ _))
                                refine wpQuiet_nil ?_
                                intro _ hwq
                                obtain ⟨⟨ds, oss⟩, hwq2⟩ := hwq
                                subst hwq2
                                have HB9 : Hid (Below wc.heap.size wc (grow (redrawn w8 ds) oss)) := HBj8.out.trans ((below_regrown w8 ds oss).mono HBj8.out.size)
                                have HP9 := hide (HP7.out.stay HB9.out)
                                clear e10 e11 eY k10 k11 yY HLQ HTQ QO QL
                                generalize grow _ _ = w9 at *
                                go_wp2
                                go_ret2
                                exact ⟨.inl ⟨101, by decide, by decide, rfl⟩, HP9.out.b⟩
                              · go_upto_region 29 with fail
                                try simp only [List.append_eq, List.cons_append, List.nil_append]
                                refine wp_region_quiet_below (by kernel_rfl) (by kernel_rfl) ?_
                                iterate 21 (go_big_quiet_step (fail))
                                (refine quiet_loadW 90 _ (by rfl) _ rfl _ HLQ.out (by rfl) _ rfl ?_); simp only [Act.put, List.setIfInBounds_toArray, List.set_cons_succ, List.set_cons_zero]
                                (refine quiet_loadW 97 _ (by rfl) _ rfl _ HTQ.out (by rfl) _ rfl ?_); simp only [Act.put, List.setIfInBounds_toArray, List.set_cons_succ, List.set_cons_zero]
                                repeat (go_big_quiet_step (exact QL.out _ _))
                                refine wpQuiet_nil ?_
                                intro _ hwq
                                obtain ⟨⟨ds, oss⟩, hwq2⟩ := hwq
                                subst hwq2
                                have HB9 : Hid (Below wc.heap.size wc (grow (redrawn w8 ds) oss)) := HBj8.out.trans ((below_regrown w8 ds oss).mono HBj8.out.size)
                                have HP9 := hide (HP7.out.stay HB9.out)
                                clear e10 e11 eY k10 k11 yY HLQ HTQ QO QL
                                generalize grow _ _ = w9 at *
                                go_wp2
                                go_roundw
                                case rel => exact ⟨j + 1, by go_num, by omega, HB9⟩
                                case measure => simp [intOf]; omega
                              · go_upto_region 29 with fail
                                try simp only [List.append_eq, List.cons_append, List.nil_append]
                                refine wp_region_quiet_below (by kernel_rfl) (by kernel_rfl) ?_
                                iterate 4 (go_big_quiet_step (fail))
                                (refine quiet_loadW 90 _ (by rfl) _ rfl _ HLQ.out (by rfl) _ rfl ?_); simp only [Act.put, List.setIfInBounds_toArray, List.set_cons_succ, List.set_cons_zero]
                                repeat (go_big_quiet_step (exact QO.out _ _))
                                refine wpQuiet_nil ?_
                                intro _ hwq
                                obtain ⟨⟨ds, oss⟩, hwq2⟩ := hwq
                                subst hwq2
                                have HB9 : Hid (Below wc.heap.size wc (grow (redrawn w8 ds) oss)) := HBj8.out.trans ((below_regrown w8 ds oss).mono HBj8.out.size)
                                have HP9 := hide (HP7.out.stay HB9.out)
                                clear e10 e11 eY k10 k11 yY HLQ HTQ QO QL
                                generalize grow _ _ = w9 at *
                                go_wp2
                                go_ret2
                                exact ⟨.inl ⟨101, by decide, by decide, rfl⟩, HP9.out.b⟩
                              · go_upto_region 29 with fail
                                try simp only [List.append_eq, List.cons_append, List.nil_append]
                                refine wp_region_quiet_below (by kernel_rfl) (by kernel_rfl) ?_
                                iterate 4 (go_big_quiet_step (fail))
                                (refine quiet_loadW 90 _ (by rfl) _ rfl _ HLQ.out (by rfl) _ rfl ?_); simp only [Act.put, List.setIfInBounds_toArray, List.set_cons_succ, List.set_cons_zero]
                                repeat (go_big_quiet_step (exact QO.out _ _))
                                refine wpQuiet_nil ?_
                                intro _ hwq
                                obtain ⟨⟨ds, oss⟩, hwq2⟩ := hwq
                                subst hwq2
                                have HB9 : Hid (Below wc.heap.size wc (grow (redrawn w8 ds) oss)) := HBj8.out.trans ((below_regrown w8 ds oss).mono HBj8.out.size)
                                have HP9 := hide (HP7.out.stay HB9.out)
                                clear e10 e11 eY k10 k11 yY HLQ HTQ QO QL
                                generalize grow _ _ = w9 at *
                                go_wp2
                                go_ret2
                                exact ⟨.inl ⟨101, by decide, by decide, rfl⟩, HP9.out.b⟩
                              · go_upto_region 29 with fail
                                try simp only [List.append_eq, List.cons_append, List.nil_append]
                                refine wp_region_quiet_below (by kernel_rfl) (by kernel_rfl) ?_
                                iterate 4 (go_big_quiet_step (fail))
                                (refine quiet_loadW 90 _ (by rfl) _ rfl _ HLQ.out (by rfl) _ rfl ?_); simp only [Act.put, List.setIfInBounds_toArray, List.set_cons_succ, List.set_cons_zero]
                                iterate 16 (go_big_quiet_step (exact QO.out _ _))
                                (refine quiet_loadW 90 _ (by rfl) _ rfl _ HLQ.out (by rfl) _ rfl ?_); simp only [Act.put, List.setIfInBounds_toArray, List.set_cons_succ, List.set_cons_zero]
                                (refine quiet_loadW 97 _ (by rfl) _ rfl _ HTQ.out (by rfl) _ rfl ?_); simp only [Act.put, List.setIfInBounds_toArray, List.set_cons_succ, List.set_cons_zero]
                                repeat (go_big_quiet_step (exact QL.out _ _))
                                refine wpQuiet_nil ?_
                                intro _ hwq
                                obtain ⟨⟨ds, oss⟩, hwq2⟩ := hwq
                                subst hwq2
                                have HB9 : Hid (Below wc.heap.size wc (grow (redrawn w8 ds) oss)) := HBj8.out.trans ((below_regrown w8 ds oss).mono HBj8.out.size)
                                have HP9 := hide (HP7.out.stay HB9.out)
                                clear e10 e11 eY k10 k11 yY HLQ HTQ QO QL
                                generalize grow _ _ = w9 at *
                                go_wp2
                                go_ret2
                                exact ⟨.inl ⟨101, by decide, by decide, rfl⟩, HP9.out.b⟩
                              · go_upto_region 29 with fail
                                try simp only [List.append_eq, List.cons_append, List.nil_append]
                                refine wp_region_quiet_below (by kernel_rfl) (by kernel_rfl) ?_
                                iterate 4 (go_big_quiet_step (fail))
                                (refine quiet_loadW 90 _ (by rfl) _ rfl _ HLQ.out (by rfl) _ rfl ?_); simp only [Act.put, List.setIfInBounds_toArray, List.set_cons_succ, List.set_cons_zero]
                                iterate 16 (go_big_quiet_step (exact QO.out _ _))
                                (refine quiet_loadW 90 _ (by rfl) _ rfl _ HLQ.out (by rfl) _ rfl ?_); simp only [Act.put, List.setIfInBounds_toArray, List.set_cons_succ, List.set_cons_zero]
                                (refine quiet_loadW 97 _ (by rfl) _ rfl _ HTQ.out (by rfl) _ rfl ?_); simp only [Act.put, List.setIfInBounds_toArray, List.set_cons_succ, List.set_cons_zero]
                                repeat (go_big_quiet_step (exact QL.out _ _))
                                refine wpQuiet_nil ?_
                                intro _ hwq
                                obtain ⟨⟨ds, oss⟩, hwq2⟩ := hwq
                                subst hwq2
                                have HB9 : Hid (Below wc.heap.size wc (grow (redrawn w8 ds) oss)) := HBj8.out.trans ((below_regrown w8 ds oss).mono HBj8.out.size)
                                have HP9 := hide (HP7.out.stay HB9.out)
                                clear e10 e11 eY k10 k11 yY HLQ HTQ QO QL
                                generalize grow _ _ = w9 at *
                                go_wp2
                                go_roundw
                                case rel => exact ⟨j + 1, by go_num, by omega, HB9⟩
                                case measure => simp [intOf]; omega
                        · have hljI : ¬ (j : Int) < (i : Int) := by omega
                          go_wp2
                          go_ret2
                          exact ⟨.inr ⟨_, L, rfl, HO7.out.stay HBj.out, HNE.out, HL6.out, fun s hs => (HBR.out s hs).1⟩, (HP7.out.stay HBj.out).b⟩
                  · have a1 : ((q.nw : Int) != 0) = true := by simp; intro e; exact hok (.inl e)
                    obtain rfl : okb = false := by cases okb; rfl; exact absurd (.inr rfl) hok
                    clear hok
                    go_wp2
                    go_ret2
                    exact ⟨.inl ⟨101, by decide, by decide, rfl⟩, HP7.out.b⟩
              · have hcs : ((q.ol : Int) != 0) = true ∧ (rb = false ∨ (rb = true ∧ (rw : Int) < 1) ∨ (rb = true ∧ decide ((rw : Int) < 1) = false ∧ (256 : Int) < (rw : Int))) := by
                  refine ⟨by simp; intro e; exact hok (.inl e), ?_⟩
                  by_cases h1 : rb = true
                  · by_cases h2 : 1 ≤ rw
                    · by_cases h3 : rw ≤ 256
                      · exact absurd (.inr ⟨h1, h2, h3⟩) hok
                      · exact .inr (.inr ⟨h1, decide_eq_false (by omega), by omega⟩)
                    · exact .inr (.inl ⟨h1, by omega⟩)
                  · exact .inl (by simpa using h1)
                clear hok
                obtain ⟨a1, hcs⟩ := hcs
                rcases hcs with rfl | ⟨rfl, a2⟩ | ⟨rfl, a2, a3⟩
                all_goals
                  go_wp2
                  go_ret2
                  exact ⟨.inl ⟨101, by decide, by decide, rfl⟩, HP6.out.b⟩
  · have hkb : ((k : Int) != 0) = true := by simp; omega
    have HKK : Hid (0 < k ∧ k < 1000) := ⟨by omega, hkk⟩
    clear hk0
    go_wp2
    go_ret2
    exact ⟨.inl ⟨k, HKK.out.1, HKK.out.2, rfl⟩, HP2.out.b⟩
end Go.Proofs.Ytdclofiifcpkkaa
