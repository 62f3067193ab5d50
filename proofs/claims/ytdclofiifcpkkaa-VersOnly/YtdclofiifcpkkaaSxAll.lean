
/-
  SxA SxB SxC SxD RgS SxE SxF SxG SxH
-/
import Derived.Test.YtdclofiifcpkkaaSyOne
import Derived.Test.YtdclofiifcpkkaaVeXs
import Derived.Deep.MidRow
import Derived.Test.YtdclofiifcpkkaaDyOne
import Derived.Deep.CutRange
import Derived.BigRegion
import Derived.BigQuiet
import Derived.Lib.QuietBelow
import Derived.Test.YtdclofiifcpkkaaProg
import Derived.Test.YtdclofiifcpkkaaVeRef
import Derived.Test.YtdclofiifcpkkaaTextB
import Derived.Test.YtdclofiifcpkkaaHdTwo
import Derived.Test.YtdclofiifcpkkaaRgV
set_option linter.unusedVariables false
namespace Go.Proofs.Ytdclofiifcpkkaa
open Go.RowKit Go.PlainAid Go.Sort
/-- A library's file: its bytes, what its headers say, its section (forty cells), and the three places in it that are asked. -/
structure Lp where
  ba : Option Addr
  bn : Nat
  bc : Nat
  l : List UInt8
  m : Nat
  va : Option Addr
  vn : Nat
  vc : Nat
  d : Ph
  r : Ph
  ps : List Ph
  cs : List Value
  st : Nat
  sl : Nat
  sy : Nat
  ol : Nat
  nw : Nat
def Lp.hC (q : Lp) : List Value := hdCells q.m (.slice q.va q.vn q.vc) q.d q.r
def Lp.lC (q : Lp) : List Value := .slice q.ba q.bn q.bc :: (q.hC ++ q.cs)
structure Lk (w : World) (q : Lp) : Prop where
  b : Arg w (.slice q.ba q.bn q.bc) q.l
  h : ArgH w (.slice q.va q.vn q.vc) q.ps
  ok : ∀ p ∈ q.ps, p.ok
  sm : ∀ p ∈ q.ps, p.off + p.filesz ≤ 1000000
  sp : ∀ p ∈ q.ps, p.vaddr + p.memsz ≤ 1000000
  sz : q.cs.length = 40
  one : ∀ u ∈ q.cs, u.oneCell' = true
  c7 : q.cs[7]? = some (.int .u64 (q.st : Nat))
  c8 : q.cs[8]? = some (.int .u64 (q.sl : Nat))
  c9 : q.cs[9]? = some (.int .u64 (q.sy : Nat))
  c10 : q.cs[10]? = some (.int .u64 (q.ol : Nat))
  c11 : q.cs[11]? = some (.int .u64 (q.nw : Nat))
  b7 : q.st < 18446744073709551616
  b8 : q.sl < 18446744073709551616
  b9 : q.sy < 18446744073709551616
  b10 : q.ol < 18446744073709551616
  b11 : q.nw < 18446744073709551616
  lm : q.l.length ≤ 1000000
theorem Lk.below {w w' : World} {q : Lp} (h : Lk w q) (hb : Below w.heap.size w w') : Lk w' q := { h with b := h.b.below' hb, h := h.h.below hb }
theorem hC_len (q : Lp) : q.hC.length = 16 := rfl
theorem lC_len {w : World} {q : Lp} (h : Lk w q) : q.lC.toArray.size = 57 := by
  show (Value.slice q.ba q.bn q.bc :: (q.hC ++ q.cs)).toArray.size = 57
  rw [List.size_toArray, List.length_cons, List.length_append, hC_len, h.sz]
theorem lC_one {w : World} {q : Lp} (h : Lk w q) : ∀ u ∈ q.lC, u.oneCell' = true := fun u hu => by
  unfold Lp.lC at hu
  rw [List.mem_cons, List.mem_append] at hu
  rcases hu with rfl | hu | hu
  · rfl
  · exact hd_one _ _ _ _ _ _ u hu
  · exact h.one u hu
theorem lC_at {q : Lp} {k : Nat} {u : Value} (h : q.cs[k]? = some u) : q.lC.toArray[17 + k]? = some u := by
  show (Value.slice q.ba q.bn q.bc :: (q.hC ++ q.cs)).toArray[17 + k]? = _
  rw [List.getElem?_toArray, show 17 + k = (16 + k) + 1 by omega, List.getElem?_cons_succ, List.getElem?_append_right (by rw [hC_len]; omega), hC_len, show 16 + k - 16 = k by omega]
  exact h
/-- A block that holds it. -/
def HasL (w : World) (g : Nat) (q : Lp) : Prop := w.heap[g]? = some (.cells q.lC.toArray 90 (0, 0))
theorem HasL.stay {w w' : World} {g : Nat} {q : Lp} (h : HasL w g q) (hb : Below w.heap.size w w') : HasL w' g q := block_stay h hb
theorem HasL.c0 {w : World} {g : Nat} {q : Lp} (h : HasL w g q) : w.cell? ⟨g, 0, none⟩ = some (.slice q.ba q.bn q.bc) := cells_of_block h 0 _ rfl
theorem HasL.old {w v : World} {g : Nat} {q : Lp} (h : HasL w g q) (k : Lk v q) : w.cell? ⟨g, 27, none⟩ = some (.int .u64 (q.ol : Nat)) := cells_of_block h 27 _ (lC_at k.c10)
theorem HasL.new {w v : World} {g : Nat} {q : Lp} (h : HasL w g q) (k : Lk v q) : w.cell? ⟨g, 28, none⟩ = some (.int .u64 (q.nw : Nat)) := cells_of_block h 28 _ (lC_at k.c11)
theorem HasL.heads {w : World} {g : Nat} {q : Lp} (h : HasL w g q) : w.rangeAt g 1 q.hC := fun j v hj => by
  have hj16 : j < 16 := by have := (List.getElem?_eq_some_iff.1 hj).1; rwa [hC_len] at this
  refine cells_of_block h (1 + j) v ?_
  show (Value.slice q.ba q.bn q.bc :: (q.hC ++ q.cs)).toArray[1 + j]? = _
  rw [List.getElem?_toArray, show 1 + j = j + 1 by omega, List.getElem?_cons_succ, List.getElem?_append_left (by rw [hC_len]; omega)]
  exact hj
theorem load_L {w v : World} {g : Nat} {q : Lp} (h : HasL w g q) (k : Lk v q) : (loadVar 90 ⟨g, 0, none⟩).run Try.prog w = .ok (.agg q.lC.toArray) w :=
  run_loadVar_row w g 90 90 q.lC.toArray (0, 0) _ h Try.underlying90 rfl (by rw [lC_len k]; kernel_rfl)
def WordIs (w w' : World) (e : Ending) : Prop := (∃ (n : Nat) (b : Bool), n < 4294967296 ∧ e = .returned (.tuple #[.int .u64 (n : Nat), .bool b])) ∧ Below w.heap.size w w'
set_option maxHeartbeats 2000000 in
set_option maxRecDepth 20000 in
theorem rf_word (w : World) (q : Lp) (hk : Lk w q) (a : Nat) (ha : a < 18446744073709551616) :
    Calls Try.prog 36 #[.agg q.lC.toArray, .int .u64 (a : Nat)] w fun e w' => WordIs w w' e := by
  have HB := hide ((Below.refl w.heap.size w).alloc (Nat.le_refl _) (.cells q.lC.toArray 90))
  have HG : Hid (HasL (w.alloc (.cells q.lC.toArray 90)) w.heap.size q) := heap_alloc_new _ _
  have kO := ref8_Off _ q.m (.slice q.va q.vn q.vc) q.d q.r q.ps (hk.h.below HB.out) hk.ok hk.sm a 4 ha (by decide)
  have HO : Hid ((offN q.ps a 4).1 < 18446744073709551616) := by
    unfold Hid
    have key : ∀ ps : List Ph, (offN ps a 4).1 < 18446744073709551616 := fun ps => by
      induction ps with
      | nil => show 0 < _; decide
      | cons p t ih =>
        unfold offN
        split
        · split
          · show p.off + (a - p.vaddr) < _; omega
          · show 0 < _; decide
        · exact ih
    exact key _
  have HK := hide (hk.below HB.out)
  unfold offV at kO
  generalize (offN q.ps a 4).1 = o at *
  generalize (offN q.ps a 4).2 = ob at *
  have HN : Hid (vN q.l o 4 < 4294967296) := vN_lt q.l o 4
  have HG4 := hide (fun W (hW : Below (w.alloc (.cells q.lC.toArray 90)).heap.size (w.alloc (.cells q.lC.toArray 90)) W) => ref_Get_all W (.slice q.ba q.bn q.bc) q.l (HK.out.b.below' hW) o 4 (by have := HO.out; omega) (by decide) (by decide))
  generalize vN q.l o 4 = n at *
  generalize eN q.l o 4 = ge at *
  clear hk HK HO
  go_enter Try.func36, Try.ntmps36
  go_wp2_with (first
    | ((with_reducible refine at_loadT (T := 30) ?_); refine wpList_load_mid rfl _ _ rfl w.heap.size 1 rfl q.hC _ HG.out.heads Try.underlying30 rfl (by kernel_rfl) ?_))
  refine kO.mono ?_
  rintro e w1 ⟨rfl, hb1⟩
  have kG := HG4.out w1 hb1
  have c0 := (HG.out.stay hb1).c0
  have HB1 : Hid (Below w.heap.size w w1) := HB.out.trans (hb1.mono HB.out.size)
  clear kO hb1 HB HG HG4
  cases ob with
  | false =>
    go_wp2
    go_ret2
    exact ⟨⟨0, false, by decide, rfl⟩, HB1.out⟩
  | true =>
    go_wp2_with fail
    refine kG.mono ?_
    rintro e w2 ⟨rfl, rfl⟩
    clear kG c0
    go_wp2
    go_ret2
    exact ⟨⟨n, _, HN.out, rfl⟩, HB1.out⟩
end Go.Proofs.Ytdclofiifcpkkaa
namespace Go.Proofs.Ytdclofiifcpkkaa
open Go.RowKit Go.PlainAid Go.Sort
theorem wr_lo (x : Int) : 0 ≤ IntKind.u64.wrap x := by rw [IntKind.wrap_u64]; omega
theorem wr_hi (x : Int) : IntKind.u64.wrap x < 18446744073709551616 := by rw [IntKind.wrap_u64]; omega
theorem rf_wordZ (w : World) (q : Lp) (hk : Lk w q) (z : Int) (h0 : 0 ≤ z) (h1 : z < 18446744073709551616) :
    Calls Try.prog 36 #[.agg q.lC.toArray, .int .u64 z] w fun e w' => WordIs w w' e := by
  obtain ⟨n, rfl⟩ := Int.eq_ofNat_of_zero_le h0
  exact rf_word w q hk n (by omega)
structure Nt where
  ok : Bool
  rows : Nat
  first : Nat
  words : Nat
  shift : Nat
  filt : Nat
  row : Nat
  sums : Nat
def Nt.cells (t : Nt) : List Value := [.bool t.ok, .int .u64 t.rows, .int .u64 t.first, .int .u64 t.words, .int .u64 t.shift, .int .u64 t.filt, .int .u64 t.row, .int .u64 t.sums]
structure Nt.good (t : Nt) : Prop where
  rows : t.rows < 4294967296
  first : t.first < 4294967296
  words : t.words < 4294967296
  shift : t.shift < 4294967296
  filt : t.filt < 18446744073709551616
  row : t.row < 18446744073709551616
  sums : t.sums < 18446744073709551616
  ok : t.ok = true → 1 ≤ t.rows ∧ t.rows ≤ 256 ∧ 1 ≤ t.first ∧ t.first ≤ 256 ∧ 1 ≤ t.words
theorem Nt.one (t : Nt) : ∀ u ∈ t.cells, u.oneCell' = true := by
  intro u hu
  simp only [Nt.cells, List.mem_cons, List.not_mem_nil, or_false] at hu
  rcases hu with rfl | rfl | rfl | rfl | rfl | rfl | rfl | rfl <;> rfl
theorem u64_sizeN : ∀ w, (Go.sizeOf 26).run Try.prog w = .ok 1 w := Try.sizeOf26
theorem nt_size : ∀ w, (Go.sizeOf 97).run Try.prog w = .ok 8 w := Try.sizeOf97
theorem load_nt {w : World} {g : Nat} {t : Nt} (h : w.heap[g]? = some (.cells t.cells.toArray 97 (0, 0))) : (loadVar 97 ⟨g, 0, none⟩).run Try.prog w = .ok (.agg t.cells.toArray) w :=
  run_loadVar_row w g 97 97 t.cells.toArray (0, 0) _ h Try.underlying97 rfl (by kernel_rfl)
/-- What table holds: the file, the answer's place, the table. -/
structure Tb (w wx : World) (q : Lp) (t : Nt) : Prop where
  b : Below w.heap.size w wx
  l : HasL wx w.heap.size q
  r : wx.heap[w.heap.size + 1]? = some (.cells (Nt.cells ⟨false, 0, 0, 0, 0, 0, 0, 0⟩).toArray 97 (0, 0))
  t : wx.heap[w.heap.size + 2]? = some (.cells t.cells.toArray 97 (0, 0))
theorem Tb.stay {w wx wy : World} {q : Lp} {t : Nt} (h : Tb w wx q t) (hb : Below wx.heap.size wx wy) : Tb w wy q t := ⟨h.b.trans (hb.mono h.b.size), h.l.stay hb, block_stay h.r hb, block_stay h.t hb⟩
theorem Tb.set {w wx wy : World} {q : Lp} {t u : Nt} (h : Tb w wx q t) (hg : wy.heap[w.heap.size + 2]? = some (.cells u.cells.toArray 97 (0, 0))) (hb : wx.grownBy wy (some (w.heap.size + 2))) : Tb w wy q u :=
  ⟨grown_below (by omega) h.b hb, (hb.block _ (Array.getElem?_eq_some_iff.1 h.l).1 (by intro e; injection e with e; omega)).trans h.l, (hb.block _ (Array.getElem?_eq_some_iff.1 h.r).1 (by intro e; injection e with e; omega)).trans h.r, hg⟩
theorem Tb.begin (w : World) (q : Lp) (t : Nt) : Tb w (((w.alloc (.cells q.lC.toArray 90)).alloc (.cells (Nt.cells ⟨false, 0, 0, 0, 0, 0, 0, 0⟩).toArray 97)).alloc (.cells t.cells.toArray 97)) q t := by
  have e1 : (w.alloc (.cells q.lC.toArray 90)).heap.size = w.heap.size + 1 := by simp
  have e2 : ((w.alloc (.cells q.lC.toArray 90)).alloc (.cells (Nt.cells ⟨false, 0, 0, 0, 0, 0, 0, 0⟩).toArray 97)).heap.size = w.heap.size + 2 := by simp
  refine ⟨(((Below.refl _ w).alloc (Nat.le_refl _) _).alloc (by simp) _).alloc (by rw [e2]; omega) _, ?_, ?_, ?_⟩
  · show _ = _
    rw [heap_alloc_old _ _ (by rw [e2]; omega), heap_alloc_old _ _ (by simp)]; exact heap_alloc_new _ _
  · rw [heap_alloc_old _ _ (by simp), ← e1]; exact heap_alloc_new _ _
  · rw [← e2]; exact heap_alloc_new _ _
theorem OwnU.stayU {w w' : World} {B : Nat} {v : Value} {l : List Nat} (h : OwnU w B v l) (hb : Below w.heap.size w w') : OwnU w' B v l := by
  unfold OwnU at h ⊢
  refine ⟨h.1, ?_⟩
  rcases h.2 with hn | ⟨g, cap, cur, rfl, hB, hg, rest⟩
  · exact .inl hn
  · refine .inr ⟨g, cap, cur, rfl, hB, ?_, rest⟩
    rw [hb.block g (Array.getElem?_eq_some_iff.1 hg).1]; exact hg
theorem OwnU.grownU {w w' : World} {B R : Nat} {v : Value} {l : List Nat} (h : OwnU w B v l) (hb : w.grownBy w' (some R)) (hR : R < B) : OwnU w' B v l := by
  unfold OwnU at h ⊢
  refine ⟨h.1, ?_⟩
  rcases h.2 with hn | ⟨g, cap, cur, rfl, hB, hg, rest⟩
  · exact .inl hn
  · refine .inr ⟨g, cap, cur, rfl, hB, ?_, rest⟩
    rw [hb.block g (Array.getElem?_eq_some_iff.1 hg).1 (fun e => by injection e with e; omega)]; exact hg
theorem OwnU.formU {w : World} {B : Nat} {v : Value} {l : List Nat} (h : OwnU w B v l) : ∃ a cap, v = .slice a l.length cap := by
  unfold OwnU at h
  rcases h.2 with ⟨rfl, hn⟩ | ⟨g, cap, cur, rfl, _⟩
  · exact ⟨none, 0, by rw [hn]⟩
  · exact ⟨_, _, rfl⟩
/-- Only blocks from one on turned: a row that grew. -/
theorem Tb.grow {w wx wy : World} {q : Lp} {t : Nt} {v : Value} {l : List Nat} (h : Tb w wx q t) (ho : OwnU wx (w.heap.size + 3) v l) (hb : wx.grownBy wy v.ownBlock) : Tb w wy q t := by
  have hk : ∀ k, v.ownBlock = some k → w.heap.size + 3 ≤ k := fun k hk => (World.ownsRow.lt ho k hk).1
  have hne : ∀ j, j < w.heap.size + 3 → v.ownBlock ≠ some j := fun j hj e => by have := hk j e; omega
  refine ⟨⟨?_, ?_, ?_, ?_, ?_⟩, (hb.block _ (Array.getElem?_eq_some_iff.1 h.l).1 (fun e => hne _ (by omega) e.symm)).trans h.l, (hb.block _ (Array.getElem?_eq_some_iff.1 h.r).1 (fun e => hne _ (by omega) e.symm)).trans h.r, (hb.block _ (Array.getElem?_eq_some_iff.1 h.t).1 (fun e => hne _ (by omega) e.symm)).trans h.t⟩
  · rw [hb.os]; exact h.b.os
  · rw [hb.tape]; exact h.b.tape
  · rw [hb.output]; exact h.b.output
  · exact Nat.le_trans h.b.size hb.size
  · intro k hk2
    rw [hb.block k (Nat.lt_of_lt_of_le hk2 h.b.size) (fun e => hne k (by omega) e.symm)]
    exact h.b.block k hk2
theorem frozen_nt {w : World} {g : Nat} {cs : Array Value} {T : TypeId} (h : w.heap[g]? = some (.cells cs T (0, 0))) (k : Nat) : w.frozen? ⟨g, k, none⟩ = false := by
  unfold World.frozen?
  rw [h]; rfl
theorem Tb.cell {w wx : World} {q : Lp} {t u : Nt} (h : Tb w wx q t) (j : Nat) (v : Value) (e : t.cells.toArray.setIfInBounds j v = u.cells.toArray) : Tb w (wx.setCell ⟨w.heap.size + 2, j, none⟩ v) q u := by
  have hs : ∀ k, k ≠ w.heap.size + 2 → (wx.setCell ⟨w.heap.size + 2, j, none⟩ v).heap[k]? = wx.heap[k]? := fun k hk => Below.heap_setCell _ _ _ _ hk
  refine ⟨h.b.setCell (by simp) _, (hs _ (by omega)).trans h.l, (hs _ (by omega)).trans h.r, ?_⟩
  rw [← e]
  have hg := h.t
  simp [World.setCell, Array.getElem?_modify, hg]
theorem build_nt (w : World) : (Instr.build 97 #[(0, .bool true)]).run Try.prog w = .ok (.agg (Nt.cells ⟨true, 0, 0, 0, 0, 0, 0, 0⟩).toArray) w := by kernel_rfl
set_option maxHeartbeats 4000000 in
set_option maxRecDepth 20000 in
theorem rf_table (w : World) (q : Lp) (hk : Lk w q) :
    Calls Try.prog 37 #[.agg q.lC.toArray] w fun e w' => (∃ t : Nt, t.good ∧ e = .returned (.agg t.cells.toArray)) ∧ Below w.heap.size w w' := by
  have HT := hide (Tb.begin w q ⟨true, 0, 0, 0, 0, 0, 0, 0⟩)
  have HK := hide hk
  have hnw := hk.b11
  obtain ⟨nw, hnwe⟩ : ∃ nw, q.nw = nw := ⟨_, rfl⟩
  have HNW := hide hnwe
  rw [hnwe] at hnw
  clear hk hnwe
  simp only [Nt.cells] at HT
  go_enter Try.func37, Try.ntmps37
  go_wp2
  go_loopw [4, 5] (fun v4 v5 wr => ∃ (i : Nat) (L : List Nat) (oa : Option Addr) (oc : Nat) (okb : Bool), v4 = .slice oa i oc ∧ v5 = .int .u64 i ∧ i ≤ 4 ∧ Hid (L.length = i) ∧ Hid (∀ x ∈ L, x < 4294967296) ∧ Hid (OwnU wr (w.heap.size + 3) (.slice oa i oc) L) ∧ Hid (Tb w wr q ⟨okb, 0, 0, 0, 0, 0, 0, 0⟩))
    (fun _ v5 _ => 4 - (intOf v5).toNat)
  case atStart => exact ⟨0, [], none, 0, true, rfl, rfl, by omega, rfl, fun x hx => by simp at hx, OwnU.nil _ _, HT⟩
  case round =>
    obtain ⟨i, L, oa, oc, okb, rfl, rfl, hi, HL, HX, HO, HT⟩ := hrel
    by_cases hlt : i < 4
    · have hltI : (i : Int) < 4 := by omega
      have cn : wr.cell? ⟨w.heap.size, 28, none⟩ = some (.int .u64 (nw : Nat)) := by rw [← HNW.out]; exact HT.out.l.new HK.out
      go_wp2_with (first
        | ((with_reducible refine at_loadT (T := 90) ?_); refine load_row rfl _ _ rfl w.heap.size _ (load_L HT.out.l HK.out) rfl ?_)
        | (go_at_call 36; refine (rf_wordZ _ _ (HK.out.below HT.out.b) _ (wr_lo _) (wr_hi _)).mono ?_))
      rintro e w1 ⟨⟨n, b, hn, rfl⟩, hb1⟩
      have HT1 := hide (HT.out.stay hb1)
      have HO1 := hide (HO.out.stayU hb1)
      have HN := hide hn
      have k0 := cells_of_block HT1.out.t 0 (.bool okb) rfl
      clear hb1 HT HO hn cn
      have HLX : Hid (∀ x ∈ L ++ [n], x < 4294967296) := fun x hx => by
        rw [List.mem_append, List.mem_singleton] at hx
        rcases hx with hx | rfl
        · exact HX.out x hx
        · exact HN.out
      have HLL : Hid ((L ++ [n]).length = i + 1) := by rw [Hid, List.length_append, HL.out]; rfl
      cases okb with
      | false =>
        as_aux_lemma =>
          go_wp2_with (first
            | ((with_reducible refine at_storeT (T := 4) ?_); refine store_v rfl _ _ _ rfl (w.heap.size + 2) 0 97 _ (.bool false) [.bool false] #[.bool false, .int .u64 (0 : Nat), .int .u64 (0 : Nat), .int .u64 (0 : Nat), .int .u64 (0 : Nat), .int .u64 (0 : Nat), .int .u64 (0 : Nat), .int .u64 (0 : Nat)] HT1.out.t rfl rfl rfl bool_sizeY (by intro u hu; rw [List.mem_singleton.1 hu]; rfl) (Nat.le_of_ble_eq_true rfl) (by rfl) ?_))
          intro w5 hg5 hb5
          have HT5 := hide (HT1.out.set (u := ⟨false, 0, 0, 0, 0, 0, 0, 0⟩) hg5 hb5)
          have HO5 := hide (HO1.out.grownU hb5 (by omega))
          have HS5 : Hid (w.heap.size + 3 ≤ w5.heap.size) := by have := (Array.getElem?_eq_some_iff.1 HT5.out.t).1; unfold Hid; omega
          clear hg5 hb5 HT1 HO1 k0
          go_wp2_with (first
            | (at_builtin; refine append_u rfl _ _ rfl (w.heap.size + 3) w5 _ L [n] HO5.out rfl rfl (by have := HL.out; simp; omega) HS5.out ?_))
          intro v' w9 ho9 hb9 _
          obtain ⟨a9, c9, rfl⟩ : ∃ a c, v' = .slice a (i + 1) c := by obtain ⟨a, c, e⟩ := ho9.formU; rw [HLL.out] at e; exact ⟨_, _, e⟩
          have HT9 := hide (HT5.out.grow HO5.out hb9)
          have HO9 := hide ho9
          clear HT5 HO5 hb9 ho9
          go_wp2
          go_roundw
          case rel => exact ⟨i + 1, _, a9, c9, false, rfl, by go_num, by omega, HLL, HLX, HO9, HT9⟩
          case measure => simp [intOf]; omega
      | true =>
        as_aux_lemma =>
          go_wp2_with (first
            | ((with_reducible refine at_storeT (T := 4) ?_); refine store_v rfl _ _ _ rfl (w.heap.size + 2) 0 97 _ (.bool b) [.bool b] #[.bool b, .int .u64 (0 : Nat), .int .u64 (0 : Nat), .int .u64 (0 : Nat), .int .u64 (0 : Nat), .int .u64 (0 : Nat), .int .u64 (0 : Nat), .int .u64 (0 : Nat)] HT1.out.t rfl rfl rfl bool_sizeY (by intro u hu; rw [List.mem_singleton.1 hu]; rfl) (Nat.le_of_ble_eq_true rfl) (by rfl) ?_))
          intro w5 hg5 hb5
          have HT5 := hide (HT1.out.set (u := ⟨b, 0, 0, 0, 0, 0, 0, 0⟩) hg5 hb5)
          have HO5 := hide (HO1.out.grownU hb5 (by omega))
          have HS5 : Hid (w.heap.size + 3 ≤ w5.heap.size) := by have := (Array.getElem?_eq_some_iff.1 HT5.out.t).1; unfold Hid; omega
          clear hg5 hb5 HT1 HO1 k0
          go_wp2_with (first
            | (at_builtin; refine append_u rfl _ _ rfl (w.heap.size + 3) w5 _ L [n] HO5.out rfl rfl (by have := HL.out; simp; omega) HS5.out ?_))
          intro v' w9 ho9 hb9 _
          obtain ⟨a9, c9, rfl⟩ : ∃ a c, v' = .slice a (i + 1) c := by obtain ⟨a, c, e⟩ := ho9.formU; rw [HLL.out] at e; exact ⟨_, _, e⟩
          have HT9 := hide (HT5.out.grow HO5.out hb9)
          have HO9 := hide ho9
          clear HT5 HO5 hb9 ho9
          go_wp2
          go_roundw
          case rel => exact ⟨i + 1, _, a9, c9, b, rfl, by go_num, by omega, HLL, HLX, HO9, HT9⟩
          case measure => simp [intOf]; omega
    · have hltI : ¬ (i : Int) < 4 := by omega
      have he : i = 4 := by omega
      subst he
      have hA := HO.out.arg (by rw [HL.out]; omega)
      have hl := HL.out
      match L, hl with
      | [x0, x1, x2, x3], _ =>
        obtain ⟨g, hga, p1, p2, _, y0⟩ := hA.at 0 (by simp)
        obtain ⟨_, hgb, _, _, _, y1⟩ := hA.at 1 (by simp)
        obtain ⟨_, hgc, _, _, _, y2⟩ := hA.at 2 (by simp)
        obtain ⟨_, hgd, _, _, _, y3⟩ := hA.at 3 (by simp)
        subst hga
        cases hgb
        cases hgc
        cases hgd
        simp only [List.getElem_cons_zero, List.getElem_cons_succ, List.length_cons, List.length_nil] at y0 y1 y2 y3 p1
        have l0 := HX.out x0 (by simp)
        have l1 := HX.out x1 (by simp)
        have l2 := HX.out x2 (by simp)
        have l3 := HX.out x3 (by simp)
        have HXX := hide (And.intro l0 (And.intro l1 (And.intro l2 l3)))
        have hgB := (World.ownsRow.lt HO.out g rfl).1
        have hgn : g ≠ w.heap.size + 2 := by omega
        have hgn2 : w.heap.size + 2 ≠ g := by omega
        have k1 := cells_of_block HT.out.t 1 (.int .u64 (0 : Nat)) rfl
        have k2 := cells_of_block HT.out.t 2 (.int .u64 (0 : Nat)) rfl
        have k3 := cells_of_block HT.out.t 3 (.int .u64 (0 : Nat)) rfl
        have k4 := cells_of_block HT.out.t 4 (.int .u64 (0 : Nat)) rfl
        have f1 := frozen_nt HT.out.t 1
        have f2 := frozen_nt HT.out.t 2
        have f3 := frozen_nt HT.out.t 3
        have f4 := frozen_nt HT.out.t 4
        clear hA hl HO HX HL l0 l1 l2 l3 hgB
        go_wp2_with fail
        go_region
        have HT1 : Hid (Tb w (((((wr.setCell ⟨w.heap.size + 1 + 1, 1, none⟩ (.int .u64 x0)).setCell ⟨w.heap.size + 1 + 1, 2, none⟩ (.int .u64 x1)).setCell ⟨w.heap.size + 1 + 1, 3, none⟩ (.int .u64 x2)).setCell ⟨w.heap.size + 1 + 1, 4, none⟩ (.int .u64 x3)).drew) q ⟨okb, x0, x1, x2, x3, 0, 0, 0⟩) := by
          have a1 := (((HT.out.cell (u := ⟨okb, x0, 0, 0, 0, 0, 0, 0⟩) 1 (.int .u64 x0) rfl).cell (u := ⟨okb, x0, x1, 0, 0, 0, 0, 0⟩) 2 (.int .u64 x1) rfl).cell (u := ⟨okb, x0, x1, x2, 0, 0, 0, 0⟩) 3 (.int .u64 x2) rfl).cell (u := ⟨okb, x0, x1, x2, x3, 0, 0, 0⟩) 4 (.int .u64 x3) rfl
          exact a1.stay (Below.refl _ _).drew
        generalize World.drew _ = wx at *
        clear HT k1 k2 k3 k4 f1 f2 f3 f4 y0 y1 y2 y3 hgn hgn2
        have k3 := cells_of_block HT1.out.t 3 (.int .u64 (x2 : Nat)) rfl
        go_upto_region 10 with fail
        go_cut [8] from 10 (fun v8 wc => Hid (Tb w wc q ⟨okb, x0, x1, x2, x3, 0, 0, 0⟩) ∧ ∃ pb : Bool, v8 = .bool pb ∧ Hid (pb = true → 1 ≤ x2))
        case first => as_aux_lemma =>
          go_wp2
          all_goals
            go_meet
            case rel => exact ⟨HT1, _, rfl, fun hp => by first | (exact absurd hp (by decide)) | omega | (simp_all <;> omega)⟩
        case rest =>
        obtain ⟨HT2, pb, rfl, HPB⟩ := hcut
        clear HT1 k3
        go_upto_region 11 with fail
        go_cut [] from 10 (fun wc => ∃ ok2 : Bool, Hid (Tb w wc q ⟨ok2, x0, x1, x2, x3, 0, 0, 0⟩) ∧ Hid (ok2 = true → 1 ≤ x0 ∧ x0 ≤ 256 ∧ 1 ≤ x1 ∧ x1 ≤ 256 ∧ 1 ≤ x2))
        case first => as_aux_lemma =>
          have k0 := cells_of_block HT2.out.t 0 (.bool okb) rfl
          have k1 := cells_of_block HT2.out.t 1 (.int .u64 (x0 : Nat)) rfl
          have k2 := cells_of_block HT2.out.t 2 (.int .u64 (x1 : Nat)) rfl
          have k4 := cells_of_block HT2.out.t 4 (.int .u64 (x3 : Nat)) rfl
          have hcs : (okb = true ∧ (x0 : Int) ≥ 1 ∧ (x0 : Int) ≤ 256 ∧ (x1 : Int) ≥ 1 ∧ (x1 : Int) ≤ 256 ∧ pb = true ∧ (x3 : Int) ≤ 31) ∨ (okb = false ∨ (okb = true ∧ ¬ (x0 : Int) ≥ 1) ∨ (okb = true ∧ (x0 : Int) ≥ 1 ∧ ¬ (x0 : Int) ≤ 256) ∨ (okb = true ∧ (x0 : Int) ≥ 1 ∧ (x0 : Int) ≤ 256 ∧ ¬ (x1 : Int) ≥ 1) ∨ (okb = true ∧ (x0 : Int) ≥ 1 ∧ (x0 : Int) ≤ 256 ∧ (x1 : Int) ≥ 1 ∧ ¬ (x1 : Int) ≤ 256) ∨ (okb = true ∧ (x0 : Int) ≥ 1 ∧ (x0 : Int) ≤ 256 ∧ (x1 : Int) ≥ 1 ∧ (x1 : Int) ≤ 256 ∧ pb = false) ∨ (okb = true ∧ (x0 : Int) ≥ 1 ∧ (x0 : Int) ≤ 256 ∧ (x1 : Int) ≥ 1 ∧ (x1 : Int) ≤ 256 ∧ pb = true ∧ ¬ (x3 : Int) ≤ 31)) := by
            cases okb <;> cases pb <;> simp <;> omega
          rcases hcs with ⟨rfl, a1, a2, a3, a4, rfl, a5⟩ | hcs
          · have HBD : Hid (1 ≤ x0 ∧ x0 ≤ 256 ∧ 1 ≤ x1 ∧ x1 ≤ 256 ∧ 1 ≤ x2) := ⟨by omega, by omega, by omega, by omega, HPB.out rfl⟩
            go_wp2_with (first
              | ((with_reducible refine at_storeT (T := 4) ?_); refine store_v rfl _ _ _ rfl (w.heap.size + 2) 0 97 _ (.bool true) [.bool true] #[.bool true, .int .u64 (x0 : Nat), .int .u64 (x1 : Nat), .int .u64 (x2 : Nat), .int .u64 (x3 : Nat), .int .u64 (0 : Nat), .int .u64 (0 : Nat), .int .u64 (0 : Nat)] HT2.out.t rfl rfl rfl bool_sizeY (by intro u hu; rw [List.mem_singleton.1 hu]; rfl) (Nat.le_of_ble_eq_true rfl) (by rfl) ?_))
            intro w5 hg5 hb5
            have HT5 := hide (HT2.out.set (u := ⟨true, x0, x1, x2, x3, 0, 0, 0⟩) hg5 hb5)
            clear hg5 hb5 HT2
            go_wp2
            go_meet
            case rel => exact ⟨true, HT5, fun _ => HBD.out⟩
          · clear HPB
            rcases hcs with rfl | ⟨rfl, a1⟩ | ⟨rfl, a1, a2⟩ | ⟨rfl, a1, a2, a3⟩ | ⟨rfl, a1, a2, a3, a4⟩ | ⟨rfl, a1, a2, a3, a4, rfl⟩ | ⟨rfl, a1, a2, a3, a4, rfl, a5⟩
            all_goals
              go_wp2_with (first
                | ((with_reducible refine at_storeT (T := 4) ?_); refine store_v rfl _ _ _ rfl (w.heap.size + 2) 0 97 _ (.bool false) [.bool false] #[.bool false, .int .u64 (x0 : Nat), .int .u64 (x1 : Nat), .int .u64 (x2 : Nat), .int .u64 (x3 : Nat), .int .u64 (0 : Nat), .int .u64 (0 : Nat), .int .u64 (0 : Nat)] HT2.out.t rfl rfl rfl bool_sizeY (by intro u hu; rw [List.mem_singleton.1 hu]; rfl) (Nat.le_of_ble_eq_true rfl) (by rfl) ?_))
              intro w5 hg5 hb5
              have HT5 := hide (HT2.out.set (u := ⟨false, x0, x1, x2, x3, 0, 0, 0⟩) hg5 hb5)
              clear hg5 hb5 HT2
              go_wp2
              go_meet
              case rel => exact ⟨false, HT5, fun hh => by cases hh⟩
        case rest =>
        obtain ⟨ok2, HT3, HOK⟩ := hcut
        clear HT2 HPB
        as_aux_lemma =>
          have cn : wc.cell? ⟨w.heap.size, 28, none⟩ = some (.int .u64 (nw : Nat)) := by rw [← HNW.out]; exact HT3.out.l.new HK.out
          have HN := HNW
          clear HN
          obtain ⟨fN, hfN⟩ := Int.eq_ofNat_of_zero_le (wr_lo ((nw : Int) + 16))
          have hfL := wr_hi ((nw : Int) + 16)
          rw [hfN] at hfL
          obtain ⟨rN, hrN⟩ := Int.eq_ofNat_of_zero_le (wr_lo ((fN : Int) + 8 * (x2 : Int)))
          have hrL := wr_hi ((fN : Int) + 8 * (x2 : Int))
          rw [hrN] at hrL
          obtain ⟨sN, hsN⟩ := Int.eq_ofNat_of_zero_le (wr_lo ((rN : Int) + 4 * (x0 : Int)))
          have hsL := wr_hi ((rN : Int) + 4 * (x0 : Int))
          rw [hsN] at hsL
          have HGD : Hid (Nt.good ⟨ok2, x0, x1, x2, x3, fN, rN, sN⟩) := ⟨HXX.out.1, HXX.out.2.1, HXX.out.2.2.1, HXX.out.2.2.2, by show fN < _; omega, by show rN < _; omega, by show sN < _; omega, HOK.out⟩
          have hx0 : (x0 : Int) ≤ 4294967295 := by have := HXX.out.1; omega
          have hx2 : (x2 : Int) ≤ 4294967295 := by have := HXX.out.2.2.1; omega
          clear hfL hrL hsL HOK HXX
          have HSN := hide hsN
          have HRN := hide hrN
          clear hsN hrN
          go_wp2_with (first
            | ((with_reducible refine at_storeT (T := 26) ?_); refine store_v rfl _ _ _ rfl (w.heap.size + 2) 5 97 _ (.int .u64 (fN : Nat)) [.int .u64 (fN : Nat)] #[.bool ok2, .int .u64 (x0 : Nat), .int .u64 (x1 : Nat), .int .u64 (x2 : Nat), .int .u64 (x3 : Nat), .int .u64 (fN : Nat), .int .u64 (0 : Nat), .int .u64 (0 : Nat)] HT3.out.t rfl rfl rfl u64_sizeN (by intro u hu; rw [List.mem_singleton.1 hu]; rfl) (Nat.le_of_ble_eq_true rfl) (by rfl) ?_))
          intro wy hgy hby
          have HT4 := hide (HT3.out.set (u := ⟨ok2, x0, x1, x2, x3, fN, 0, 0⟩) hgy hby)
          clear hgy hby HT3
          clear hfN cn
          have hrN := HRN.out
          have k5 := cells_of_block HT4.out.t 5 (.int .u64 (fN : Nat)) rfl
          have k3 := cells_of_block HT4.out.t 3 (.int .u64 (x2 : Nat)) rfl
          go_wp2_with (first
            | ((with_reducible refine at_storeT (T := 26) ?_); refine store_v rfl _ _ _ rfl (w.heap.size + 2) 6 97 _ (.int .u64 (rN : Nat)) [.int .u64 (rN : Nat)] #[.bool ok2, .int .u64 (x0 : Nat), .int .u64 (x1 : Nat), .int .u64 (x2 : Nat), .int .u64 (x3 : Nat), .int .u64 (fN : Nat), .int .u64 (rN : Nat), .int .u64 (0 : Nat)] HT4.out.t rfl rfl rfl u64_sizeN (by intro u hu; rw [List.mem_singleton.1 hu]; rfl) (Nat.le_of_ble_eq_true rfl) (by rfl) ?_))
          intro wy hgy hby
          have HT5 := hide (HT4.out.set (u := ⟨ok2, x0, x1, x2, x3, fN, rN, 0⟩) hgy hby)
          clear hgy hby HT4
          clear hrN k5 k3
          have hsN := HSN.out
          have k6 := cells_of_block HT5.out.t 6 (.int .u64 (rN : Nat)) rfl
          have k1 := cells_of_block HT5.out.t 1 (.int .u64 (x0 : Nat)) rfl
          go_wp2_with (first
            | ((with_reducible refine at_storeT (T := 26) ?_); refine store_v rfl _ _ _ rfl (w.heap.size + 2) 7 97 _ (.int .u64 (sN : Nat)) [.int .u64 (sN : Nat)] #[.bool ok2, .int .u64 (x0 : Nat), .int .u64 (x1 : Nat), .int .u64 (x2 : Nat), .int .u64 (x3 : Nat), .int .u64 (fN : Nat), .int .u64 (rN : Nat), .int .u64 (sN : Nat)] HT5.out.t rfl rfl rfl u64_sizeN (by intro u hu; rw [List.mem_singleton.1 hu]; rfl) (Nat.le_of_ble_eq_true rfl) (by rfl) ?_))
          intro wy hgy hby
          have HT6 := hide (HT5.out.set (u := ⟨ok2, x0, x1, x2, x3, fN, rN, sN⟩) hgy hby)
          clear hgy hby HT5
          clear hsN k6 k1
          go_wp2_with (first
            | ((with_reducible refine at_loadT (T := 97) ?_); refine load_row rfl _ _ rfl (w.heap.size + 2) _ (load_nt HT6.out.t) rfl ?_)
            | ((with_reducible refine at_storeT (T := 97) ?_); refine store_part rfl _ _ _ rfl (w.heap.size + 1) 0 97 _ (Nt.cells ⟨ok2, x0, x1, x2, x3, fN, rN, sN⟩) (Nt.cells ⟨ok2, x0, x1, x2, x3, fN, rN, sN⟩).toArray HT6.out.r rfl rfl nt_size (Nt.one _) (Nat.le_of_ble_eq_true rfl) (by rfl) ?_))
          intro wz hgz hbz
          have HBZ := hide (grown_below (Nat.le_succ _) HT6.out.b hbz)
          have HGZ := hide hgz
          clear HT6 hgz hbz
          go_wp2
          refine bodyPost_ret (results_cell1 rfl _ _ (w.heap.size + 1) _ _ _ _ rfl HGZ.out Try.underlying97 rfl (by kernel_rfl)) rfl ?_
          exact ⟨⟨_, HGD.out, rfl⟩, HBZ.out⟩
end Go.Proofs.Ytdclofiifcpkkaa
namespace Go.Proofs.Ytdclofiifcpkkaa
open Go.RowKit Go.PlainAid Go.Sort
theorem wr_loC (x : Int) : 0 ≤ IntKind.u64.wrap x := by rw [IntKind.wrap_u64]; omega
theorem wr_hiC (x : Int) : IntKind.u64.wrap x < 18446744073709551616 := by rw [IntKind.wrap_u64]; omega
theorem q_sameC {P : Program} {f : FuncId} {args : Array Value} {w : World} {d : Nat} {os : Array Obj} {v : Value}
    (h : Calls P f args (grow (redrawn w d) os) fun e w' => e = .returned v ∧ (grow (redrawn w d) os) = w') : Calls P f args (grow (redrawn w d) os) fun e w'' => e = .returned v ∧ ∃ p : Regrown, w'' = grow (redrawn w p.d) p.os :=
  h.mono fun _ _ ⟨he, hb⟩ => ⟨he, ⟨d, os⟩, hb.symm⟩
/-- A word of the file; false: it isn't there. -/
def woV (q : Lp) (a : Nat) : Nat × Bool := if (offN q.ps a 4).2 = true then (vN q.l (offN q.ps a 4).1 4, eN q.l (offN q.ps a 4).1 4 == 0) else (0, false)
theorem woV_lt (q : Lp) (a : Nat) : (woV q a).1 < 4294967296 := by
  unfold woV
  split
  · exact vN_lt q.l _ 4
  · decide
set_option maxHeartbeats 2000000 in
set_option maxRecDepth 20000 in
theorem rf_wordE (w : World) (q : Lp) (hk : Lk w q) (a : Nat) (ha : a < 18446744073709551616) :
    Calls Try.prog 36 #[.agg q.lC.toArray, .int .u64 (a : Nat)] w fun e w' => e = .returned (.tuple #[.int .u64 ((woV q a).1 : Nat), .bool (woV q a).2]) ∧ Below w.heap.size w w' := by
  have HB := hide ((Below.refl w.heap.size w).alloc (Nat.le_refl _) (.cells q.lC.toArray 90))
  have HG : Hid (HasL (w.alloc (.cells q.lC.toArray 90)) w.heap.size q) := heap_alloc_new _ _
  have kO := ref8_Off _ q.m (.slice q.va q.vn q.vc) q.d q.r q.ps (hk.h.below HB.out) hk.ok hk.sm a 4 ha (by decide)
  have HO : Hid ((offN q.ps a 4).1 < 18446744073709551616) := by
    unfold Hid
    have key : ∀ ps : List Ph, (offN ps a 4).1 < 18446744073709551616 := fun ps => by
      induction ps with
      | nil => show 0 < _; decide
      | cons p t ih =>
        unfold offN
        split
        · split
          · show p.off + (a - p.vaddr) < _; omega
          · show 0 < _; decide
        · exact ih
    exact key _
  have HK := hide (hk.below HB.out)
  have HV : Hid (woV q a = if (offN q.ps a 4).2 = true then (vN q.l (offN q.ps a 4).1 4, eN q.l (offN q.ps a 4).1 4 == 0) else (0, false)) := rfl
  unfold offV at kO
  generalize (offN q.ps a 4).1 = o at *
  generalize (offN q.ps a 4).2 = ob at *
  have HG4 := hide (fun W (hW : Below (w.alloc (.cells q.lC.toArray 90)).heap.size (w.alloc (.cells q.lC.toArray 90)) W) => ref_Get_all W (.slice q.ba q.bn q.bc) q.l (HK.out.b.below' hW) o 4 (by have := HO.out; omega) (by decide) (by decide))
  generalize vN q.l o 4 = n at *
  generalize eN q.l o 4 = ge at *
  generalize woV q a = WV at *
  clear hk HK HO
  go_enter Try.func36, Try.ntmps36
  go_wp2_with (first
    | ((with_reducible refine at_loadT (T := 30) ?_); refine wpList_load_mid rfl _ _ rfl w.heap.size 1 rfl q.hC _ HG.out.heads Try.underlying30 rfl (by kernel_rfl) ?_))
  refine kO.mono ?_
  rintro e w1 ⟨rfl, hb1⟩
  have kG := HG4.out w1 hb1
  have c0 := (HG.out.stay hb1).c0
  have HB1 : Hid (Below w.heap.size w w1) := HB.out.trans (hb1.mono HB.out.size)
  clear kO hb1 HB HG HG4
  cases ob with
  | false =>
    go_wp2
    go_ret2
    exact ⟨by rw [HV.out]; rfl, HB1.out⟩
  | true =>
    go_wp2_with fail
    refine kG.mono ?_
    rintro e w2 ⟨rfl, rfl⟩
    clear kG c0
    go_wp2
    go_ret2
    exact ⟨by rw [HV.out]; rfl, HB1.out⟩
/-- At whatever place a sum comes to. -/
def woI (q : Lp) (z : Int) : Nat × Bool := woV q z.toNat
theorem woI_lt (q : Lp) (z : Int) : (woI q z).1 < 4294967296 := woV_lt q _
theorem rf_wordI (w : World) (q : Lp) (hk : Lk w q) (z : Int) (h0 : 0 ≤ z) (h1 : z < 18446744073709551616) :
    Calls Try.prog 36 #[.agg q.lC.toArray, .int .u64 z] w fun e w' => e = .returned (.tuple #[.int .u64 ((woI q z).1 : Nat), .bool (woI q z).2]) ∧ Below w.heap.size w w' := by
  obtain ⟨n, rfl⟩ := Int.eq_ofNat_of_zero_le h0
  exact rf_wordE w q hk n (by omega)
/-- Along the older table. -/
def rOld (q : Lp) (rows many num : Nat) : Nat → Int → Bool
  | 0, _ => false
  | k + 1, z => if (woI q z).2 = false ∨ (woI q z).1 = 0 ∨ many ≤ (woI q z).1 then false else if (woI q z).1 = num then true else
      rOld q rows many num k (IntKind.u64.wrap (IntKind.u64.wrap (IntKind.u64.wrap ((q.ol : Int) + 8) + 4 * (rows : Int)) + 4 * ((woI q z).1 : Int)))
def rOlder (q : Lp) (nm : List UInt8) (num many : Nat) : Bool :=
  if (woI q q.ol).2 = false ∨ (woI q q.ol).1 < 1 ∨ 256 < (woI q q.ol).1 then false else
    rOld q (woI q q.ol).1 many num (many + 1) (IntKind.u64.wrap (IntKind.u64.wrap ((q.ol : Int) + 8) + IntKind.u64.wrap (4 * ((sysv nm : Int) % ((woI q q.ol).1 : Int)))))
set_option maxHeartbeats 4000000 in
set_option maxRecDepth 20000 in
theorem rf_older (w : World) (q : Lp) (hk : Lk w q) (nm : List UInt8) (hl : nm.length ≤ 140737488351232) (num many : Nat) (hnum : num ≤ 1000) (hmany : many ≤ 1000) :
    Calls Try.prog 39 #[.agg q.lC.toArray, .string ⟨nm.toArray⟩, .int .i64 (num : Nat), .int .i64 (many : Nat)] w fun e w' => e = .returned (.bool (rOlder q nm num many)) ∧ Below w.heap.size w w' := by
  have HB := hide ((Below.refl w.heap.size w).alloc (Nat.le_refl _) (.cells q.lC.toArray 90))
  have HG : Hid (HasL (w.alloc (.cells q.lC.toArray 90)) w.heap.size q) := heap_alloc_new _ _
  have HK := hide hk
  have kW := rf_wordI _ q (hk.below HB.out) (q.ol : Int) (by omega) (by have := hk.b10; omega)
  have cO : (w.alloc (.cells q.lC.toArray 90)).cell? ⟨w.heap.size, 27, none⟩ = some (.int .u64 (q.ol : Nat)) := HG.out.old hk
  have HWL := hide (woI_lt q (q.ol : Int))
  have HCO := hide (fun W (hW : HasL W w.heap.size q) => hW.old hk)
  have HO : Hid (rOlder q nm num many = if (woI q q.ol).2 = false ∨ (woI q q.ol).1 < 1 ∨ 256 < (woI q q.ol).1 then false else rOld q (woI q q.ol).1 many num (many + 1) (IntKind.u64.wrap (IntKind.u64.wrap ((q.ol : Int) + 8) + IntKind.u64.wrap (4 * ((sysv nm : Int) % ((woI q q.ol).1 : Int)))))) := rfl
  have HLD := hide (fun W (hW : HasL W w.heap.size q) => load_L hW hk)
  have hS := fun W => ref10_Sysv nm W hl
  have hsl := sysv_lt nm
  generalize rOlder q nm num many = R at *
  generalize woI q (q.ol : Int) = W0 at *
  obtain ⟨rows, rb⟩ := W0
  simp only at HO HWL kW
  obtain ⟨ol, hol⟩ : ∃ ol, q.ol = ol := ⟨_, rfl⟩
  have HOL := hide hol
  rw [hol] at HO kW cO HCO
  have hnI : (num : Int) ≤ 1000 := by omega
  have hmI : (many : Int) ≤ 1000 := by omega
  clear hk hol
  go_enter Try.func39, Try.ntmps39
  go_wp2_with (first
    | ((with_reducible refine at_loadT (T := 90) ?_); refine load_row rfl _ _ rfl w.heap.size _ (HLD.out _ HG.out) rfl ?_))
  refine kW.mono ?_
  rintro e w1 ⟨rfl, hb1⟩
  have HB1 : Hid (Below w.heap.size w w1) := HB.out.trans (hb1.mono HB.out.size)
  have HG1 := hide (HG.out.stay hb1)
  clear kW hb1 HB HG cO
  by_cases hbad : rb = false ∨ rows < 1 ∨ 256 < rows
  · have HR : Hid (R = false) := by rw [Hid, HO.out, if_pos hbad]
    clear HO
    have hcs : rb = false ∨ (rb = true ∧ (rows : Int) < 1) ∨ (rb = true ∧ ¬ (rows : Int) < 1 ∧ (256 : Int) < (rows : Int)) := by
      cases rb with
      | false => exact .inl rfl
      | true =>
        rcases hbad with h | h | h
        · cases h
        · exact .inr (.inl ⟨rfl, by omega⟩)
        · exact .inr (.inr ⟨rfl, by omega, by omega⟩)
    clear hbad
    rcases hcs with rfl | ⟨rfl, a1⟩ | ⟨rfl, a1, a2⟩
    all_goals
      go_wp2
      go_ret
      exact ⟨by rw [HR.out]; rfl, HB1.out⟩
  · have HR : Hid (R = rOld q rows many num (many + 1) (IntKind.u64.wrap (IntKind.u64.wrap ((ol : Int) + 8) + IntKind.u64.wrap (4 * ((sysv nm : Int) % (rows : Int)))))) := by rw [Hid, HO.out, if_neg hbad]
    have hrb : rb = true := by cases rb; exact absurd (.inl rfl) hbad; rfl
    subst hrb
    have r1 : decide ((rows : Int) < 1) = false := decide_eq_false (by omega)
    have r2 : decide ((256 : Int) < (rows : Int)) = false := decide_eq_false (by omega)
    have HR3 : Hid ((1 : Int) ≤ (rows : Int)) := by unfold Hid; omega
    have HR4 : Hid ((rows : Int) ≤ 256) := by unfold Hid; omega
    have c27 := HCO.out w1 HG1.out
    have HSI : Hid ((sysv nm : Int) ≤ 268435455) := by unfold Hid; omega
    clear HO hbad HWL hsl
    generalize sysv nm = sv at *
    go_wp2_with fail
    have r0 : ((rows : Int) == 0) = false := by have := HR3.out; simp; omega
    have r6 : ¬ (rows : Int) = 0 := by have := HR3.out; omega
    have r7 : ¬ rows = 0 := by have := HR3.out; omega
    have r4 := HR4.out
    have hsI := HSI.out
    clear r1 r2
    try simp only [List.append_eq, List.cons_append, List.nil_append]
    refine wp_region_quiet_below (by kernel_rfl) (by kernel_rfl) ?_
    have e27 := cell_regrown c27
    repeat (go_big_quiet_step (exact q_sameC (hS _)))
    refine wpQuiet_nil ?_
    intro _ hwq
    obtain ⟨⟨dq, osq⟩, hwq2⟩ := hwq
    subst hwq2
    have HB2 := hide (HB1.out.trans ((below_regrown w1 dq osq).mono HB1.out.size))
    have HG2 := hide (HG1.out.stay (below_regrown w1 dq osq))
    clear e27 c27 r0 r6 r7 hsI hS HB1 HG1
    generalize grow _ _ = w2 at *
    have HZ0 : Hid (0 ≤ IntKind.u64.wrap (IntKind.u64.wrap ((ol : Int) + 8) + IntKind.u64.wrap (4 * ((sv : Int) % (rows : Int)))) ∧ IntKind.u64.wrap (IntKind.u64.wrap ((ol : Int) + 8) + IntKind.u64.wrap (4 * ((sv : Int) % (rows : Int)))) < 18446744073709551616) := ⟨wr_loC _, wr_hiC _⟩
    generalize IntKind.u64.wrap (IntKind.u64.wrap ((ol : Int) + 8) + IntKind.u64.wrap (4 * ((sv : Int) % (rows : Int)))) = z0 at *
    go_wp2
    go_loopw [11, 12] (fun va vk wr => ∃ (k : Nat) (z : Int), vk = .int .i64 k ∧ va = .int .u64 z ∧ k ≤ many + 1 ∧ Hid (0 ≤ z ∧ z < 18446744073709551616) ∧ Hid (R = rOld q rows many num (many + 1 - k) z) ∧ Hid (Below w.heap.size w wr) ∧ Hid (HasL wr w.heap.size q))
      (fun _ vk _ => many + 1 - (intOf vk).toNat)
    case atStart => exact ⟨0, z0, rfl, rfl, by omega, HZ0, HR, HB2, HG2⟩
    case round =>
      obtain ⟨k, z, rfl, rfl, hk, HZ, HRk, HB, HG⟩ := hrel
      by_cases hlt : k ≤ many
      · have hltI : (k : Int) ≤ (many : Int) := by omega
        have kW := rf_wordI wr q (HK.out.below HB.out) z HZ.out.1 HZ.out.2
        have HN := hide (woI_lt q z)
        have HF : Hid (R = if (woI q z).2 = false ∨ (woI q z).1 = 0 ∨ many ≤ (woI q z).1 then false else if (woI q z).1 = num then true else
            rOld q rows many num (many + 1 - (k + 1)) (IntKind.u64.wrap (IntKind.u64.wrap (IntKind.u64.wrap ((ol : Int) + 8) + 4 * (rows : Int)) + 4 * ((woI q z).1 : Int)))) := by
          rw [Hid, HRk.out, show many + 1 - k = (many + 1 - (k + 1)) + 1 by omega, rOld, HOL.out]
        generalize woI q z = WZ at *
        obtain ⟨n, nb⟩ := WZ
        simp only at HF HN kW
        have HGK := hide HG.out
        clear HRk HZ
        go_wp2_with (first
          | ((with_reducible refine at_loadT (T := 90) ?_); refine load_row rfl _ _ rfl w.heap.size _ (HLD.out _ HG.out) rfl ?_))
        refine kW.mono ?_
        rintro e w3 ⟨rfl, hb3⟩
        have HB3 : Hid (Below w.heap.size w w3) := HB.out.trans (hb3.mono HB.out.size)
        have HG3 := hide (HG.out.stay hb3)
        have hmw : IntKind.u64.wrap (many : Int) = (many : Int) := by rw [IntKind.wrap_u64]; omega
        have hnw : IntKind.u64.wrap (num : Int) = (num : Int) := by rw [IntKind.wrap_u64]; omega
        clear kW hb3 HB HG HGK
        by_cases hbad : nb = false ∨ n = 0 ∨ many ≤ n
        · have HRR : Hid (R = false) := by rw [Hid, HF.out, if_pos hbad]
          have hcs : nb = false ∨ (nb = true ∧ ((n : Int) == 0) = true) ∨ (nb = true ∧ ((n : Int) == 0) = false ∧ decide (many ≤ n) = true) := by
            cases nb with
            | false => exact .inl rfl
            | true =>
              by_cases h0 : n = 0
              · exact .inr (.inl ⟨rfl, by simp [h0]⟩)
              · refine .inr (.inr ⟨rfl, by simp [h0], decide_eq_true ?_⟩)
                rcases hbad with h | h | h
                · cases h
                · exact absurd h h0
                · omega
          clear HF hbad hltI hlt
          rcases hcs with rfl | ⟨rfl, a1⟩ | ⟨rfl, a1, a2⟩
          all_goals
            go_wp2
            go_ret
            exact ⟨by rw [HRR.out]; rfl, HB3.out⟩
        · have hnb : nb = true := by cases nb; exact absurd (.inl rfl) hbad; rfl
          subst hnb
          have HRR : Hid (R = if n = num then true else rOld q rows many num (many + 1 - (k + 1)) (IntKind.u64.wrap (IntKind.u64.wrap (IntKind.u64.wrap ((ol : Int) + 8) + 4 * (rows : Int)) + 4 * (n : Int)))) := by rw [Hid, HF.out, if_neg hbad]
          have a1 : ((n : Int) == 0) = false := by simp; omega
          have a2 : decide (many ≤ n) = false := decide_eq_false (by omega)
          have HKL : Hid ((k : Int) + 1 ≤ 1001) := by unfold Hid; omega
          have HKM : Hid (k + 1 ≤ many + 1) := by unfold Hid; omega
          clear HF hbad hltI hlt
          by_cases he : n = num
          · have HR2 : Hid (R = true) := by rw [Hid, HRR.out, if_pos he]
            have a3 : ((n : Int) == (num : Int)) = true := by simp [he]
            clear HRR he
            go_wp2
            go_ret
            exact ⟨by rw [HR2.out]; rfl, HB3.out⟩
          · have HR2 : Hid (R = rOld q rows many num (many + 1 - (k + 1)) (IntKind.u64.wrap (IntKind.u64.wrap (IntKind.u64.wrap ((ol : Int) + 8) + 4 * (rows : Int)) + 4 * (n : Int)))) := by rw [Hid, HRR.out, if_neg he]
            have a3 : ((n : Int) == (num : Int)) = false := by rw [beq_eq_false_iff_ne]; omega
            have c27 := HCO.out w3 HG3.out
            clear HRR he
            have hn4 := HN.out
            have hnI : (n : Int) ≤ 4294967295 := by omega
            have hkI := HKL.out
            go_wp2
            go_roundw
            case rel => exact ⟨k + 1, _, by go_num, rfl, HKM.out, ⟨wr_loC _, wr_hiC _⟩, HR2, HB3, HG3⟩
            case measure => have hkm := HKM.out; clear hmw hnw; simp [intOf]; omega
      · have hltI : ¬ (k : Int) ≤ (many : Int) := by omega
        have hk1 : k = many + 1 := by omega
        subst hk1
        have HR2 : Hid (R = false) := by rw [Hid, HRk.out, Nat.sub_self]; rfl
        go_wp2
        go_ret
        exact ⟨by rw [HR2.out]; rfl, HB.out⟩
end Go.Proofs.Ytdclofiifcpkkaa
namespace Go.Proofs.Ytdclofiifcpkkaa
open Go.RowKit Go.PlainAid Go.Sort
theorem nt_ok {t : Nt} (h : t.good) : Nt.good t := h
/-- What far holds: the file, the table. -/
structure Fr (w wx : World) (q : Lp) (X : Nat) (t : Nt) : Prop where
  b : Below w.heap.size w wx
  l : HasL wx w.heap.size q
  t : wx.heap[X]? = some (.cells t.cells.toArray 97 (0, 0))
theorem Fr.stay {w wx wy : World} {q : Lp} {X : Nat} {t : Nt} (h : Fr w wx q X t) (hb : Below wx.heap.size wx wy) : Fr w wy q X t := ⟨h.b.trans (hb.mono h.b.size), h.l.stay hb, block_stay h.t hb⟩
def FarIs (e : Ending) : Prop := ∃ (n : Nat) (b : Bool), n < 18446744073709551616 ∧ e = .returned (.tuple #[.int .u64 (n : Nat), .bool b])
set_option maxHeartbeats 4000000 in
set_option maxRecDepth 20000 in
theorem rf_far (w : World) (q : Lp) (hk : Lk w q) :
    Calls Try.prog 60 #[.agg q.lC.toArray] w fun e w' => FarIs e ∧ Below w.heap.size w w' := by
  have HB := hide ((Below.refl w.heap.size w).alloc (Nat.le_refl _) (.cells q.lC.toArray 90))
  have HG : Hid (HasL (w.alloc (.cells q.lC.toArray 90)) w.heap.size q) := heap_alloc_new _ _
  have HK := hide hk
  have kT := rf_table _ q (hk.below HB.out)
  have HLD := hide (fun W (hW : HasL W w.heap.size q) => load_L hW hk)
  clear hk
  go_enter Try.func60, Try.ntmps60
  go_wp2_with (first
    | ((with_reducible refine at_loadT (T := 90) ?_); refine load_row rfl _ _ rfl w.heap.size _ (HLD.out _ HG.out) rfl ?_))
  refine kT.mono ?_
  rintro e w1 ⟨⟨t, hgood, rfl⟩, hb1⟩
  have HFR : Hid (Fr w (w1.alloc (.cells t.cells.toArray 97)) q w1.heap.size t) := ⟨(HB.out.trans (hb1.mono HB.out.size)).trans ((below1 w1 _).mono (HB.out.trans (hb1.mono HB.out.size)).size), (HG.out.stay hb1).stay (below1 w1 _), heap_alloc_new _ _⟩
  have HGD := hide hgood
  obtain ⟨okb, x0, x1, x2, x3, x4, x5, x6⟩ := t
  clear kT hb1 HB HG hgood
  simp only [Nt.cells] at HFR ⊢
  cases okb with
  | false =>
    go_wp2
    go_ret2
    exact ⟨⟨0, false, by decide, rfl⟩, HFR.out.b⟩
  | true =>
    have hok := HGD.out.ok rfl
    simp only at hok
    have HR0 : Hid (x0 ≤ 256) := hok.2.1
    have HX1 : Hid (x1 ≤ 256) := hok.2.2.2.1
    have hx0 : (x0 : Int) ≤ 256 := by omega
    have hx1 : (x1 : Int) ≤ 256 := by omega
    clear hok HGD
    go_wp2
    go_loopw [5, 6] (fun v5 v6 wr => ∃ (i gr : Nat), v6 = .int .u64 i ∧ v5 = .int .u64 gr ∧ i ≤ x0 ∧ Hid (gr < 18446744073709551616) ∧ Hid (Fr w wr q w1.heap.size ⟨true, x0, x1, x2, x3, x4, x5, x6⟩))
      (fun _ v6 _ => x0 - (intOf v6).toNat)
    case atStart => exact ⟨0, x1, rfl, rfl, by omega, by have := HX1.out; unfold Hid; omega, HFR⟩
    case round =>
      obtain ⟨i, gr, rfl, rfl, hi, HGR, HF⟩ := hrel
      have k1 := cells_of_block HF.out.t 1 (.int .u64 (x0 : Nat)) rfl
      have k2 := cells_of_block HF.out.t 2 (.int .u64 (x1 : Nat)) rfl
      have k6 := cells_of_block HF.out.t 6 (.int .u64 (x5 : Nat)) rfl
      by_cases hlt : i < x0
      · have hltI : (i : Int) < (x0 : Int) := by omega
        go_wp2_with (first
          | ((with_reducible refine at_loadT (T := 90) ?_); refine load_row rfl _ _ rfl w.heap.size _ (HLD.out _ HF.out.l) rfl ?_)
          | (go_at_call 36; refine (rf_wordZ _ _ (HK.out.below HF.out.b) _ (wr_lo _) (wr_hi _)).mono ?_))
        rintro e w3 ⟨⟨n, b, hn, rfl⟩, hb3⟩
        have HF3 := hide (HF.out.stay hb3)
        have HN := hide hn
        clear hb3 HF k1 k2 k6 hn
        have k2 := cells_of_block HF3.out.t 2 (.int .u64 (x1 : Nat)) rfl
        have HIL : Hid ((i : Int) + 1 ≤ 1000) := by have := HR0.out; unfold Hid; omega
        have HIX : Hid (i + 1 ≤ x0) := by unfold Hid; omega
        cases b with
        | false =>
          go_wp2
          go_ret2
          exact ⟨⟨0, false, by decide, rfl⟩, HF3.out.b⟩
        | true =>
          by_cases h0 : n = 0
          · subst h0
            clear hlt hltI
            have hiI := HIL.out
            go_wp2
            go_roundw
            case rel => exact ⟨i + 1, gr, by go_num, rfl, HIX.out, HGR, HF3⟩
            case measure => have := HIX.out; simp [intOf]; omega
          · have hn0 : (0 : Int) < (n : Int) := by omega
            have hn00 : ((n : Int) == 0) = false := by simp [h0]
            clear h0
            by_cases h1 : n < x1
            · have hn1 : (n : Int) < (x1 : Int) := by omega
              go_wp2
              go_ret2
              exact ⟨⟨0, false, by decide, rfl⟩, HF3.out.b⟩
            · have hn1 : decide (n < x1) = false := decide_eq_false h1
              clear h1
              by_cases h2 : n < gr
              · have hn2 : (n : Int) < (gr : Int) := by omega
                clear hlt hltI h2
                have hiI := HIL.out
                go_wp2
                go_roundw
                case rel => exact ⟨i + 1, gr, by go_num, rfl, HIX.out, HGR, HF3⟩
                case measure => have := HIX.out; simp [intOf]; omega
              · have hn2 : decide (n < gr) = false := decide_eq_false h2
                clear hlt hltI h2
                go_wp2
                clear hn0 hn00 hn1 hn2 k2
                go_loopw [7, 9] (fun v7 v9 wx => ∃ (m : Nat) (od : Bool), v7 = .int .u64 m ∧ v9 = .bool od ∧ Hid (m < 4294967297) ∧ Hid (Fr w wx q w1.heap.size ⟨true, x0, x1, x2, x3, x4, x5, x6⟩))
                  (fun v7 _ _ => 258 - (intOf v7).toNat)
                case atStart => exact ⟨n, false, rfl, rfl, by have := HN.out; unfold Hid; omega, HF3⟩
                case round =>
                  obtain ⟨m, od, rfl, rfl, HM, HFM⟩ := hrel
                  cases od with
                  | true =>
                    have hiI := HIL.out
                    go_wp2
                    go_roundw
                    case rel => exact ⟨i + 1, m, by go_num, rfl, HIX.out, by have := HM.out; unfold Hid; omega, HFM⟩
                    case measure => have := HIX.out; simp [intOf]; omega
                  | false =>
                    have k7 := cells_of_block HFM.out.t 7 (.int .u64 (x6 : Nat)) rfl
                    have k2 := cells_of_block HFM.out.t 2 (.int .u64 (x1 : Nat)) rfl
                    go_wp2_with (first
                      | ((with_reducible refine at_loadT (T := 90) ?_); refine load_row rfl _ _ rfl w.heap.size _ (HLD.out _ HFM.out.l) rfl ?_)
                      | (go_at_call 36; refine (rf_wordZ _ _ (HK.out.below HFM.out.b) _ (wr_lo _) (wr_hi _)).mono ?_))
                    rintro e w4 ⟨⟨s, b4, hs, rfl⟩, hb4⟩
                    have HF4 := hide (HFM.out.stay hb4)
                    clear hb4 HFM k7 k2
                    cases b4 with
                    | false =>
                      go_wp2
                      go_ret2
                      exact ⟨⟨0, false, by decide, rfl⟩, HF4.out.b⟩
                    | true =>
                      by_cases h6 : 256 < m
                      · have h6I : (256 : Int) < (m : Int) := by omega
                        go_wp2
                        go_ret2
                        exact ⟨⟨0, false, by decide, rfl⟩, HF4.out.b⟩
                      · have h6I : decide (256 < m) = false := decide_eq_false h6
                        have hmI : (m : Int) ≤ 256 := by omega
                        have hsI : (s : Int) ≤ 4294967295 := by omega
                        clear h6 hs
                        go_wp2
                        go_roundw
                        case rel => exact ⟨m + 1, _, by go_num, rfl, by unfold Hid; omega, HF4⟩
                        case measure => simp [intOf]; omega
      · have hltI : ¬ (i : Int) < (x0 : Int) := by omega
        have hg2 := HGR.out
        go_wp2
        go_ret2
        exact ⟨⟨gr, true, hg2, rfl⟩, HF.out.b⟩
end Go.Proofs.Ytdclofiifcpkkaa
namespace Go.Proofs.Ytdclofiifcpkkaa
open Go.RowKit Go.Sort
namespace RgS
theorem wpList_of_quiet {P : Program} {ops : Array Oper} {C : World → Prop} {Q : Exit → Act → World → Prop} : ∀ (l : List Oper) (a : Act) (w : World), C w → wpQuiet P ops C (fun a' => ∀ w', C w' → Q .normal a' w') l a → wpList P ops Q l a w
  | [], a, w, hw, h => h w hw
  | o :: rest, a, w, hw, h => by
    unfold wpQuiet at h
    unfold wpList
    by_cases hx : Region.wanted o (yielded ops a.tmps) = true
    · rw [if_pos hx] at h ⊢
      exact .inl (Oper.wp_of_quiet hw (fun a w' hw' h => wpList_of_quiet rest a w' hw' h) h)
    · rw [if_neg hx] at h ⊢
      exact wpList_of_quiet rest _ w hw h
theorem wp_region_seq_below {P : Program} {id : Nat} {Q : Exit → Act → World → Prop} {a : Act} {w : World} {l : List Oper}
    (h : wpQuiet P l.toArray (fun w' => ∃ p : Regrown, w' = grow (redrawn w p.d) p.os) (fun a' => ∀ w', (∃ p : Regrown, w' = grow (redrawn w p.d) p.os) → Q .normal a' w') l a) : (Code.region id l.toArray false).wp P Q a w :=
  wp_region_lit (wpList_of_quiet l a w ⟨⟨w.drawn, #[]⟩, by rw [grow_empty]; rfl⟩ h)
end RgS
end Go.Proofs.Ytdclofiifcpkkaa
namespace Go.Proofs.Ytdclofiifcpkkaa
open Go.RowKit Go.PlainAid Go.Sort
/-- What leads holds. -/
structure Ld (w wx : World) (q : Lp) (t : Nt) : Prop where
  b : Below w.heap.size w wx
  l : HasL wx w.heap.size q
  t : wx.heap[w.heap.size + 1]? = some (.cells t.cells.toArray 97 (0, 0))
theorem Ld.stay {w wx wy : World} {q : Lp} {t : Nt} (h : Ld w wx q t) (hb : Below wx.heap.size wx wy) : Ld w wy q t := ⟨h.b.trans (hb.mono h.b.size), h.l.stay hb, block_stay h.t hb⟩
theorem Ld.begin (w : World) (q : Lp) (t : Nt) : Ld w ((w.alloc (.cells q.lC.toArray 90)).alloc (.cells t.cells.toArray 97)) q t := by
  have e1 : (w.alloc (.cells q.lC.toArray 90)).heap.size = w.heap.size + 1 := by simp
  refine ⟨((Below.refl _ w).alloc (Nat.le_refl _) _).alloc (by simp) _, ?_, ?_⟩
  · show _ = _
    rw [heap_alloc_old _ _ (by simp)]; exact heap_alloc_new _ _
  · rw [← e1]; exact heap_alloc_new _ _
theorem shift_nat (a k : Nat) : ((a : Int) / 2 ^ k).tmod 64 = ((a / 2 ^ k % 64 : Nat) : Int) := by
  have e : (a : Int) / 2 ^ k = ((a / 2 ^ k : Nat) : Int) := by push_cast; rfl
  rw [e]; rfl
def lA0 (x2 x4 gv : Nat) : Int := IntKind.u64.wrap ((x4 : Int) + IntKind.u64.wrap (8 * ((gv : Int) / 64 % (x2 : Int))))
def lBits (n1 n2 : Nat) : Int := bits BinOp.or IntKind.u64 (IntKind.u64.wrap ((n2 : Int) * 4294967296)) (n1 : Int)
def lT1 (bz : Int) (gv : Nat) : Bool := (bz / 2 ^ (gv % 64)).tmod 2 == 0
def lT2 (bz : Int) (gv x3 : Nat) : Bool := (bz / 2 ^ min (gv / 2 ^ min x3 64 % 64) 64).tmod 2 == 0
def lA3 (x0 x5 gv : Nat) : Int := IntKind.u64.wrap ((x5 : Int) + IntKind.u64.wrap (4 * ((gv : Int) % (x0 : Int))))
def lA (x1 x6 n : Nat) : Int := IntKind.u64.wrap ((x6 : Int) + 4 * ((n : Int) - (x1 : Int)))
/-- Along a row of the newer table. -/
def rRun (q : Lp) (x1 x6 gv num : Nat) : Nat → Nat → Bool
  | 0, _ => false
  | k + 1, n => if (woI q (lA x1 x6 n)).2 = false then false else if n = num then decide ((woI q (lA x1 x6 n)).1 / 2 = gv / 2) else if (woI q (lA x1 x6 n)).1 % 2 = 1 then false else rRun q x1 x6 gv num k (n + 1)
def rTail (q : Lp) (x0 x1 x5 x6 gv num : Nat) : Bool :=
  if (woI q (lA3 x0 x5 gv)).2 = false ∨ (woI q (lA3 x0 x5 gv)).1 < x1 ∨ num < (woI q (lA3 x0 x5 gv)).1 then false else rRun q x1 x6 gv num (num + 1 - (woI q (lA3 x0 x5 gv)).1) (woI q (lA3 x0 x5 gv)).1
def rLead (q : Lp) (x0 x1 x2 x3 x4 x5 x6 gv num : Nat) : Bool :=
  if (woI q (lA0 x2 x4 gv)).2 = false ∨ (woI q (IntKind.u64.wrap (lA0 x2 x4 gv + 4))).2 = false ∨ lT1 (lBits (woI q (lA0 x2 x4 gv)).1 (woI q (IntKind.u64.wrap (lA0 x2 x4 gv + 4))).1) gv = true ∨ lT2 (lBits (woI q (lA0 x2 x4 gv)).1 (woI q (IntKind.u64.wrap (lA0 x2 x4 gv + 4))).1) gv x3 = true then false
  else rTail q x0 x1 x5 x6 gv num
theorem lt_bad {b1 b2 c1 c2 : Bool} (h : b1 = false ∨ b2 = false ∨ c1 = true ∨ c2 = true) : b1 = false ∨ (b1 = true ∧ b2 = false) ∨ (b1 = true ∧ b2 = true ∧ c1 = true) ∨ (b1 = true ∧ b2 = true ∧ c1 = false ∧ c2 = true) := by
  cases b1 <;> cases b2 <;> cases c1 <;> cases c2 <;> simp_all
theorem lt_four {b1 b2 c1 c2 : Bool} (h : ¬ (b1 = false ∨ b2 = false ∨ c1 = true ∨ c2 = true)) : b1 = true ∧ b2 = true ∧ c1 = false ∧ c2 = false := by
  cases b1 <;> cases b2 <;> cases c1 <;> cases c2 <;> simp_all
set_option maxHeartbeats 8000000 in
set_option maxRecDepth 20000 in
theorem rf_leads (q : Lp) (t : Nt) (ht : t.good) (hok : t.ok = true) (nm : List UInt8) (hl : nm.length ≤ 140737488351232) (num : Nat) (hnum : num ≤ 1000) (w : World) (hk : Lk w q) :
    Calls Try.prog 40 #[.agg q.lC.toArray, .agg t.cells.toArray, .string ⟨nm.toArray⟩, .int .i64 (num : Nat)] w fun e w' => e = .returned (.bool (rLead q t.rows t.first t.words t.shift t.filt t.row t.sums (gnu nm) num)) ∧ Below w.heap.size w w' := by
  have hbd := ht.ok hok
  have hS := fun W => gnu_u64 nm W hl
  have hgl := gnu_lt nm
  generalize gnu nm = gv at *
  obtain ⟨okb, x0, x1, x2, x3, x4, x5, x6⟩ := t
  simp only at hbd hok ⊢
  subst hok
  have hx3 : x3 < 4294967296 := ht.shift
  have HW2 : Hid (1 ≤ x2) := hbd.2.2.2.2
  have HW0 : Hid (1 ≤ x0) := hbd.1
  have HX1 : Hid (x1 ≤ 256) := hbd.2.2.2.1
  have hgI : (gv : Int) ≤ 4294967295 := by omega
  have hx3I : (x3 : Int) ≤ 4294967295 := by omega
  clear ht hbd hgl hx3
  have HRD : Hid (rLead q x0 x1 x2 x3 x4 x5 x6 gv num = if (woI q (lA0 x2 x4 gv)).2 = false ∨ (woI q (IntKind.u64.wrap (lA0 x2 x4 gv + 4))).2 = false ∨ lT1 (lBits (woI q (lA0 x2 x4 gv)).1 (woI q (IntKind.u64.wrap (lA0 x2 x4 gv + 4))).1) gv = true ∨ lT2 (lBits (woI q (lA0 x2 x4 gv)).1 (woI q (IntKind.u64.wrap (lA0 x2 x4 gv + 4))).1) gv x3 = true then false
    else rTail q x0 x1 x5 x6 gv num) := rfl
  have HA0 : Hid (0 ≤ lA0 x2 x4 gv ∧ lA0 x2 x4 gv < 18446744073709551616) := ⟨wr_lo _, wr_hi _⟩
  have ha0 : IntKind.u64.wrap ((x4 : Int) + IntKind.u64.wrap (8 * ((gv : Int) / 64 % (x2 : Int)))) = lA0 x2 x4 gv := rfl
  generalize lA0 x2 x4 gv = a0 at *
  have HC1 := hide (fun W (hW : Lk W q) => rf_wordI W q hW a0 HA0.out.1 HA0.out.2)
  have HC2 := hide (fun W (hW : Lk W q) => rf_wordI W q hW (IntKind.u64.wrap (a0 + 4)) (wr_lo _) (wr_hi _))
  generalize woI q (IntKind.u64.wrap (a0 + 4)) = W2 at *
  generalize woI q a0 = W1 at *
  obtain ⟨n1, b1⟩ := W1
  obtain ⟨n2, b2⟩ := W2
  simp only at HRD HC1 HC2
  have HA := hide ha0
  clear ha0
  generalize rLead q x0 x1 x2 x3 x4 x5 x6 gv num = R at *
  have HL0 := hide (Ld.begin w q ⟨true, x0, x1, x2, x3, x4, x5, x6⟩)
  have HK := hide hk
  have HLD := hide (fun W (hW : HasL W w.heap.size q) => load_L hW hk)
  have hnI : (num : Int) ≤ 1000 := by omega
  clear hk
  simp only [Nt.cells] at HL0 ⊢
  go_enter Try.func40, Try.ntmps40
  go_wp2_with (go_at_call 62; refine (hS _).mono ?_; rintro e w9 ⟨rfl, hw9⟩; rw [← hw9]; clear hw9)
  try simp only [List.append_eq, List.cons_append, List.nil_append]
  generalize (w.alloc _).alloc _ = w0 at *
  have k5 := cells_of_block HL0.out.t 5 (.int .u64 (x4 : Nat)) rfl
  have k3 := cells_of_block HL0.out.t 3 (.int .u64 (x2 : Nat)) rfl
  refine wp_region_quiet_below (by kernel_rfl) (by kernel_rfl) ?_
  have e5 := cell_regrown k5
  have e3 := cell_regrown k3
  have r0 : ((x2 : Int) == 0) = false := by have := HW2.out; simp; omega
  have r6 : ¬ (x2 : Int) = 0 := by have := HW2.out; omega
  have r7 : ¬ x2 = 0 := by have := HW2.out; omega
  repeat (go_big_quiet_step (fail))
  refine wpQuiet_nil ?_
  intro _ hwq
  obtain ⟨⟨dq, osq⟩, hwq2⟩ := hwq
  subst hwq2
  have HL1 := hide (HL0.out.stay (below_regrown w0 dq osq))
  clear e5 e3 k5 k3 r0 r6 r7 HL0
  generalize grow _ _ = w1 at *
  have ha0 := HA.out
  go_wp2_with (first
    | ((with_reducible refine at_loadT (T := 90) ?_); refine load_row rfl _ _ rfl w.heap.size _ (HLD.out _ HL1.out.l) rfl ?_))
  clear ha0
  refine (HC1.out _ (HK.out.below HL1.out.b)).mono ?_
  rintro e w2 ⟨rfl, hb2⟩
  have HL2 := hide (HL1.out.stay hb2)
  clear hb2 HL1
  go_wp2_with (first
    | ((with_reducible refine at_loadT (T := 90) ?_); refine load_row rfl _ _ rfl w.heap.size _ (HLD.out _ HL2.out.l) rfl ?_))
  refine (HC2.out _ (HK.out.below HL2.out.b)).mono ?_
  rintro e w3 ⟨rfl, hb3⟩
  have HL3 := hide (HL2.out.stay hb3)
  clear hb3 HL2 HC1 HC2
  have k4 := cells_of_block HL3.out.t 4 (.int .u64 (x3 : Nat)) rfl
  have hbz : bits BinOp.or IntKind.u64 (IntKind.u64.wrap ((n2 : Int) * 4294967296)) (n1 : Int) = lBits n1 n2 := rfl
  go_upto_region 6 with fail
  clear hbz
  generalize lBits n1 n2 = bz at *
  by_cases hbad : b1 = false ∨ b2 = false ∨ lT1 bz gv = true ∨ lT2 bz gv x3 = true
  · have HR : Hid (R = false) := by rw [Hid, HRD.out, if_pos hbad]
    have hcs : b1 = false ∨ (b1 = true ∧ b2 = false) ∨ (b1 = true ∧ b2 = true ∧ lT1 bz gv = true) ∨ (b1 = true ∧ b2 = true ∧ lT1 bz gv = false ∧ lT2 bz gv x3 = true) := by
      exact lt_bad hbad
    clear HRD hbad
    have hsh : ((gv : Int) / 2 ^ min x3 64).tmod 64 = ((gv / 2 ^ min x3 64 % 64 : Nat) : Int) := shift_nat gv (min x3 64)
    unfold lT1 lT2 at hcs
    obtain ⟨sh, hshe⟩ : ∃ sh, gv / 2 ^ min x3 64 % 64 = sh := ⟨_, rfl⟩
    rw [hshe] at hsh hcs
    clear hshe
    try simp only [List.append_eq, List.cons_append, List.nil_append]
    rcases hcs with rfl | ⟨rfl, rfl⟩ | ⟨rfl, rfl, hc1⟩ | ⟨rfl, rfl, hc1, hc2⟩
    all_goals
      refine RgS.wp_region_seq_below ?_
      have e4 := cell_regrown k4
      repeat (go_big_quiet_step (fail))
      refine wpQuiet_nil ?_
      intro _ hwq
      obtain ⟨⟨dr, osr⟩, hwq2⟩ := hwq
      subst hwq2
      have HL4 := hide (HL3.out.stay (below_regrown w3 dr osr))
      clear e4 k4 hsh HL3
      generalize grow _ _ = w4 at *
      go_wp2
      go_ret
      exact ⟨by rw [HR.out]; rfl, HL4.out.b⟩
  · have HR : Hid (R = rTail q x0 x1 x5 x6 gv num) := by rw [Hid, HRD.out, if_neg hbad]
    obtain ⟨rfl, rfl, hc1, hc2⟩ := lt_four hbad
    clear HRD hbad
    unfold lT1 at hc1
    unfold lT2 at hc2
    try simp only [List.append_eq, List.cons_append, List.nil_append]
    refine RgS.wp_region_seq_below ?_
    have e4 := cell_regrown k4
    have hsh : ((gv : Int) / 2 ^ min x3 64).tmod 64 = ((gv / 2 ^ min x3 64 % 64 : Nat) : Int) := shift_nat gv (min x3 64)
    obtain ⟨sh, hshe⟩ : ∃ sh, gv / 2 ^ min x3 64 % 64 = sh := ⟨_, rfl⟩
    rw [hshe] at hsh hc2
    clear hshe
    repeat (go_big_quiet_step (fail))
    refine wpQuiet_nil ?_
    intro _ hwq
    obtain ⟨⟨dr, osr⟩, hwq2⟩ := hwq
    subst hwq2
    have HL4 := hide (HL3.out.stay (below_regrown w3 dr osr))
    clear e4 k4 hc1 hc2 hsh HL3
    generalize grow _ _ = w4 at *
    have HZ : Hid (rTail q x0 x1 x5 x6 gv num = if (woI q (lA3 x0 x5 gv)).2 = false ∨ (woI q (lA3 x0 x5 gv)).1 < x1 ∨ num < (woI q (lA3 x0 x5 gv)).1 then false else rRun q x1 x6 gv num (num + 1 - (woI q (lA3 x0 x5 gv)).1) (woI q (lA3 x0 x5 gv)).1) := rfl
    have HC3 := hide (fun W (hW : Below w4.heap.size w4 W) => rf_wordI W q (HK.out.below (HL4.out.b.trans (hW.mono HL4.out.b.size))) (lA3 x0 x5 gv) (wr_lo _) (wr_hi _))
    have HN3 := hide (woI_lt q (lA3 x0 x5 gv))
    generalize woI q (lA3 x0 x5 gv) = W3 at *
    obtain ⟨n, b3⟩ := W3
    simp only at HZ HC3 HN3
    unfold lA3 at HC3
    have k6 := cells_of_block HL4.out.t 6 (.int .u64 (x5 : Nat)) rfl
    have k1 := cells_of_block HL4.out.t 1 (.int .u64 (x0 : Nat)) rfl
    have r0 : ((x0 : Int) == 0) = false := by have := HW0.out; simp; omega
    have r6 : ¬ (x0 : Int) = 0 := by have := HW0.out; omega
    have r7 : ¬ x0 = 0 := by have := HW0.out; omega
    go_upto_region 8 with fail
    try simp only [List.append_eq, List.cons_append, List.nil_append]
    refine wp_region_quiet_below (by kernel_rfl) (by kernel_rfl) ?_
    have e6 := cell_regrown k6
    have e1 := cell_regrown k1
    have HLQ := hide (fun W (hW : ∃ p : Regrown, W = grow (redrawn w4 p.d) p.os) => HLD.out W (by obtain ⟨p, rfl⟩ := hW; exact HL4.out.l.stay (below_regrown w4 p.d p.os)))
    refine quiet_load rfl _ _ rfl _ rfl _ HLQ.out _ rfl ?_
    simp only [Act.put, List.setIfInBounds_toArray, List.set_cons_succ, List.set_cons_zero]
    repeat (go_big_quiet_step (exact Calls.regrown_of (HC3.out _ (below_regrown _ _ _))))
    refine wpQuiet_nil ?_
    intro _ hwq
    obtain ⟨⟨ds, oss⟩, hwq2⟩ := hwq
    subst hwq2
    have HL5 := hide (HL4.out.stay (below_regrown w4 ds oss))
    clear e6 e1 k6 k1 r0 r6 r7 HL4 HLQ HC3
    generalize grow _ _ = w5 at *
    have k2 := cells_of_block HL5.out.t 2 (.int .u64 (x1 : Nat)) rfl
    have hnw : IntKind.u64.wrap (num : Int) = (num : Int) := by rw [IntKind.wrap_u64]; omega
    by_cases hbad3 : b3 = false ∨ n < x1 ∨ num < n
    · have HRR : Hid (R = false) := by rw [Hid, HR.out, HZ.out, if_pos hbad3]
      have hcs : b3 = false ∨ (b3 = true ∧ decide (n < x1) = true) ∨ (b3 = true ∧ decide (n < x1) = false ∧ decide (num < n) = true) := by
        cases b3 with
        | false => exact .inl rfl
        | true =>
          by_cases h0 : n < x1
          · exact .inr (.inl ⟨rfl, decide_eq_true h0⟩)
          · refine .inr (.inr ⟨rfl, decide_eq_false h0, decide_eq_true ?_⟩)
            rcases hbad3 with h | h | h
            · cases h
            · exact absurd h h0
            · exact h
      clear HR HZ hbad3
      rcases hcs with rfl | ⟨rfl, a1⟩ | ⟨rfl, a1, a2⟩
      all_goals
        go_wp2
        go_ret
        exact ⟨by rw [HRR.out]; rfl, HL5.out.b⟩
    · have hb3 : b3 = true := by cases b3; exact absurd (.inl rfl) hbad3; rfl
      subst hb3
      have HRR : Hid (R = rRun q x1 x6 gv num (num + 1 - n) n) := by rw [Hid, HR.out, HZ.out, if_neg hbad3]
      have a1 : decide (n < x1) = false := decide_eq_false (by omega)
      have a2 : decide (num < n) = false := decide_eq_false (by omega)
      have HNX : Hid (x1 ≤ n ∧ n ≤ num + 1) := ⟨by omega, by omega⟩
      clear HR HZ hbad3
      go_wp2
      clear a1 a2 k2
      go_loopw [16] (fun v16 wr => ∃ m : Nat, v16 = .int .u64 m ∧ Hid (x1 ≤ m ∧ m ≤ num + 1) ∧ Hid (R = rRun q x1 x6 gv num (num + 1 - m) m) ∧ Hid (Ld w wr q ⟨true, x0, x1, x2, x3, x4, x5, x6⟩))
        (fun v16 _ => num + 1 - (intOf v16).toNat)
      case atStart => exact ⟨n, rfl, HNX, HRR, HL5⟩
      case round =>
        obtain ⟨m, rfl, HM, HRm, HLm⟩ := hrel
        by_cases hlt : m ≤ num
        · have hltI : (m : Int) ≤ (num : Int) := by omega
          have HF : Hid (R = if (woI q (lA x1 x6 m)).2 = false then false else if m = num then decide ((woI q (lA x1 x6 m)).1 / 2 = gv / 2) else if (woI q (lA x1 x6 m)).1 % 2 = 1 then false else rRun q x1 x6 gv num (num + 1 - (m + 1)) (m + 1)) := by
            rw [Hid, HRm.out, show num + 1 - m = (num + 1 - (m + 1)) + 1 by omega, rRun]
          have HC4 := hide (rf_wordI wr q (HK.out.below HLm.out.b) (lA x1 x6 m) (wr_lo _) (wr_hi _))
          have HN4 := hide (woI_lt q (lA x1 x6 m))
          have k7 := cells_of_block HLm.out.t 7 (.int .u64 (x6 : Nat)) rfl
          have k2 := cells_of_block HLm.out.t 2 (.int .u64 (x1 : Nat)) rfl
          have hm1 : (x1 : Int) ≤ (m : Int) := by have := HM.out.1; omega
          have hm0 : (x1 : Int) ≤ 256 := by have := HX1.out; omega
          generalize woI q (lA x1 x6 m) = W4 at *
          obtain ⟨s, b4⟩ := W4
          simp only at HF HC4 HN4
          unfold lA at HC4
          clear HRm
          go_wp2_with (first
            | ((with_reducible refine at_loadT (T := 90) ?_); refine load_row rfl _ _ rfl w.heap.size _ (HLD.out _ HLm.out.l) rfl ?_))
          refine HC4.out.mono ?_
          rintro e w6 ⟨rfl, hb6⟩
          have HL6 := hide (HLm.out.stay hb6)
          have HMM : Hid (x1 ≤ m + 1 ∧ m + 1 ≤ num + 1) := ⟨by have := HM.out.1; omega, by omega⟩
          have HMI : Hid ((m : Int) + 1 ≤ 1001) := by unfold Hid; omega
          clear hb6 HC4 HLm k7 k2 hm1 hm0 hlt hltI
          cases b4 with
          | false =>
            have HR2 : Hid (R = false) := by rw [Hid, HF.out, if_pos rfl]
            clear HF
            go_wp2
            go_ret
            exact ⟨by rw [HR2.out]; rfl, HL6.out.b⟩
          | true =>
            have HF2 : Hid (R = if m = num then decide (s / 2 = gv / 2) else if s % 2 = 1 then false else rRun q x1 x6 gv num (num + 1 - (m + 1)) (m + 1)) := by rw [Hid, HF.out, if_neg (by simp)]
            clear HF
            by_cases he : m = num
            · have HR2 : Hid (R = decide (s / 2 = gv / 2)) := by rw [Hid, HF2.out, if_pos he]
              have HE : Hid (((s : Int) / 2 == (gv : Int) / 2) = decide (s / 2 = gv / 2)) := by
                unfold Hid
                by_cases c : s / 2 = gv / 2
                · rw [decide_eq_true c]; simp; omega
                · rw [decide_eq_false c, beq_eq_false_iff_ne]; omega
              have a3 : ((m : Int) == (num : Int)) = true := by simp [he]
              have hsI : (s : Int) ≤ 4294967295 := by have := HN4.out; omega
              clear HF2 he
              go_wp2
              go_ret
              exact ⟨by rw [HR2.out, ← HE.out]; rfl, HL6.out.b⟩
            · have a3 : ((m : Int) == (num : Int)) = false := by rw [beq_eq_false_iff_ne]; omega
              by_cases hod : s % 2 = 1
              · have HR2 : Hid (R = false) := by rw [Hid, HF2.out, if_neg he, if_pos hod]
                have a4 : ((s : Int) % 2 == 1) = true := by simp; omega
                clear HF2 he hod
                go_wp2
                go_ret
                exact ⟨by rw [HR2.out]; rfl, HL6.out.b⟩
              · have HR2 : Hid (R = rRun q x1 x6 gv num (num + 1 - (m + 1)) (m + 1)) := by rw [Hid, HF2.out, if_neg he, if_neg hod]
                have a4 : ((s : Int) % 2 == 1) = false := by rw [beq_eq_false_iff_ne]; omega
                have hmI := HMI.out
                clear HF2 he hod
                go_wp2
                go_roundw
                case rel => exact ⟨m + 1, by go_num, HMM, HR2, HL6⟩
                case measure => have := HMM.out.2; clear hnw; simp [intOf]; omega
        · have hltI : ¬ (m : Int) ≤ (num : Int) := by omega
          have he : m = num + 1 := by have := HM.out.2; omega
          subst he
          have HR2 : Hid (R = false) := by rw [Hid, HRm.out, Nat.sub_self]; rfl
          go_wp2
          go_ret
          exact ⟨by rw [HR2.out]; rfl, HLm.out.b⟩
end Go.Proofs.Ytdclofiifcpkkaa
namespace Go.Proofs.Ytdclofiifcpkkaa
open Go.RowKit Go.PlainAid Go.Sort
def ManyIs (e : Ending) : Prop := ∃ n k : Nat, n < 18446744073709551616 ∧ k < 1000 ∧ e = .returned (.tuple #[.int .u64 (n : Nat), .int .i64 (k : Nat)])
set_option maxHeartbeats 4000000 in
set_option maxRecDepth 20000 in
theorem rf_many (w : World) (q : Lp) (hk : Lk w q) :
    Calls Try.prog 33 #[.agg q.lC.toArray] w fun e w' => ManyIs e ∧ Below w.heap.size w w' := by
  have HB := hide ((Below.refl w.heap.size w).alloc (Nat.le_refl _) (.cells q.lC.toArray 90))
  have HG : Hid (HasL (w.alloc (.cells q.lC.toArray 90)) w.heap.size q) := heap_alloc_new _ _
  have HK := hide hk
  have HLD := hide (fun W (hW : HasL W w.heap.size q) => load_L hW hk)
  have cO : (w.alloc (.cells q.lC.toArray 90)).cell? ⟨w.heap.size, 27, none⟩ = some (.int .u64 (q.ol : Nat)) := HG.out.old hk
  have HCO := hide (fun W (hW : HasL W w.heap.size q) => hW.old hk)
  have HOL := hide hk.b10
  clear hk
  by_cases h0 : q.ol = 0
  · rw [h0] at cO
    have kF := rf_far _ q (HK.out.below HB.out)
    go_enter Try.func33, Try.ntmps33
    go_wp2_with (first
      | ((with_reducible refine at_loadT (T := 90) ?_); refine load_row rfl _ _ rfl w.heap.size _ (HLD.out _ HG.out) rfl ?_))
    refine kF.mono ?_
    rintro e w1 ⟨⟨n, b, hn, rfl⟩, hb1⟩
    have HB1 : Hid (Below w.heap.size w w1) := HB.out.trans (hb1.mono HB.out.size)
    have HN := hide hn
    clear kF hb1 HB HG cO hn
    cases b with
    | false =>
      go_wp2
      go_ret2
      exact ⟨⟨0, 101, by decide, by decide, rfl⟩, HB1.out⟩
    | true =>
      go_wp2
      go_ret2
      exact ⟨⟨n, 0, HN.out, by decide, rfl⟩, HB1.out⟩
  · obtain ⟨ol, hol⟩ : ∃ ol, q.ol = ol := ⟨_, rfl⟩
    rw [hol] at cO HCO HOL h0
    have h0I : ((ol : Int) == 0) = false := by simp [h0]
    have HO2 := HOL
    clear hol h0
    go_enter Try.func33, Try.ntmps33
    go_wp2_with (first
      | ((with_reducible refine at_loadT (T := 90) ?_); refine load_row rfl _ _ rfl w.heap.size _ (HLD.out _ HG.out) rfl ?_))
    refine (rf_wordZ _ q (HK.out.below HB.out) (ol : Int) (by omega) (by have := HO2.out; omega)).mono ?_
    rintro e w1 ⟨⟨n1, b1, hn1, rfl⟩, hb1⟩
    have HB1 : Hid (Below w.heap.size w w1) := HB.out.trans (hb1.mono HB.out.size)
    have HG1 := hide (HG.out.stay hb1)
    have c1 := HCO.out w1 HG1.out
    clear hb1 HB HG cO hn1
    go_wp2_with (first
      | ((with_reducible refine at_loadT (T := 90) ?_); refine load_row rfl _ _ rfl w.heap.size _ (HLD.out _ HG1.out) rfl ?_)
      | (go_at_call 36; refine (rf_wordZ _ _ (HK.out.below HB1.out) _ (wr_lo _) (wr_hi _)).mono ?_))
    rintro e w2 ⟨⟨n2, b2, hn2, rfl⟩, hb2⟩
    have HB2 : Hid (Below w.heap.size w w2) := HB1.out.trans (hb2.mono HB1.out.size)
    have HN := hide hn2
    clear hb2 HB1 HG1 c1 hn2
    cases b1 with
    | false =>
      go_wp2
      go_ret2
      exact ⟨⟨0, 101, by decide, by decide, rfl⟩, HB2.out⟩
    | true =>
      cases b2 with
      | false =>
        go_wp2
        go_ret2
        exact ⟨⟨0, 101, by decide, by decide, rfl⟩, HB2.out⟩
      | true =>
        go_wp2
        go_ret2
        exact ⟨⟨n2, 0, by have := HN.out; omega, by decide, rfl⟩, HB2.out⟩
end Go.Proofs.Ytdclofiifcpkkaa
namespace Go.Proofs.Ytdclofiifcpkkaa
open Go.RowKit Go.PlainAid Go.Sort
def oneY (r S : List UInt8) : Sy := ⟨(textAt S (rd r 0 4)).1, [], false, ((rd r 4 1 / 16 : Nat) : Int), decide (rd r 6 2 ≠ 0), rd r 8 8, rd r 16 8⟩
def oneBad (r S : List UInt8) : Bool := decide ((textAt S (rd r 0 4)).2 ≠ 0) || (textAt S (rd r 0 4)).1.isEmpty || decide (2 < rd r 4 1 / 16) || decide (2 < rd r 4 1 % 16)
def oneOk (r S : List UInt8) (span : Nat) : Bool := if rd r 6 2 ≠ 0 then decide (rd r 8 8 < span) else decide (rd r 8 8 = 0) && decide (rd r 4 1 / 16 ≠ 0)
def oneZ (r S : List UInt8) (first : Bool) (span : Nat) : Sy × Bool :=
  if first = true then (noSy, r.all fun c => c == 0) else if oneBad r S = true then (noSy, false) else (oneY r S, oneOk r S span)
theorem oneZ_bare (r S : List UInt8) (first : Bool) (span : Nat) : bareS (oneZ r S first span).1 := by
  unfold oneZ
  split
  · exact ⟨rfl, rfl⟩
  · split
    · exact ⟨rfl, rfl⟩
    · exact ⟨rfl, rfl⟩
theorem rd1_at {r : List UInt8} {p : Nat} (h : p < r.length) : rd r p 1 = (r.getD p 0).toNat := by
  rw [rd_in (by omega), win_snoc r p 0 (by omega)]
  simp [win, rdN]
set_option maxHeartbeats 4000000 in
set_option maxRecDepth 20000 in
theorem rf_one0 (w : World) (xv : Value) (r : List UInt8) (hx : Arg w xv r) (hr : r.length = 24) (sv : Value) (S : List UInt8) (hs : Arg w sv S) (span : Nat) (hsp : span < 18446744073709551616) :
    Calls Try.prog 34 #[xv, sv, .bool true, .int .u64 (span : Nat)] w fun e w' => e = .returned (.tuple #[.agg (oneZ r S true span).1.cells.toArray, .bool (oneZ r S true span).2]) ∧ Below w.heap.size w w' := by
  have HX := hide hx
  obtain ⟨g, o, cap, rfl, hc1, hc2, hc⟩ := hx.cells (by omega)
  obtain ⟨sa, sn, sc, rfl⟩ : ∃ a n c, sv = .slice a n c := by obtain ⟨a, c, e, _⟩ := hs.isSlice; exact ⟨_, _, _, e⟩
  have hcap : cap ≤ 9223372036854775807 := by unfold maxLen at hc2; omega
  have HB := hide (below1 w (.cells #[.string ⟨#[]⟩, .string ⟨#[]⟩, .bool false, .int .i64 0, .bool false, .int .u64 0, .int .u64 0] 48))
  have HZ : Hid ((w.alloc (.cells #[.string ⟨#[]⟩, .string ⟨#[]⟩, .bool false, .int .i64 0, .bool false, .int .u64 0, .int .u64 0] 48)).heap[w.heap.size]? = some (.cells #[.string ⟨#[]⟩, .string ⟨#[]⟩, .bool false, .int .i64 0, .bool false, .int .u64 0, .int .u64 0] 48 (0, 0))) := heap_alloc_new _ _
  have HR : Hid (r.length = 24) := hr
  have HC : Hid (∀ i (h : i < r.length), w.cell? ⟨g, o + i, none⟩ = some (.int .u8 ((r.getD i 0).toNat : Nat))) := hc
  rw [hr] at hc1 ⊢
  unfold oneZ
  rw [if_pos rfl]
  clear hx hs hc hr
  simp only [noSy, Sy.cells]
  go_enter Try.func34, Try.ntmps34
  go_wp2
  go_loop [10] (fun vi => ∃ i : Nat, vi = .int .i64 i ∧ i ≤ 24 ∧ Hid (∀ j, j < i → r.getD j 0 = 0)) (fun vi => 24 - (intOf vi).toNat)
  case atStart => exact ⟨0, rfl, by omega, fun j hj => by omega⟩
  case round =>
    obtain ⟨i, rfl, hi, HA⟩ := hrel
    by_cases hlt : i < 24
    · have hltI : (i : Int) < 24 := by omega
      have ci : (w.alloc (.cells #[.string ⟨#[]⟩, .string ⟨#[]⟩, .bool false, .int .i64 0, .bool false, .int .u64 0, .int .u64 0] 48)).cell? ⟨g, o + i, none⟩ = some (.int .u8 ((r.getD i 0).toNat : Nat)) := by
        have k := HC.out i (by rw [HR.out]; exact hlt)
        have hgl := World.block_lt_of_cell? _ _ k
        rw [World.cell?_alloc_lt _ _ _ hgl]; exact k
      by_cases h0 : r.getD i 0 = 0
      · have hx : ((r.getD i 0).toNat : Int) = 0 := by rw [h0]; rfl
        have HA2 : Hid (∀ j, j < i + 1 → r.getD j 0 = 0) := fun j hj => by
          by_cases e : j = i
          · subst e; exact h0
          · exact HA.out j (by omega)
        generalize (r.getD i 0).toNat = cN at *
        have hcN : cN = 0 := by omega
        subst hcN
        clear h0 hx
        go_wp2
        go_round
        case rel => exact ⟨i + 1, by go_num, by omega, HA2⟩
        case measure => simp [intOf]; omega
      · have hx : ((r.getD i 0).toNat : Int) ≠ 0 := fun e => h0 (UInt8.toNat_inj.1 (by simpa using (by omega : (r.getD i 0).toNat = 0)))
        have HN : Hid ((r.all fun c => c == 0) = false) := by
          rw [Hid, List.all_eq_false]
          refine ⟨r.getD i 0, ?_, by simpa using h0⟩
          have hil : i < r.length := by rw [HR.out]; exact hlt
          rw [List.getD_eq_getElem?_getD, List.getElem?_eq_getElem hil]
          exact List.getElem_mem hil
        generalize (r.getD i 0).toNat = cN at *
        have hcb : ((cN : Int) != 0) = true := by simp; omega
        clear h0 hx
        go_wp2
        refine bodyPost_ret (results_cell2 rfl _ _ w.heap.size _ _ _ _ rfl HZ.out Try.underlying48 rfl (by kernel_rfl)) rfl ?_
        exact ⟨by rw [HN.out]; rfl, HB.out⟩
    · have hltI : ¬ (i : Int) < 24 := by omega
      have he : i = 24 := by omega
      have HN : Hid ((r.all fun c => c == 0) = true) := by
        rw [Hid, List.all_eq_true]
        intro c hc
        obtain ⟨j, hj, rfl⟩ := List.mem_iff_getElem.1 hc
        have := HA.out j (by rw [HR.out] at hj; omega)
        rw [List.getD_eq_getElem?_getD, List.getElem?_eq_getElem hj] at this
        simpa using this
      go_wp2
      refine bodyPost_ret (results_cell2 rfl _ _ w.heap.size _ _ _ _ rfl HZ.out Try.underlying48 rfl (by kernel_rfl)) rfl ?_
      exact ⟨by rw [HN.out]; rfl, HB.out⟩
end Go.Proofs.Ytdclofiifcpkkaa
namespace Go.Proofs.Ytdclofiifcpkkaa
open Go.RowKit Go.PlainAid Go.Sort
theorem q_sameH {P : Program} {f : FuncId} {args : Array Value} {w : World} {d : Nat} {os : Array Obj} {v : Value}
    (h : Calls P f args (grow (redrawn w d) os) fun e w' => e = .returned v ∧ (grow (redrawn w d) os) = w') : Calls P f args (grow (redrawn w d) os) fun e w'' => e = .returned v ∧ ∃ p : Regrown, w'' = grow (redrawn w p.d) p.os :=
  h.mono fun _ _ ⟨he, hb⟩ => ⟨he, ⟨d, os⟩, hb.symm⟩
/-- A value is stored into a known row, as one operation. -/
theorem store_o {o : Oper} {a : Act} {w : World} {K : Act → World → Prop} {Q : Exit → Act → World → Prop} (T : TypeId) (x y : Operand) (ho : o.op = .store T x y)
    (g k : Nat) (U : TypeId) (cur : Array Value) (v : Value) (cs : List Value) (new : Array Value) (hg : w.heap[g]? = some (.cells cur U (0, 0))) (hx : a.eval x = .pointer (some ⟨g, k, none⟩)) (hy : a.eval y = v) (hcs : v.cells = cs.toArray)
    (hsz : ∀ w, (Go.sizeOf T).run Try.prog w = .ok cs.length w) (hone : ∀ v ∈ cs, v.oneCell' = true) (hfit : k + cs.length ≤ cur.size) (hnew : (cur.toList.take k ++ cs ++ cur.toList.drop (k + cs.length)).toArray = new)
    (h : ∀ w', w'.heap[g]? = some (.cells new U (0, 0)) → w.grownBy w' (some g) → K (a.put o.dst undef) w') : Oper.wp Try.prog o a w K Q := by
  subst hnew
  have hst := run_storeCells_at Try.prog g k U cs 0 cur w hg (by simpa using hfit) hone
  have hr : (Instr.storeAt T (.pointer (some ⟨g, k, none⟩)) v).run Try.prog w = .ok () (w.setRow g (cur.toList.take k ++ cs ++ cur.toList.drop (k + cs.length)).toArray) := by
    simp only [Nat.add_zero] at hst
    simp only [Instr.storeAt, Instr.sureAddr, Sem.run_bind, Sem.run_pure, Result.andThen_ok, storeVar, hsz, hcs, List.size_toArray]
    simpa using hst
  unfold Oper.wp execOp
  simp only [ho, hx, hy, Sem.run_bind, Sem.run_pure, Result.andThen_ok, hr]
  exact h _ (setRow_heap w g _ _ _ _ hg) ⟨rfl, rfl, rfl, by simp, fun k _ hk => setRow_other w g k _ (fun e => hk (by rw [e]))⟩
/-- What one holds: the answer's place, the symbol. -/
structure Oy (w wx : World) (p : Nat) (r s : Sy) : Prop where
  b : Below w.heap.size w wx
  r : wx.heap[w.heap.size]? = some (.cells r.cells.toArray 48 (0, 0))
  s : wx.heap[p]? = some (.cells s.cells.toArray 48 (0, 0))
  p : w.heap.size < p
theorem set1H {w : World} {g : Nat} {cur : Array Value} {T : TypeId} (h : w.heap[g]? = some (.cells cur T (0, 0))) (j : Nat) (v : Value) : (w.setCell ⟨g, j, none⟩ v).heap[g]? = some (.cells (cur.setIfInBounds j v) T (0, 0)) := by
  simp [World.setCell, Array.getElem?_modify, h]
theorem set7 {w : World} {g : Nat} {c0 c1 c2 c3 c4 c5 c6 : Value} {T : TypeId} (h : w.heap[g]? = some (.cells #[c0, c1, c2, c3, c4, c5, c6] T (0, 0))) (a0 a1 a2 a3 a4 a5 a6 : Value) :
    (((((((w.setCell ⟨g, 0, none⟩ a0).setCell ⟨g, 1, none⟩ a1).setCell ⟨g, 2, none⟩ a2).setCell ⟨g, 3, none⟩ a3).setCell ⟨g, 4, none⟩ a4).setCell ⟨g, 5, none⟩ a5).setCell ⟨g, 6, none⟩ a6).heap[g]? = some (.cells #[a0, a1, a2, a3, a4, a5, a6] T (0, 0)) := by
  have h6 := set1H (set1H (set1H (set1H (set1H (set1H (set1H h 0 a0) 1 a1) 2 a2) 3 a3) 4 a4) 5 a5) 6 a6
  simp only [List.setIfInBounds_toArray, List.set_cons_succ, List.set_cons_zero] at h6
  exact h6
theorem below7 {w0 w : World} {g : Nat} (h : Below w0.heap.size w0 w) (hg : w0.heap.size ≤ g) (a0 a1 a2 a3 a4 a5 a6 : Value) :
    Below w0.heap.size w0 (((((((w.setCell ⟨g, 0, none⟩ a0).setCell ⟨g, 1, none⟩ a1).setCell ⟨g, 2, none⟩ a2).setCell ⟨g, 3, none⟩ a3).setCell ⟨g, 4, none⟩ a4).setCell ⟨g, 5, none⟩ a5).setCell ⟨g, 6, none⟩ a6) :=
  ((((((h.setCell hg a0).setCell hg a1).setCell hg a2).setCell hg a3).setCell hg a4).setCell hg a5).setCell hg a6
theorem frozen_H {w : World} {g : Nat} {cs : Array Value} {T : TypeId} (h : w.heap[g]? = some (.cells cs T (0, 0))) (k : Nat) : w.frozen? ⟨g, k, none⟩ = false := by
  unfold World.frozen?
  rw [h]; rfl
set_option maxHeartbeats 4000000 in
set_option maxRecDepth 20000 in
theorem rf_one1 (w : World) (xv : Value) (r : List UInt8) (hx : Arg w xv r) (hr : r.length = 24) (sv : Value) (S : List UInt8) (hs : Arg w sv S) (span : Nat) (hsp : span < 18446744073709551616) :
    Calls Try.prog 34 #[xv, sv, .bool false, .int .u64 (span : Nat)] w fun e w' => e = .returned (.tuple #[.agg (oneZ r S false span).1.cells.toArray, .bool (oneZ r S false span).2]) ∧ Below w.heap.size w w' := by
  have HX := hide hx
  have HS := hide hs
  obtain ⟨g, o, cap, rfl, hc1, hc2, hc⟩ := hx.cells (by omega)
  obtain ⟨sa, sn, sc, rfl⟩ : ∃ a n c, sv = .slice a n c := by obtain ⟨a, c, e, _⟩ := hs.isSlice; exact ⟨_, _, _, e⟩
  have hcap : cap ≤ 9223372036854775807 := by unfold maxLen at hc2; omega
  have HB := hide (below1 w (.cells #[.string ⟨#[]⟩, .string ⟨#[]⟩, .bool false, .int .i64 0, .bool false, .int .u64 0, .int .u64 0] 48))
  have HZ : Hid ((w.alloc (.cells #[.string ⟨#[]⟩, .string ⟨#[]⟩, .bool false, .int .i64 0, .bool false, .int .u64 0, .int .u64 0] 48)).heap[w.heap.size]? = some (.cells noSy.cells.toArray 48 (0, 0))) := heap_alloc_new _ _
  have h4 : w.cell? ⟨g, o + 4, none⟩ = some (.int .u8 (rd r 4 1 : Nat)) := by rw [rd1_at (by omega)]; exact hc 4 (by omega)
  have hgl := World.block_lt_of_cell? _ _ h4
  have H4 := hide (fun W (hW : Below w.heap.size w W) => (hW.cell (p := ⟨g, o + 4, none⟩) hgl).trans h4)
  rw [hr] at hc1 HX ⊢
  have HN := hide (fun W (hW : Below w.heap.size w W) p s hp hs hs0 => ref8_N W _ r (HX.out.below' hW) p s hp hs hs0)
  have HT := hide (fun W (hW : Below w.heap.size w W) => ref_Text W _ S (HS.out.below' hW) (rd r 0 4) (by have := rd4 r 0; omega))
  have HO : Hid (oneZ r S false span = if oneBad r S = true then (noSy, false) else (oneY r S, oneOk r S span)) := rfl
  have HO1 : Hid (oneBad r S = (decide ((textAt S (rd r 0 4)).2 ≠ 0) || (textAt S (rd r 0 4)).1.isEmpty || decide (2 < rd r 4 1 / 16) || decide (2 < rd r 4 1 % 16))) := rfl
  have HO2 : Hid (oneY r S = ⟨(textAt S (rd r 0 4)).1, [], false, ((rd r 4 1 / 16 : Nat) : Int), decide (rd r 6 2 ≠ 0), rd r 8 8, rd r 16 8⟩) := rfl
  have HO3 : Hid (oneOk r S span = if rd r 6 2 ≠ 0 then decide (rd r 8 8 < span) else decide (rd r 8 8 = 0) && decide (rd r 4 1 / 16 ≠ 0)) := rfl
  have HC4 : Hid (rd r 4 1 < 256) := rd_lt r 4 1
  have k0 : ∀ W, Below w.heap.size w W → Calls Try.prog 20 #[.slice (some ⟨g, o, none⟩) 24 cap, .int .u64 0, .int .i64 4] W fun e w' => e = .returned (.int .u64 (rd r 0 4 : Nat)) ∧ W = w' := fun W hW => HN.out W hW 0 4 (by decide) (by decide) (by decide)
  have k6 : ∀ W, Below w.heap.size w W → Calls Try.prog 20 #[.slice (some ⟨g, o, none⟩) 24 cap, .int .u64 6, .int .i64 2] W fun e w' => e = .returned (.int .u64 (rd r 6 2 : Nat)) ∧ W = w' := fun W hW => HN.out W hW 6 2 (by decide) (by decide) (by decide)
  have k8 : ∀ W, Below w.heap.size w W → Calls Try.prog 20 #[.slice (some ⟨g, o, none⟩) 24 cap, .int .u64 8, .int .i64 8] W fun e w' => e = .returned (.int .u64 (rd r 8 8 : Nat)) ∧ W = w' := fun W hW => HN.out W hW 8 8 (by decide) (by decide) (by decide)
  have k16 : ∀ W, Below w.heap.size w W → Calls Try.prog 20 #[.slice (some ⟨g, o, none⟩) 24 cap, .int .u64 16, .int .i64 8] W fun e w' => e = .returned (.int .u64 (rd r 16 8 : Nat)) ∧ W = w' := fun W hW => HN.out W hW 16 8 (by decide) (by decide) (by decide)
  have K0 := hide k0
  have K6 := hide k6
  have K8 := hide k8
  have K16 := hide k16
  generalize textAt S (rd r 0 4) = tx at *
  obtain ⟨nm, ek⟩ := tx
  simp only at HO1 HO2 HO3 HT
  generalize rd r 0 4 = n0 at *
  generalize rd r 4 1 = c4 at *
  generalize rd r 6 2 = n6 at *
  generalize rd r 8 8 = n8 at *
  generalize rd r 16 8 = n16 at *
  generalize oneZ r S false span = Z at *
  generalize oneBad r S = bad at *
  generalize oneY r S = Y at *
  generalize oneOk r S span = okk at *
  clear hx hs hc hr h4 hgl k0 k6 k8 k16 HN HX HS
  go_enter Try.func34, Try.ntmps34
  go_wp2_with (go_at_call 20; refine (K0.out _ HB.out).mono ?_; rintro e w9 ⟨rfl, hw9⟩; rw [← hw9]; clear hw9)
  refine (HT.out _ HB.out).mono ?_
  rintro e w1 ⟨rfl, hb1⟩
  have HB1 : Hid (Below w.heap.size w w1) := HB.out.trans (hb1.mono HB.out.size)
  have HZ1 := hide (block_stay HZ.out hb1)
  have HL1 : Hid (w.heap.size < w1.heap.size) := (Array.getElem?_eq_some_iff.1 HZ1.out).1
  clear hb1 HB HZ HT K0
  have hc4I : (c4 : Int) ≤ 255 := by have := HC4.out; omega
  have hbi : (c4 : Int) / 16 = ((c4 / 16 : Nat) : Int) := rfl
  have HBD : Hid (c4 / 16 ≤ 15) := by unfold Hid; omega
  generalize c4 / 16 = bd at *
  go_upto_region 9 with fail
  try simp only [List.append_eq, List.cons_append, List.nil_append]
  apply RgV.wp_region_var_at (n := 14) (hl := rfl) (z := .cells noSy.cells.toArray 48) (hm := by kernel_rfl) (hB := by kernel_rfl) (hV := by kernel_rfl)
  case H =>
    intro W hW
    have bW : ∀ d os, Below w.heap.size w (grow (redrawn W d) os) := fun d os => HB1.out.trans ((hW.trans ((below_regrown W d os).mono hW.size)).mono HB1.out.size)
    have e4 : ∀ d os, (grow (redrawn W d) os).cell? ⟨g, o + 4, none⟩ = some (.int .u8 (c4 : Nat)) := fun d os => H4.out _ (bW d os)
    have HBW := hide bW
    have h24 : (4 : Int) < 24 := by decide
    clear bW
    simp only [List.take_succ_cons, List.take_zero]
    have Q6 := hide (fun d os => q_sameH (w := W) (d := d) (os := os) (K6.out _ (HBW.out d os)))
    have Q8 := hide (fun d os => q_sameH (w := W) (d := d) (os := os) (K8.out _ (HBW.out d os)))
    have Q16 := hide (fun d os => q_sameH (w := W) (d := d) (os := os) (K16.out _ (HBW.out d os)))
    repeat (go_big_quiet_step (first | (with_reducible exact Q6.out _ _) | (with_reducible exact Q8.out _ _) | (with_reducible exact Q16.out _ _)))
    exact wpQuiet_nil rfl
  case hA =>
    intro a w K hk
    go_simp
    exact hk
  case hS =>
    intro w2 p hb2 hp hz
    refine store_o 48 (.tmp 13) (.tmp 48) rfl p 0 48 noSy.cells.toArray _ (Sy.cells ⟨nm, [], false, (bd : Nat), ((n6 : Int) != 0), n8, n16⟩) (Sy.cells ⟨nm, [], false, (bd : Nat), ((n6 : Int) != 0), n8, n16⟩).toArray hz rfl rfl rfl sy_size (Sy.one _) (Nat.le_of_ble_eq_true rfl) rfl ?_
    intro w5 h5 g5
    have HOY : Hid (Oy w w5 p noSy ⟨nm, [], false, (bd : Nat), ((n6 : Int) != 0), n8, n16⟩) := by
      have hb5 := hb2
      refine ⟨?_, ?_, h5, Nat.lt_of_lt_of_le HL1.out hp⟩
      · exact grown_below (Nat.le_of_lt (Nat.lt_of_lt_of_le HL1.out hp)) (HB1.out.trans (hb2.mono HB1.out.size)) g5
      · have q := block_stay HZ1.out hb2
        exact (g5.block _ (Array.getElem?_eq_some_iff.1 q).1 (fun e => by injection e with e; have := HL1.out; omega)).trans q
    have HL5 : Hid (w.heap.size < p) := Nat.lt_of_lt_of_le HL1.out hp
    clear hb2 hp hz h5 g5 HB1 HZ1 HL1 K6 K8 K16 hbi
    have kb := cells_of_block HOY.out.s 3 (.int .i64 (bd : Nat)) rfl
    have kd := cells_of_block HOY.out.s 4 (.bool ((n6 : Int) != 0)) rfl
    have e4 := H4.out w5 HOY.out.b
    have hbI : (bd : Int) ≤ 15 := by have := HBD.out; omega
    dsimp only [Act.put]
    simp only [List.setIfInBounds_toArray, List.set_cons_succ, List.set_cons_zero]
    cases hbad : bad with
    | true =>
      have HR : Hid (Z = (noSy, false)) := by rw [Hid, HO.out, hbad, if_pos rfl]
      have hcs : (ek != 0) = true ∨ ((ek != 0) = false ∧ nm = []) ∨ ((ek != 0) = false ∧ (nm == []) = false ∧ (2 : Int) < (bd : Int)) ∨ ((ek != 0) = false ∧ (nm == []) = false ∧ decide ((2 : Int) < (bd : Int)) = false ∧ (2 : Int) < (c4 : Int) % 16) := by
        have h1 := HO1.out
        rw [hbad] at h1
        by_cases q1 : ek = 0
        · have q1b : (ek != 0) = false := by simp [q1]
          by_cases q2 : nm = []
          · exact .inr (.inl ⟨q1b, q2⟩)
          · have q2b : (nm == []) = false := by cases nm; exact absurd rfl q2; rfl
            have q2c : nm.isEmpty = false := by cases nm; exact absurd rfl q2; rfl
            by_cases q3 : 2 < bd
            · exact .inr (.inr (.inl ⟨q1b, q2b, by omega⟩))
            · refine .inr (.inr (.inr ⟨q1b, q2b, decide_eq_false (by omega), ?_⟩))
              rw [decide_eq_false (show ¬ ek ≠ 0 from fun c => c q1), q2c, decide_eq_false q3] at h1
              have := of_decide_eq_true h1.symm
              omega
        · exact .inl (by simp [q1])
      clear HO HO1 HO2 HO3 hbad
      rcases hcs with a1 | ⟨a1, rfl⟩ | ⟨a1, a2, a3⟩ | ⟨a1, a2, a3, a4⟩
      all_goals
        go_wp2_with (first
          | ((with_reducible refine at_storeT (T := 48) ?_); refine store_part rfl _ _ _ rfl w.heap.size 0 48 _ noSy.cells noSy.cells.toArray HOY.out.r rfl rfl sy_size (Sy.one _) (Nat.le_of_ble_eq_true rfl) (by rfl) ?_))
        intro w6 h6 g6
        have HB6 := hide (grown_below (Nat.le_refl _) HOY.out.b g6)
        have H6 := hide h6
        clear h6 g6 HOY kb kd e4
        go_wp2
        refine bodyPost_ret (results_cell2 rfl _ _ w.heap.size _ _ _ _ rfl H6.out Try.underlying48 rfl (by kernel_rfl)) rfl ?_
        exact ⟨by rw [HR.out]; rfl, HB6.out⟩
    | false =>
      have HR : Hid (Z = (Y, okk)) := by rw [Hid, HO.out, hbad, if_neg (by simp)]
      have hcs : (ek != 0) = false ∧ (nm == []) = false ∧ decide ((2 : Int) < (bd : Int)) = false ∧ decide ((2 : Int) < (c4 : Int) % 16) = false := by
        have h1 := HO1.out.symm
        rw [hbad] at h1
        simp only [Bool.or_eq_false_iff, decide_eq_false_iff_not] at h1
        obtain ⟨⟨⟨q1, q2⟩, q3⟩, q4⟩ := h1
        refine ⟨by simpa using q1, ?_, decide_eq_false (by omega), decide_eq_false (by omega)⟩
        cases nm with
        | nil => cases q2
        | cons x y => rfl
      obtain ⟨a1, a2, a3, a4⟩ := hcs
      clear HO HO1 hbad
      have p0 := cells_of_block HOY.out.s 0 (.string ⟨nm.toArray⟩) rfl
      have p1 := cells_of_block HOY.out.s 1 (.string ⟨#[]⟩) rfl
      have p2 := cells_of_block HOY.out.s 2 (.bool false) rfl
      have p5 := cells_of_block HOY.out.s 5 (.int .u64 (n8 : Nat)) rfl
      have p6 := cells_of_block HOY.out.s 6 (.int .u64 (n16 : Nat)) rfl
      have r0 := cells_of_block HOY.out.r 0 (.string ⟨#[]⟩) rfl
      have r1 := cells_of_block HOY.out.r 1 (.string ⟨#[]⟩) rfl
      have r2 := cells_of_block HOY.out.r 2 (.bool false) rfl
      have r3 := cells_of_block HOY.out.r 3 (.int .i64 0) rfl
      have r4 := cells_of_block HOY.out.r 4 (.bool false) rfl
      have r5 := cells_of_block HOY.out.r 5 (.int .u64 (0 : Nat)) rfl
      have r6 := cells_of_block HOY.out.r 6 (.int .u64 (0 : Nat)) rfl
      have f0 := frozen_H HOY.out.r 0
      have f1 := frozen_H HOY.out.r 1
      have f2 := frozen_H HOY.out.r 2
      have f3 := frozen_H HOY.out.r 3
      have f4 := frozen_H HOY.out.r 4
      have f5 := frozen_H HOY.out.r 5
      have f6 := frozen_H HOY.out.r 6
      have hne1 : w.heap.size ≠ p := by have := HL5.out; omega
      have hne2 : p ≠ w.heap.size := by have := HL5.out; omega
      by_cases h6 : n6 = 0
      · have d6 : ((n6 : Int) != 0) = false := by simp [h6]
        have HO2b := HO2.out
        rw [decide_eq_false (show ¬ n6 ≠ 0 from fun c => c h6)] at HO2b
        have HO2 := hide HO2b
        clear HO2b
        rw [d6] at kd HOY
        go_wp2_with fail
        by_cases h8 : n8 = 0
        · have d8 : ((n8 : Int) == 0) = true := by simp [h8]
          have HOK : Hid (okk = decide (bd ≠ 0)) := by rw [Hid, HO3.out, if_neg (by simpa using h6), decide_eq_true h8]; simp
          have HBN : Hid (((bd : Int) != 0) = decide (bd ≠ 0)) := by
            unfold Hid
            by_cases c : bd = 0
            · simp [c]
            · rw [decide_eq_true c]; simp; omega
          clear HO3 h8 h6
          go_region
          all_goals
            have HQ := hide (block_stay (set7 HOY.out.r (.string ⟨nm.toArray⟩) (.string ⟨#[]⟩) (.bool false) (.int .i64 (bd : Nat)) (.bool false) (.int .u64 (n8 : Nat)) (.int .u64 (n16 : Nat))) (Below.refl _ _).drew)
            have HBQ := hide (Below.drew (below7 HOY.out.b (Nat.le_refl _) (.string ⟨nm.toArray⟩) (.string ⟨#[]⟩) (.bool false) (.int .i64 (bd : Nat)) (.bool false) (.int .u64 (n8 : Nat)) (.int .u64 (n16 : Nat))))
            clear r0 r1 r2 r3 r4 r5 r6 f0 f1 f2 f3 f4 f5 f6 p0 p1 p2 p5 p6 kb kd e4
            generalize World.drew _ = wz at *
            go_wp2
            refine bodyPost_ret (results_cell2 rfl _ _ w.heap.size _ _ _ _ rfl HQ.out Try.underlying48 rfl (by kernel_rfl)) rfl ?_
            exact ⟨by rw [HR.out, HO2.out, HOK.out]; rw [← HBN.out]; rfl, HBQ.out⟩
        · have d8 : ((n8 : Int) == 0) = false := by simp [h8]
          have HOK : Hid (okk = false) := by rw [Hid, HO3.out, if_neg (by simpa using h6), decide_eq_false h8]; rfl
          clear HO3 h8 h6
          go_region
          all_goals
            have HQ := hide (block_stay (set7 HOY.out.r (.string ⟨nm.toArray⟩) (.string ⟨#[]⟩) (.bool false) (.int .i64 (bd : Nat)) (.bool false) (.int .u64 (n8 : Nat)) (.int .u64 (n16 : Nat))) (Below.refl _ _).drew)
            have HBQ := hide (Below.drew (below7 HOY.out.b (Nat.le_refl _) (.string ⟨nm.toArray⟩) (.string ⟨#[]⟩) (.bool false) (.int .i64 (bd : Nat)) (.bool false) (.int .u64 (n8 : Nat)) (.int .u64 (n16 : Nat))))
            clear r0 r1 r2 r3 r4 r5 r6 f0 f1 f2 f3 f4 f5 f6 p0 p1 p2 p5 p6 kb kd e4
            generalize World.drew _ = wz at *
            go_wp2
            refine bodyPost_ret (results_cell2 rfl _ _ w.heap.size _ _ _ _ rfl HQ.out Try.underlying48 rfl (by kernel_rfl)) rfl ?_
            exact ⟨by rw [HR.out, HO2.out, HOK.out]; rfl, HBQ.out⟩
      · have d6 : ((n6 : Int) != 0) = true := by simp; omega
        have HO2b := HO2.out
        rw [decide_eq_true (show n6 ≠ 0 from h6)] at HO2b
        have HO2 := hide HO2b
        clear HO2b
        have HOK : Hid (okk = decide (n8 < span)) := by rw [Hid, HO3.out, if_pos h6]
        have HLT : Hid (decide ((n8 : Int) < (span : Int)) = decide (n8 < span)) := by unfold Hid; rw [decide_eq_decide]; omega
        rw [d6] at kd HOY
        clear HO3 h6
        go_wp2_with fail
        · go_region
          all_goals
            have HQ := hide (block_stay (set7 HOY.out.r (.string ⟨nm.toArray⟩) (.string ⟨#[]⟩) (.bool false) (.int .i64 (bd : Nat)) (.bool true) (.int .u64 (n8 : Nat)) (.int .u64 (n16 : Nat))) (Below.refl _ _).drew)
            have HBQ := hide (Below.drew (below7 HOY.out.b (Nat.le_refl _) (.string ⟨nm.toArray⟩) (.string ⟨#[]⟩) (.bool false) (.int .i64 (bd : Nat)) (.bool true) (.int .u64 (n8 : Nat)) (.int .u64 (n16 : Nat))))
            clear r0 r1 r2 r3 r4 r5 r6 f0 f1 f2 f3 f4 f5 f6 p0 p1 p2 p5 p6 kb kd e4
            generalize World.drew _ = wz at *
            go_wp2
            refine bodyPost_ret (results_cell2 rfl _ _ w.heap.size _ _ _ _ rfl HQ.out Try.underlying48 rfl (by kernel_rfl)) rfl ?_
            exact ⟨by rw [HR.out, HO2.out, HOK.out]; rfl, HBQ.out⟩
end Go.Proofs.Ytdclofiifcpkkaa
