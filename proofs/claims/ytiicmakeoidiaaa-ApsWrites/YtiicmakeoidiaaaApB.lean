
/-
  Layer 14 (aps), the program: what a list has told so far, in memory (Td); a group's flags; the next number.
-/
import Derived.Test.YtiicmakeoidiaaaApM
import Derived.Deep.CutRange
import Derived.Deep.Cut
import Derived.BigRegion
import Derived.Laws.ResultCell
import Derived.Laws.Rows
import Derived.Deep.RegionLaw
set_option linter.unusedVariables false
namespace Go.Proofs.Ytiicmakeoidiaaa
open Go.RowKit Go.PlainAid
theorem cells_of_block {w : World} {g : Nat} {cs : Array Value} {T : TypeId} (h : w.heap[g]? = some (.cells cs T (0, 0))) (k : Nat) (u : Value) (hu : cs[k]? = some u) : w.cell? ⟨g, k, none⟩ = some u := by
  rw [cell_of_row w g k cs T (0, 0) h]; exact hu
theorem block_stay {w w' : World} {g : Nat} {o : Obj} (h : w.heap[g]? = some o) (hb : Below w.heap.size w w') : w'.heap[g]? = some o := by
  rw [hb.block g (Array.getElem?_eq_some_iff.1 h).1]; exact h
theorem frozen_bk {w : World} {g : Nat} {cs : Array Value} {T : TypeId} (h : w.heap[g]? = some (.cells cs T (0, 0))) (k : Nat) : w.frozen? ⟨g, k, none⟩ = false := by
  unfold World.frozen?
  rw [h]
  simp
theorem set_bk (w : World) (g j : Nat) (v : Value) (cur : Array Value) (t : TypeId) (r : Nat × Nat) (hg : w.heap[g]? = some (.cells cur t r)) : (w.setCell ⟨g, j, none⟩ v).heap[g]? = some (.cells (cur.setIfInBounds j v) t r) := by
  obtain ⟨hl, hg2⟩ := Array.getElem?_eq_some_iff.1 hg
  simp [World.setCell, hl, Array.getElem_modify, hg2]
theorem set_bother (w : World) (g j k : Nat) (v : Value) (hk : k ≠ g) : (w.setCell ⟨g, j, none⟩ v).heap[k]? = w.heap[k]? := Below.heap_setCell _ _ _ _ hk
theorem heap_alloc_new (w : World) (o : Obj) : (w.alloc o).heap[w.heap.size]? = some o := by
  unfold World.alloc
  simp
theorem bk_lt {w : World} {g : Nat} {o : Obj} (h : w.heap[g]? = some o) : g < w.heap.size := (Array.getElem?_eq_some_iff.1 h).1
theorem OwnR.move {w w' : World} {B : Nat} {v : Value} {l : List Rl} (h : OwnR w B v l) (ho : ∀ k, v.ownBlock = some k → w'.heap[k]? = w.heap[k]?) : OwnR w' B v l := by
  unfold OwnR at h ⊢
  refine ⟨h.1, ?_⟩
  rcases h.2 with hn | ⟨k, cap, cur, rfl, hB, hg, rest⟩
  · exact .inl hn
  · refine .inr ⟨k, cap, cur, rfl, hB, ?_, rest⟩
    rw [ho k rfl]; exact hg
theorem Row.move {w w' : World} {R : Nat} {v : Value} {l : List UInt8} (h : Row w R v l) (hs : w.heap.size ≤ w'.heap.size) (hb : ∀ k, k ≤ R → w'.heap[k]? = w.heap[k]?) : Row w' R v l := by
  obtain ⟨a, cap, rfl, h1, h2, h3⟩ := h
  refine ⟨a, cap, rfl, h1, h2, ?_⟩
  rcases h3 with h3 | ⟨g, o, rfl, h4, h5, h6⟩
  · exact .inl h3
  · refine .inr ⟨g, o, rfl, h4, Nat.lt_of_lt_of_le h5 hs, fun j hj => ?_⟩
    rw [World.cell?_of_block (a := ⟨g, o + j, none⟩) (hb g (Nat.le_of_lt h4))]; exact h6 j hj
theorem Rd.move {w w' : World} {R : Nat} {l : List UInt8} {e : Int} (h : Rd w R l e) (hs : w.heap.size ≤ w'.heap.size) (hb : ∀ k, k ≤ R → w'.heap[k]? = w.heap[k]?) : Rd w' R l e := by
  obtain ⟨h1, ⟨v, h2, h3⟩, h4, h5, h6⟩ := h
  have hR := hb R (Nat.le_refl _)
  refine ⟨Nat.lt_of_lt_of_le h1 hs, ⟨v, ?_, h3.move hs hb⟩, ?_, ?_, ?_⟩
  · rw [World.cell?_of_block (a := ⟨R, 0, none⟩) hR]; exact h2
  · rw [World.cell?_of_block (a := ⟨R, 1, none⟩) hR]; exact h4
  · rw [World.frozen?_of_block (a := ⟨R, 0, none⟩) hR]; exact h5
  · rw [World.frozen?_of_block (a := ⟨R, 1, none⟩) hR]; exact h6
/-- The reader R has these numbers left; bad: it has met an error; fine: all of them could be read. -/
def RdN (w : World) (R : Nat) (N : List Int) (bad fine : Bool) : Prop :=
  ∃ l e, Rd w R l e ∧ N = (numsZ l).1 ∧ ((bad = false ∧ e = 0 ∧ fine = (numsZ l).2) ∨ (bad = true ∧ (e == 0) = false ∧ l = []))
theorem RdN.move {w w' : World} {R : Nat} {N : List Int} {bad fine : Bool} (h : RdN w R N bad fine) (hs : w.heap.size ≤ w'.heap.size) (hb : ∀ k, k ≤ R → w'.heap[k]? = w.heap[k]?) : RdN w' R N bad fine := by
  obtain ⟨l, e, h1, h2, h3⟩ := h
  exact ⟨l, e, h1.move hs hb, h2, h3⟩
theorem RdN.lt {w : World} {R : Nat} {N : List Int} {bad fine : Bool} (h : RdN w R N bad fine) : R < w.heap.size := by
  obtain ⟨l, e, h1, _⟩ := h; exact h1.lt
theorem first_ne {e n : Int} (h : (e == 0) = false) : first e n = e := by
  unfold first; rw [if_neg (by simpa using h)]
theorem not_whole_nil : ¬ whole [] := by unfold whole; decide
theorem ap_S (w : World) (R : Nat) (N : List Int) (bad fine : Bool) (h : RdN w R N bad fine) :
    Calls Try.prog 30 #[.pointer (some ⟨R, 0, none⟩)] w fun x w' => x = .returned (.int .i64 (N.headD 0)) ∧ RdN w' R N.tail (bad || N.isEmpty) fine ∧ w.grownBy w' (some R) := by
  obtain ⟨l, e, h1, rfl, ⟨rfl, rfl, rfl⟩ | ⟨rfl, he, rfl⟩⟩ := h
  · by_cases hk : okS l
    · refine (leb_S_yes R l 0 w h1 hk.1 hk.2).mono ?_
      rintro x w' ⟨rfl, hr, hg⟩
      rw [numsZ_ok hk]
      exact ⟨rfl, ⟨_, _, hr, rfl, .inl ⟨rfl, rfl, rfl⟩⟩, hg⟩
    · have hN : (numsZ l).1 = [] := by
        by_cases hl : l = []
        · subst hl; rfl
        · rw [numsZ_no hl hk]
      rw [hN]
      by_cases hw : whole l
      · have hb : hiN 10 l = 9 ∧ gl l 10 ≠ 0 ∧ gl l 10 ≠ 127 := Classical.byContradiction fun hb => hk ⟨hw, hb⟩
        refine (leb_S_big R l 0 w h1 hw hb).mono ?_
        rintro x w' ⟨rfl, hr, hg⟩
        exact ⟨rfl, ⟨_, _, hr, rfl, .inr ⟨rfl, rfl, rfl⟩⟩, hg⟩
      · refine (leb_S_no R l 0 w h1 hw).mono ?_
        rintro x w' ⟨rfl, hr, hg⟩
        exact ⟨rfl, ⟨_, _, hr, rfl, .inr ⟨rfl, by rw [first_zero]; exact noErr_ne l, rfl⟩⟩, hg⟩
  · refine (leb_S_no R [] e w h1 not_whole_nil).mono ?_
    rintro x w' ⟨rfl, hr, hg⟩
    exact ⟨rfl, ⟨_, _, hr, rfl, .inr ⟨rfl, by rw [first_ne he]; exact he, rfl⟩⟩, hg⟩
/-- What a list has told, in memory: the block T; the reader R lies ahead of it, the relocations behind it. -/
structure Td (w : World) (B T R : Nat) (v : Value) (s : Ts) (rela fine : Bool) : Prop where
  block : w.heap[T]? = some (.cells #[.pointer (some ⟨R, 0, none⟩), .bool rela, v, .int .i64 s.pl, .int .i64 s.add] 70 (0, 0))
  rd : RdN w R s.N s.bad fine
  own : OwnR w (T + 1) v s.out
  lo : B ≤ R
  lt : R < T
theorem Td.move {w w' : World} {B T R : Nat} {v : Value} {s : Ts} {rela fine : Bool} (h : Td w B T R v s rela fine) (hs : w.heap.size ≤ w'.heap.size) (hT : w'.heap[T]? = w.heap[T]?)
    (hR : ∀ k, k ≤ R → w'.heap[k]? = w.heap[k]?) (ho : ∀ k, v.ownBlock = some k → w'.heap[k]? = w.heap[k]?) : Td w' B T R v s rela fine :=
  ⟨by rw [hT]; exact h.block, h.rd.move hs hR, h.own.move ho, h.lo, h.lt⟩
theorem Td.size {w : World} {B T R : Nat} {v : Value} {s : Ts} {rela fine : Bool} (h : Td w B T R v s rela fine) : T < w.heap.size := bk_lt h.block
theorem Td.far {w : World} {B T R : Nat} {v : Value} {s : Ts} {rela fine : Bool} (h : Td w B T R v s rela fine) {k : Nat} (hk : v.ownBlock = some k) : T < k ∧ k < w.heap.size := by
  have := h.own.base k hk; omega
theorem Td.below {w w' : World} {B T R : Nat} {v : Value} {s : Ts} {rela fine : Bool} (h : Td w B T R v s rela fine) (hb : Below w.heap.size w w') : Td w' B T R v s rela fine :=
  h.move hb.size (hb.block _ h.size) (fun k hk => hb.block _ (by have := h.size; have := h.lt; omega)) (fun k hk => hb.block _ (h.far hk).2)
theorem Td.grown {w w' : World} {B T R : Nat} {v : Value} {s : Ts} {rela fine : Bool} (h : Td w B T R v s rela fine) (hb : w.grownBy w' (some R)) (hr : RdN w' R s.tl.N s.tl.bad fine) : Td w' B T R v s.tl rela fine :=
  ⟨by rw [hb.block T h.size (fun e => by have := h.lt; injection e with e; omega)]; exact h.block, hr, h.own.move (fun k hk => hb.block k (h.far hk).2 (fun e => by have := h.lt; have := (h.far hk).1; injection e with e; omega)), h.lo, h.lt⟩
/-- Which blocks are turned: the reader's, that of what is told, and the row's; the new row lies in the old block or in a new one. -/
structure Fp (w w' : World) (R T : Nat) (v v' : Value) : Prop where
  os : w'.os = w.os
  tape : w'.tape = w.tape
  output : w'.output = w.output
  size : w.heap.size ≤ w'.heap.size
  block : ∀ k, k < w.heap.size → k ≠ R → k ≠ T → v.ownBlock ≠ some k → w'.heap[k]? = w.heap[k]?
  next : ∀ k, v'.ownBlock = some k → v.ownBlock = some k ∨ w.heap.size ≤ k
theorem Fp.refl (w : World) (R T : Nat) (v : Value) : Fp w w R T v v := ⟨rfl, rfl, rfl, Nat.le_refl _, fun _ _ _ _ _ => rfl, fun _ hk => .inl hk⟩
theorem Fp.trans {a b c : World} {R T : Nat} {v v' v'' : Value} (h : Fp a b R T v v') (k : Fp b c R T v' v'') : Fp a c R T v v'' :=
  ⟨k.os.trans h.os, k.tape.trans h.tape, k.output.trans h.output, Nat.le_trans h.size k.size, fun i hi h1 h2 h3 => (k.block i (Nat.lt_of_lt_of_le hi h.size) h1 h2 (fun e => by
      rcases h.next i e with e2 | e2
      · exact h3 e2
      · omega)).trans (h.block i hi h1 h2 h3), fun i hi => by
      rcases k.next i hi with e | e
      · exact h.next i e
      · right; exact Nat.le_trans h.size e⟩
theorem Fp.of_below {w w' : World} (h : Below w.heap.size w w') (R T : Nat) (v : Value) : Fp w w' R T v v := ⟨h.os, h.tape, h.output, h.size, fun k hk _ _ _ => h.block k hk, fun _ hk => .inl hk⟩
theorem Fp.of_grown {w w' : World} {R : Nat} (h : w.grownBy w' (some R)) (T : Nat) (v : Value) : Fp w w' R T v v :=
  ⟨h.os, h.tape, h.output, h.size, fun k hk h1 _ _ => h.block k hk (fun e => h1 (by injection e)), fun _ hk => .inl hk⟩
theorem Fp.set (w : World) (R T : Nat) (v : Value) (j : Nat) (x : Value) : Fp w (w.setCell ⟨T, j, none⟩ x) R T v v :=
  ⟨rfl, rfl, rfl, by simp, fun k hk _ h2 _ => set_bother _ _ _ _ _ h2, fun _ hk => .inl hk⟩
theorem Fp.low {w w' : World} {B T R : Nat} {v v' : Value} {s : Ts} {rela fine : Bool} (h : Td w B T R v s rela fine) (f : Fp w w' R T v v') : Below B w w' :=
  ⟨f.os, f.tape, f.output, f.size, fun k hk => f.block k (by have := h.lo; have := h.lt; have := h.size; omega) (by have := h.lo; omega) (by have := h.lo; have := h.lt; omega) (fun e => by have := (h.far e).1; have := h.lo; have := h.lt; omega)⟩
theorem td_S (w : World) (B T R : Nat) (v : Value) (s : Ts) (rela fine : Bool) (h : Td w B T R v s rela fine) :
    Calls Try.prog 30 #[.pointer (some ⟨R, 0, none⟩)] w fun x w' => x = .returned (.int .i64 s.hd) ∧ Td w' B T R v s.tl rela fine ∧ Fp w w' R T v v := by
  refine (ap_S w R s.N s.bad fine h.rd).mono ?_
  rintro x w' ⟨rfl, hr, hg⟩
  exact ⟨rfl, h.grown hg hr, Fp.of_grown hg _ _⟩
/-- Beside it the group G, which the round has in a variable of its own. -/
structure Tq (w0 wx : World) (B T R : Nat) (v0 v : Value) (s : Ts) (rela fine : Bool) (G : Nat) (m f st inf : Int) : Prop where
  td : Td wx B T R v s rela fine
  g : wx.heap[G]? = some (.cells #[.int .i64 m, .int .i64 f, .int .i64 st, .int .i64 inf] 86 (0, 0))
  fp : Fp w0 wx R T v0 v
  gt : w0.heap.size ≤ G
  lt : T < w0.heap.size
  far : v.ownBlock ≠ some G
theorem Tq.start {w : World} {B T R : Nat} {v : Value} {s : Ts} {rela fine : Bool} (h : Td w B T R v s rela fine) (m f st inf : Int) :
    Tq w (w.alloc (.cells #[.int .i64 m, .int .i64 f, .int .i64 st, .int .i64 inf] 86)) B T R v v s rela fine w.heap.size m f st inf :=
  ⟨h.below ((Below.refl _ _).alloc (Nat.le_refl _) _), heap_alloc_new _ _, Fp.of_below ((Below.refl _ _).alloc (Nat.le_refl _) _) _ _ _, Nat.le_refl _, h.size, fun e => by have := (h.far e).2; omega⟩
theorem Tq.below {w0 wx wy : World} {B T R : Nat} {v0 v : Value} {s : Ts} {rela fine : Bool} {G : Nat} {m f st inf : Int} (h : Tq w0 wx B T R v0 v s rela fine G m f st inf) (hb : Below wx.heap.size wx wy) : Tq w0 wy B T R v0 v s rela fine G m f st inf :=
  ⟨h.td.below hb, block_stay h.g hb, h.fp.trans (Fp.of_below hb _ _ _), h.gt, h.lt, h.far⟩
/-- A step of what is told, under which the group stays. -/
theorem Tq.step {w0 wx wy : World} {B T R : Nat} {v0 v v' : Value} {s s' : Ts} {rela fine : Bool} {G : Nat} {m f st inf : Int} (h : Tq w0 wx B T R v0 v s rela fine G m f st inf) (ht : Td wy B T R v' s' rela fine) (hf : Fp wx wy R T v v') : Tq w0 wy B T R v0 v' s' rela fine G m f st inf := by
  have hG := bk_lt h.g
  refine ⟨ht, ?_, h.fp.trans hf, h.gt, h.lt, fun e => ?_⟩
  · rw [hf.block G hG (by have := h.gt; have := h.lt; have := h.td.lt; omega) (by have := h.gt; have := h.lt; omega) h.far]; exact h.g
  · rcases hf.next G e with e2 | e2
    · exact h.far e2
    · omega
theorem Tq.setG {w0 wx : World} {B T R : Nat} {v0 v : Value} {s : Ts} {rela fine : Bool} {G : Nat} {m f st inf : Int} (h : Tq w0 wx B T R v0 v s rela fine G m f st inf) (j : Nat) (x : Value) {m' f' st' inf' : Int}
    (hx : #[Value.int .i64 m, .int .i64 f, .int .i64 st, .int .i64 inf].setIfInBounds j x = #[Value.int .i64 m', .int .i64 f', .int .i64 st', .int .i64 inf']) : Tq w0 (wx.setCell ⟨G, j, none⟩ x) B T R v0 v s rela fine G m' f' st' inf' := by
  have h1 := h.gt
  have h2 := h.lt
  have h3 := h.td.lt
  have ho : ∀ k, k ≠ G → (wx.setCell ⟨G, j, none⟩ x).heap[k]? = wx.heap[k]? := fun k hk => set_bother _ _ _ _ _ hk
  refine ⟨h.td.move (by simp) (ho T (by omega)) (fun k hk => ho k (by omega)) (fun k hk => ho k (fun e => h.far (by rw [← e]; exact hk))), ?_, ?_, h.gt, h.lt, h.far⟩
  · rw [set_bk _ _ _ _ _ _ _ h.g, hx]
  · exact ⟨h.fp.os, h.fp.tape, h.fp.output, by simpa using h.fp.size, fun k hk a b c => by rw [ho k (by omega)]; exact h.fp.block k hk a b c, h.fp.next⟩
theorem Td.setT {w : World} {B T R : Nat} {v : Value} {s s' : Ts} {rela fine : Bool} (h : Td w B T R v s rela fine) (j : Nat) (x : Value)
    (hx : #[Value.pointer (some ⟨R, 0, none⟩), .bool rela, v, .int .i64 s.pl, .int .i64 s.add].setIfInBounds j x = #[Value.pointer (some ⟨R, 0, none⟩), .bool rela, v, .int .i64 s'.pl, .int .i64 s'.add]) (h1 : s'.N = s.N) (h2 : s'.bad = s.bad) (h3 : s'.out = s.out) :
    Td (w.setCell ⟨T, j, none⟩ x) B T R v s' rela fine := by
  have hlt := h.lt
  have ho : ∀ k, k ≠ T → (w.setCell ⟨T, j, none⟩ x).heap[k]? = w.heap[k]? := fun k hk => set_bother _ _ _ _ _ hk
  refine ⟨?_, ?_, ?_, h.lo, h.lt⟩
  · rw [set_bk _ _ _ _ _ _ _ h.block, hx]
  · rw [h1, h2]; exact h.rd.move (by simp) (fun k hk => ho k (by omega))
  · rw [h3]; exact h.own.move (fun k hk => ho k (by have := (h.far hk).1; omega))
structure TqC (wx : World) (T R G : Nat) (v : Value) (rela : Bool) (pl ad m f st inf : Int) : Prop where
  t0 : wx.cell? ⟨T, 0, none⟩ = some (.pointer (some ⟨R, 0, none⟩))
  t1 : wx.cell? ⟨T, 1, none⟩ = some (.bool rela)
  t2 : wx.cell? ⟨T, 2, none⟩ = some v
  t3 : wx.cell? ⟨T, 3, none⟩ = some (.int .i64 pl)
  t4 : wx.cell? ⟨T, 4, none⟩ = some (.int .i64 ad)
  g0 : wx.cell? ⟨G, 0, none⟩ = some (.int .i64 m)
  g1 : wx.cell? ⟨G, 1, none⟩ = some (.int .i64 f)
  g2 : wx.cell? ⟨G, 2, none⟩ = some (.int .i64 st)
  g3 : wx.cell? ⟨G, 3, none⟩ = some (.int .i64 inf)
  f2 : wx.frozen? ⟨T, 2, none⟩ = false
  f3 : wx.frozen? ⟨T, 3, none⟩ = false
  f4 : wx.frozen? ⟨T, 4, none⟩ = false
  k2 : wx.frozen? ⟨G, 2, none⟩ = false
  k3 : wx.frozen? ⟨G, 3, none⟩ = false
theorem Tq.cells {w0 wx : World} {B T R : Nat} {v0 v : Value} {s : Ts} {rela fine : Bool} {G : Nat} {m f st inf : Int} (h : Tq w0 wx B T R v0 v s rela fine G m f st inf) : TqC wx T R G v rela s.pl s.add m f st inf :=
  have b := h.td.block
  have g := h.g
  ⟨cells_of_block b 0 _ rfl, cells_of_block b 1 _ rfl, cells_of_block b 2 _ rfl, cells_of_block b 3 _ rfl, cells_of_block b 4 _ rfl, cells_of_block g 0 _ rfl, cells_of_block g 1 _ rfl, cells_of_block g 2 _ rfl, cells_of_block g 3 _ rfl,
    frozen_bk b 2, frozen_bk b 3, frozen_bk b 4, frozen_bk g 2, frozen_bk g 3⟩
theorem and_flag (f b : Int) (h0 : 0 ≤ f) (h1 : f ≤ 15) (hb : b = 1 ∨ b = 2 ∨ b = 4 ∨ b = 8) : (bits .and .i64 f b != 0) = fb f b := by
  have h : ∀ k : Fin 16, (bits .and .i64 (k.val : Int) 1 != 0) = fb k.val 1 ∧ (bits .and .i64 (k.val : Int) 2 != 0) = fb k.val 2 ∧ (bits .and .i64 (k.val : Int) 4 != 0) = fb k.val 4 ∧ (bits .and .i64 (k.val : Int) 8 != 0) = fb k.val 8 := by decide +kernel
  obtain ⟨k, rfl⟩ := Int.eq_ofNat_of_zero_le h0
  have := h ⟨k, by omega⟩
  rcases hb with rfl | rfl | rfl | rfl
  · exact this.1
  · exact this.2.1
  · exact this.2.2.1
  · exact this.2.2.2
set_option maxHeartbeats 1000000 in
theorem ap_has (w : World) (m f st inf b : Int) (h0 : 0 ≤ f) (h1 : f ≤ 15) (hb : b = 1 ∨ b = 2 ∨ b = 4 ∨ b = 8) :
    Calls Try.prog 38 #[.agg #[.int .i64 m, .int .i64 f, .int .i64 st, .int .i64 inf], .int .i64 b] w fun e w' => e = .returned (.bool (fb f b)) ∧ Below w.heap.size w w' := by
  have hE := and_flag f b h0 h1 hb
  have HB := hide ((Below.refl w.heap.size w).alloc (Nat.le_refl _) (.cells #[.int .i64 m, .int .i64 f, .int .i64 st, .int .i64 inf] 86))
  clear hb
  go_enter Try.func38, Try.ntmps38
  go_wp2
  go_ret
  exact ⟨rfl, HB.out⟩
end Go.Proofs.Ytiicmakeoidiaaa
