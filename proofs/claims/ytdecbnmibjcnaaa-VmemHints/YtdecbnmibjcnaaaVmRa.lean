
/-
  VmemHints: two plays and the row of counts, no block in common.
-/
import Derived.Test.YtdecbnmibjcnaaaVmQg
set_option linter.unusedVariables false
namespace Go.Proofs.Ytdecbnmibjcnaaa
open Go.RowKit Go.PlainAid
structure Trio (w W : World) (S T : Nat) (va vb : Value) (sp sp' : Sp) (vx vy vp : Value) (xs ys ns : List Nat) : Prop where
  duo : Duo w W S T va vb sp sp' vx vy xs ys
  own : OwnN W w.heap.size vp ns
  pa : ∀ g, vp.ownBlock = some g → g ∉ foot S va sp.rooms
  pb : ∀ g, vp.ownBlock = some g → g ∉ foot T vb sp'.rooms
  px : ∀ g, vp.ownBlock = some g → vx.ownBlock ≠ some g
  py : ∀ g, vp.ownBlock = some g → vy.ownBlock ≠ some g
/-- A block that one of them has. -/
def Has3 (S T : Nat) (va vb : Value) (sp sp' : Sp) (vx vy vp : Value) (k : Nat) : Prop := k ∈ foot S va sp.rooms ∨ k ∈ foot T vb sp'.rooms ∨ vx.ownBlock = some k ∨ vy.ownBlock = some k ∨ vp.ownBlock = some k
theorem Trio.lt {w W : World} {S T : Nat} {va vb : Value} {sp sp' : Sp} {vx vy vp : Value} {xs ys ns : List Nat} (h : Trio w W S T va vb sp sp' vx vy vp xs ys ns) {k : Nat} (hk : Has3 S T va vb sp sp' vx vy vp k) : w.heap.size ≤ k ∧ k < W.heap.size := by
  rcases hk with e | e | e | e | e
  · exact ⟨h.duo.pa.spn.new k e, h.duo.pa.spn.at_.foot_lt k e⟩
  · exact ⟨h.duo.pb.spn.new k e, h.duo.pb.spn.at_.foot_lt k e⟩
  · exact World.ownsRow.lt h.duo.pa.own k e
  · exact World.ownsRow.lt h.duo.pb.own k e
  · exact World.ownsRow.lt h.own k e
theorem Trio.fresh {w W : World} {S T : Nat} {va vb : Value} {sp sp' : Sp} {vx vy vp : Value} {xs ys ns : List Nat} (h : Trio w W S T va vb sp sp' vx vy vp xs ys ns) {k : Nat} (hk : W.heap.size ≤ k) : ¬ Has3 S T va vb sp sp' vx vy vp k := fun e => by have := (h.lt e).2; omega
theorem Trio.below {w W : World} {S T : Nat} {va vb : Value} {sp sp' : Sp} {vx vy vp : Value} {xs ys ns : List Nat} (h : Trio w W S T va vb sp sp' vx vy vp xs ys ns) : Below w.heap.size w W := h.duo.pa.spn.below
theorem Trio.stay {w W W' : World} {S T : Nat} {va vb : Value} {sp sp' : Sp} {vx vy vp : Value} {xs ys ns : List Nat} (h : Trio w W S T va vb sp sp' vx vy vp xs ys ns) (hb : Below W.heap.size W W') : Trio w W' S T va vb sp sp' vx vy vp xs ys ns :=
  ⟨h.duo.stay hb, h.own.stay hb, h.pa, h.pb, h.px, h.py⟩
theorem Trio.turn {w W W' : World} {S T : Nat} {va vb : Value} {sp sp' : Sp} {vx vy vp : Value} {xs ys ns : List Nat} {F : Nat → Prop} (h : Trio w W S T va vb sp sp' vx vy vp xs ys ns) (ht : Turn F W W') (hw : ∀ k, F k → w.heap.size ≤ k) (hF : ∀ k, Has3 S T va vb sp sp' vx vy vp k → ¬ F k) : Trio w W' S T va vb sp sp' vx vy vp xs ys ns :=
  ⟨h.duo.turn ht hw (fun k hk => hF k (.inl hk)) (fun k hk => hF k (.inr (.inl hk))) (fun k hk => hF k (.inr (.inr (.inl hk)))) (fun k hk => hF k (.inr (.inr (.inr (.inl hk))))), h.own.turn ht (fun k hk => hF k (.inr (.inr (.inr (.inr hk))))), h.pa, h.pb, h.px, h.py⟩
theorem Trio.swap {w W : World} {S T : Nat} {va vb : Value} {sp sp' : Sp} {vx vy vp : Value} {xs ys ns : List Nat} (h : Trio w W S T va vb sp sp' vx vy vp xs ys ns) : Trio w W T S vb va sp' sp vy vx vp ys xs ns :=
  ⟨h.duo.swap, h.own, h.pb, h.pa, h.py, h.px⟩
theorem Has3.swap {S T : Nat} {va vb : Value} {sp sp' : Sp} {vx vy vp : Value} {k : Nat} (h : Has3 S T va vb sp sp' vx vy vp k) : Has3 T S vb va sp' sp vy vx vp k := by
  rcases h with e | e | e | e | e
  · exact .inr (.inl e)
  · exact .inl e
  · exact .inr (.inr (.inr (.inl e)))
  · exact .inr (.inr (.inl e))
  · exact .inr (.inr (.inr (.inr e)))
theorem Trio.done {w W W' : World} {S T : Nat} {va va' vb : Value} {sp sp1 sp' : Sp} {vx vy vp : Value} {xs ys ns : List Nat} (h : Trio w W S T va vb sp sp' vx vy vp xs ys ns) (hp : PlayAt w W' S va' sp1 vx xs) (ht : Turn (· ∈ foot S va sp.rooms) W W') (hf : ∀ k ∈ foot S va' sp1.rooms, k ∈ foot S va sp.rooms ∨ W.heap.size ≤ k) :
    Trio w W' S T va' vb sp1 sp' vx vy vp xs ys ns ∧ ∀ B, B < W.heap.size → ¬ Has3 S T va vb sp sp' vx vy vp B → ¬ Has3 S T va' vb sp1 sp' vx vy vp B := by
  refine ⟨⟨h.duo.done hp ht hf, h.own.turn ht h.pa, fun g hg hm => ?_, h.pb, h.px, h.py⟩, fun B hB hn hm => ?_⟩
  · rcases hf g hm with e | e
    · exact h.pa g hg e
    · have := (World.ownsRow.lt h.own g hg).2; omega
  · rcases hm with e | e
    · rcases hf B e with e | e
      · exact hn (.inl e)
      · omega
    · exact hn (.inr e)
theorem Trio.appX {w W W' : World} {S T : Nat} {va vb : Value} {sp sp' : Sp} {vx vx' vy vp : Value} {xs xs' ys ns : List Nat} (h : Trio w W S T va vb sp sp' vx vy vp xs ys ns) (h1 : OwnU W' w.heap.size vx' xs') (h2 : ∀ g, vx'.ownBlock = some g → Same W vx.ownBlock g) (h3 : W.grownBy W' vx.ownBlock) :
    Trio w W' S T va vb sp sp' vx' vy vp xs' ys ns ∧ ∀ B, B < W.heap.size → ¬ Has3 S T va vb sp sp' vx vy vp B → ¬ Has3 S T va vb sp sp' vx' vy vp B := by
  have ht : Turn (fun k => vx.ownBlock = some k) W W' := ⟨h3.os, h3.tape, h3.output, h3.size, fun k hk hne => h3.block k hk (fun e => hne e.symm)⟩
  refine ⟨⟨h.duo.append h1 h2 h3, h.own.turn ht h.px, h.pa, h.pb, fun g hg e => ?_, h.py⟩, fun B hB hn hm => ?_⟩
  · rcases h2 g e with e2 | e2
    · exact h.px g hg e2
    · have := (World.ownsRow.lt h.own g hg).2; omega
  · rcases hm with e | e | e | e
    · exact hn (.inl e)
    · exact hn (.inr (.inl e))
    · rcases h2 B e with e2 | e2
      · exact hn (.inr (.inr (.inl e2)))
      · omega
    · exact hn (.inr (.inr (.inr e)))
theorem Trio.appY {w W W' : World} {S T : Nat} {va vb : Value} {sp sp' : Sp} {vx vy vy' vp : Value} {xs ys ys' ns : List Nat} (h : Trio w W S T va vb sp sp' vx vy vp xs ys ns) (h1 : OwnU W' w.heap.size vy' ys') (h2 : ∀ g, vy'.ownBlock = some g → Same W vy.ownBlock g) (h3 : W.grownBy W' vy.ownBlock) :
    Trio w W' S T va vb sp sp' vx vy' vp xs ys' ns ∧ ∀ B, B < W.heap.size → ¬ Has3 S T va vb sp sp' vx vy vp B → ¬ Has3 S T va vb sp sp' vx vy' vp B := by
  obtain ⟨a, b⟩ := h.swap.appX h1 h2 h3
  exact ⟨a.swap, fun B hB hn hm => b B hB (fun e => hn e.swap) hm.swap⟩
theorem Trio.appP {w W W' : World} {S T : Nat} {va vb : Value} {sp sp' : Sp} {vx vy vp vp' : Value} {xs ys ns ns' : List Nat} (h : Trio w W S T va vb sp sp' vx vy vp xs ys ns) (h1 : OwnN W' w.heap.size vp' ns') (h2 : ∀ g, vp'.ownBlock = some g → Same W vp.ownBlock g) (h3 : W.grownBy W' vp.ownBlock) :
    Trio w W' S T va vb sp sp' vx vy vp' xs ys ns' := by
  have ht : Turn (fun k => vp.ownBlock = some k) W W' := ⟨h3.os, h3.tape, h3.output, h3.size, fun k hk hne => h3.block k hk (fun e => hne e.symm)⟩
  refine ⟨h.duo.turn ht (fun k hk => (World.ownsRow.lt h.own k hk).1) (fun k hk e => h.pa k e hk) (fun k hk e => h.pb k e hk) (fun k hk e => h.px k e hk) (fun k hk e => h.py k e hk), h1, fun g hg hm => ?_, fun g hg hm => ?_, fun g hg e => ?_, fun g hg e => ?_⟩
  · rcases h2 g hg with e | e
    · exact h.pa g e hm
    · have := h.duo.pa.spn.at_.foot_lt g hm; omega
  · rcases h2 g hg with e | e
    · exact h.pb g e hm
    · have := h.duo.pb.spn.at_.foot_lt g hm; omega
  · rcases h2 g hg with e2 | e2
    · exact h.px g e2 e
    · have := (World.ownsRow.lt h.duo.pa.own g e).2; omega
  · rcases h2 g hg with e2 | e2
    · exact h.py g e2 e
    · have := (World.ownsRow.lt h.duo.pb.own g e).2; omega
/-- At the head of a round. -/
def HintJ (w wr : World) (S T : Nat) (vx vy vp : Value) (i : Nat) : Prop := ∃ va vb sp sp' xs ys ps, Trio w wr S T va vb sp sp' vx vy vp xs ys (ps.map List.length) ∧ Two sp sp' xs ys ps ∧ ps.length ≤ i
/-- With the call in its box. -/
structure St1 (w W : World) (S T : Nat) (va vb : Value) (sp sp' : Sp) (vx vy vp : Value) (xs ys ns : List Nat) (B : Nat) (x : OpN) (vd : Value) : Prop where
  trio : Trio w W S T va vb sp sp' vx vy vp xs ys ns
  box : S7 B 0 x vd W
  free : ¬ Has3 S T va vb sp sp' vx vy vp B
theorem St1.stay {w W W' : World} {S T : Nat} {va vb : Value} {sp sp' : Sp} {vx vy vp : Value} {xs ys ns : List Nat} {B : Nat} {x : OpN} {vd : Value} (h : St1 w W S T va vb sp sp' vx vy vp xs ys ns B x vd) (hb : Below W.heap.size W W') : St1 w W' S T va vb sp sp' vx vy vp xs ys ns B x vd :=
  ⟨h.trio.stay hb, h.box.below h.box.lt hb, h.free⟩
theorem St1.drew {w W : World} {S T : Nat} {va vb : Value} {sp sp' : Sp} {vx vy vp : Value} {xs ys ns : List Nat} {B : Nat} {x : OpN} {vd : Value} (h : St1 w W S T va vb sp sp' vx vy vp xs ys ns B x vd) (n : Nat) : St1 w (W.drewN n) S T va vb sp sp' vx vy vp xs ys ns B x vd := h.stay ⟨rfl, rfl, rfl, Nat.le_refl _, fun _ _ => rfl⟩
/-- The cells of an answer's box. -/
structure An (W : World) (B : Nat) (O : Out) : Prop where
  q0 : W.cell? ⟨B, 0, none⟩ = some (.int .i64 O.e)
  q1 : W.cell? ⟨B, 1, none⟩ = some (.string (txt O.b))
  q2 : W.cell? ⟨B, 2, none⟩ = some (.int .u64 O.at_)
  q3 : W.cell? ⟨B, 3, none⟩ = some (.bool O.room)
theorem An.heap {W W' : World} {B : Nat} {O : Out} (h : An W B O) (hb : W'.heap[B]? = W.heap[B]?) : An W' B O := by
  have e : ∀ j, W'.cell? ⟨B, j, none⟩ = W.cell? ⟨B, j, none⟩ := fun j => World.cell?_of_block (a := ⟨B, j, none⟩) hb
  exact ⟨by rw [e]; exact h.q0, by rw [e]; exact h.q1, by rw [e]; exact h.q2, by rw [e]; exact h.q3⟩
theorem An.lt {W : World} {B : Nat} {O : Out} (h : An W B O) : B < W.heap.size := World.block_lt_of_cell? _ _ h.q0
theorem An.turn {W W' : World} {B : Nat} {O : Out} {F : Nat → Prop} (h : An W B O) (ht : Turn F W W') (hF : ¬ F B) : An W' B O := h.heap (ht.block B h.lt hF)
theorem An.new (W : World) (O : Out) : An (W.alloc (.cells #[.int .i64 O.e, .string (txt O.b), .int .u64 O.at_, .bool O.room] 49)) W.heap.size O := by constructor <;> simp
theorem S7.turn {y p : Nat} {x : OpN} {vd : Value} {w w' : World} {F : Nat → Prop} (h : S7 y p x vd w) (ht : Turn F w w') (hF : ¬ F y) : S7 y p x vd w' := h.heap (ht.block y h.lt hF)
/-- Behind the first call: its answer in a box besides. -/
structure St2 (w W : World) (S T : Nat) (va vb : Value) (sp sp' : Sp) (vx vy vp : Value) (xs ys ns : List Nat) (B : Nat) (x : OpN) (vd : Value) (C : Nat) (O : Out) : Prop where
  st : St1 w W S T va vb sp sp' vx vy vp xs ys ns B x vd
  an : An W C O
  free : ¬ Has3 S T va vb sp sp' vx vy vp C
/-- Behind both calls. -/
structure St3 (w W : World) (S T : Nat) (va vb : Value) (sp sp' : Sp) (vx vy vp : Value) (xs ys ns : List Nat) (B : Nat) (x : OpN) (vd : Value) (C : Nat) (O : Out) (D : Nat) (O' : Out) : Prop where
  st : St2 w W S T va vb sp sp' vx vy vp xs ys ns B x vd C O
  an : An W D O'
  free : ¬ Has3 S T va vb sp sp' vx vy vp D
/-- The first call. -/
theorem St1.doneA {w W W' : World} {S T : Nat} {va va' vb : Value} {sp sp1 sp' : Sp} {vx vy vp : Value} {xs ys ns : List Nat} {B : Nat} {x : OpN} {vd : Value} (h : St1 w W S T va vb sp sp' vx vy vp xs ys ns B x vd) (hp : PlayAt w W' S va' sp1 vx xs) (ht : Turn (· ∈ foot S va sp.rooms) W W') (hf : ∀ k ∈ foot S va' sp1.rooms, k ∈ foot S va sp.rooms ∨ W.heap.size ≤ k) : St1 w W' S T va' vb sp1 sp' vx vy vp xs ys ns B x vd := by
  obtain ⟨a, b⟩ := h.trio.done hp ht hf
  exact ⟨a, h.box.turn ht (fun e => h.free (.inl e)), b B h.box.lt h.free⟩
theorem St2.doneB {w W W' : World} {S T : Nat} {va vb vb' : Value} {sp sp1 sp' : Sp} {vx vy vp : Value} {xs ys ns : List Nat} {B : Nat} {x : OpN} {vd : Value} {C : Nat} {O : Out} (h : St2 w W S T va vb sp sp' vx vy vp xs ys ns B x vd C O) (hp : PlayAt w W' T vb' sp1 vy ys) (ht : Turn (· ∈ foot T vb sp'.rooms) W W') (hf : ∀ k ∈ foot T vb' sp1.rooms, k ∈ foot T vb sp'.rooms ∨ W.heap.size ≤ k) : St2 w W' S T va vb' sp sp1 vx vy vp xs ys ns B x vd C O := by
  obtain ⟨a, b⟩ := h.st.trio.swap.done hp ht hf
  exact ⟨⟨a.swap, h.st.box.turn ht (fun e => h.st.free (.inr (.inl e))), fun e => b B h.st.box.lt (fun e2 => h.st.free e2.swap) e.swap⟩, h.an.turn ht (fun e => h.free (.inr (.inl e))), fun e => b C h.an.lt (fun e2 => h.free e2.swap) e.swap⟩
theorem St2.stay {w W W' : World} {S T : Nat} {va vb : Value} {sp sp' : Sp} {vx vy vp : Value} {xs ys ns : List Nat} {B : Nat} {x : OpN} {vd : Value} {C : Nat} {O : Out} (h : St2 w W S T va vb sp sp' vx vy vp xs ys ns B x vd C O) (hb : Below W.heap.size W W') : St2 w W' S T va vb sp sp' vx vy vp xs ys ns B x vd C O :=
  ⟨h.st.stay hb, h.an.turn (F := fun _ => False) (Turn.of_below hb) id, h.free⟩
theorem St2.ans {w W : World} {S T : Nat} {va vb : Value} {sp sp' : Sp} {vx vy vp : Value} {xs ys ns : List Nat} {B : Nat} {x : OpN} {vd : Value} {C : Nat} {O : Out} (h : St2 w W S T va vb sp sp' vx vy vp xs ys ns B x vd C O) (O' : Out) : St3 w (W.alloc (.cells #[.int .i64 O'.e, .string (txt O'.b), .int .u64 O'.at_, .bool O'.room] 49)) S T va vb sp sp' vx vy vp xs ys ns B x vd C O W.heap.size O' :=
  ⟨h.stay ((Below.refl _ W).alloc (Nat.le_refl _) _), An.new W O', h.st.trio.fresh (Nat.le_refl _)⟩
theorem St1.ans {w W : World} {S T : Nat} {va vb : Value} {sp sp' : Sp} {vx vy vp : Value} {xs ys ns : List Nat} {B : Nat} {x : OpN} {vd : Value} (h : St1 w W S T va vb sp sp' vx vy vp xs ys ns B x vd) (O : Out) : St2 w (W.alloc (.cells #[.int .i64 O.e, .string (txt O.b), .int .u64 O.at_, .bool O.room] 49)) S T va vb sp sp' vx vy vp xs ys ns B x vd W.heap.size O :=
  ⟨h.stay ((Below.refl _ W).alloc (Nat.le_refl _) _), An.new W O, h.trio.fresh (Nat.le_refl _)⟩
theorem St1.turn {w W W' : World} {S T : Nat} {va vb : Value} {sp sp' : Sp} {vx vy vp : Value} {xs ys ns : List Nat} {B : Nat} {x : OpN} {vd : Value} {C : Nat} (h : St1 w W S T va vb sp sp' vx vy vp xs ys ns B x vd) (ht : Turn (· = C) W W') (hw : w.heap.size ≤ C) (hC : ¬ Has3 S T va vb sp sp' vx vy vp C) (hB : B ≠ C) : St1 w W' S T va vb sp sp' vx vy vp xs ys ns B x vd :=
  ⟨h.trio.turn ht (fun k hk => by rw [hk]; exact hw) (fun k hk e => hC (by rw [← e]; exact hk)), h.box.turn ht hB, h.free⟩
theorem St1.start {w W : World} {S T : Nat} {va vb : Value} {sp sp' : Sp} {vx vy vp : Value} {xs ys ns : List Nat} (h : Trio w W S T va vb sp sp' vx vy vp xs ys ns) (x : OpN) (vd : Value) : St1 w (W.alloc (.cells (x.cells vd) 46)) S T va vb sp sp' vx vy vp xs ys ns W.heap.size x vd := by
  refine ⟨h.stay ((Below.refl _ W).alloc (Nat.le_refl _) _), ?_, h.fresh (Nat.le_refl _)⟩
  unfold OpN.cells
  refine ⟨?_, ?_, ?_, ?_, ?_, ?_, ?_⟩ <;> simp
/-- The cells that the first call's region reads. -/
abbrev S8 (B : Nat) (z : OpN) (vd : Value) (y p : Nat) (hn : Nat) (W : World) : Prop := W.cell? ⟨B, 0, none⟩ = some (.int .i64 z.kind) ∧ W.cell? ⟨B, 1, none⟩ = some (.int .i64 z.room) ∧ W.cell? ⟨B, 2, none⟩ = some (.int .u64 z.off) ∧ W.cell? ⟨B, 3, none⟩ = some (.int .u64 z.size) ∧ W.cell? ⟨B, 4, none⟩ = some (.int .i64 z.prot) ∧ W.cell? ⟨B, 5, none⟩ = some (.int .u64 z.hint) ∧ W.cell? ⟨B, 6, none⟩ = some vd ∧ W.cell? ⟨y, p, none⟩ = some (.int .u64 hn)
theorem S8.mk {B : Nat} {z : OpN} {vd : Value} {y p hn : Nat} {W : World} (h : S7 B 0 z vd W) (k : W.cell? ⟨y, p, none⟩ = some (.int .u64 hn)) : S8 B z vd y p hn W := ⟨h.1, h.2.1, h.2.2.1, h.2.2.2.1, h.2.2.2.2.1, h.2.2.2.2.2.1, h.2.2.2.2.2.2, k⟩
theorem S8.heap {B : Nat} {z : OpN} {vd : Value} {y p hn : Nat} {W W' : World} (h : S8 B z vd y p hn W) (h1 : W'.heap[B]? = W.heap[B]?) (h2 : W'.heap[y]? = W.heap[y]?) : S8 B z vd y p hn W' := by
  have e : ∀ j, W'.cell? ⟨B, j, none⟩ = W.cell? ⟨B, j, none⟩ := fun j => World.cell?_of_block (a := ⟨B, j, none⟩) h1
  have e2 : ∀ j, W'.cell? ⟨y, j, none⟩ = W.cell? ⟨y, j, none⟩ := fun j => World.cell?_of_block (a := ⟨y, j, none⟩) h2
  obtain ⟨h0, h1, h2, h3, h4, h5, h6, h7⟩ := h
  exact ⟨by rw [e]; exact h0, by rw [e]; exact h1, by rw [e]; exact h2, by rw [e]; exact h3, by rw [e]; exact h4, by rw [e]; exact h5, by rw [e]; exact h6, by rw [e2]; exact h7⟩
theorem S8.alloc {B : Nat} {z : OpN} {vd : Value} {y p hn : Nat} {W : World} (h : S8 B z vd y p hn W) (o : Obj) : S8 B z vd y p hn (W.alloc o) := h.heap (Below.heap_alloc _ _ _ (World.block_lt_of_cell? _ _ h.1)) (Below.heap_alloc _ _ _ (World.block_lt_of_cell? _ _ h.2.2.2.2.2.2.2))
theorem S8.put4 {B : Nat} {z : OpN} {vd : Value} {y p hn : Nat} {W : World} (h : S8 B z vd y p hn W) {C : Nat} (hB : B ≠ C) (hy : y ≠ C) (a b c d : Value) : S8 B z vd y p hn ((((W.setCell ⟨C, 0, none⟩ a).setCell ⟨C, 1, none⟩ b).setCell ⟨C, 2, none⟩ c).setCell ⟨C, 3, none⟩ d) :=
  h.heap (by rw [heap_setCell_other _ _ _ _ hB, heap_setCell_other _ _ _ _ hB, heap_setCell_other _ _ _ _ hB, heap_setCell_other _ _ _ _ hB]) (by rw [heap_setCell_other _ _ _ _ hy, heap_setCell_other _ _ _ _ hy, heap_setCell_other _ _ _ _ hy, heap_setCell_other _ _ _ _ hy])
theorem St3.stay {w W W' : World} {S T : Nat} {va vb : Value} {sp sp' : Sp} {vx vy vp : Value} {xs ys ns : List Nat} {B : Nat} {x : OpN} {vd : Value} {C : Nat} {O : Out} {D : Nat} {O' : Out} (h : St3 w W S T va vb sp sp' vx vy vp xs ys ns B x vd C O D O') (hb : Below W.heap.size W W') : St3 w W' S T va vb sp sp' vx vy vp xs ys ns B x vd C O D O' :=
  ⟨h.st.stay hb, h.an.turn (F := fun _ => False) (Turn.of_below hb) id, h.free⟩
theorem St3.appX {w W W' : World} {S T : Nat} {va vb : Value} {sp sp' : Sp} {vx vx' vy vp : Value} {xs xs' ys ns : List Nat} {B : Nat} {x : OpN} {vd : Value} {C : Nat} {O : Out} {D : Nat} {O' : Out} (h : St3 w W S T va vb sp sp' vx vy vp xs ys ns B x vd C O D O') (h1 : OwnU W' w.heap.size vx' xs') (h2 : ∀ g, vx'.ownBlock = some g → Same W vx.ownBlock g) (h3 : W.grownBy W' vx.ownBlock) : St3 w W' S T va vb sp sp' vx' vy vp xs' ys ns B x vd C O D O' := by
  have ht : Turn (fun k => vx.ownBlock = some k) W W' := ⟨h3.os, h3.tape, h3.output, h3.size, fun k hk hne => h3.block k hk (fun e => hne e.symm)⟩
  obtain ⟨a, b⟩ := h.st.st.trio.appX h1 h2 h3
  exact ⟨⟨⟨a, h.st.st.box.turn ht (fun e => h.st.st.free (.inr (.inr (.inl e)))), b _ h.st.st.box.lt h.st.st.free⟩, h.st.an.turn ht (fun e => h.st.free (.inr (.inr (.inl e)))), b _ h.st.an.lt h.st.free⟩, h.an.turn ht (fun e => h.free (.inr (.inr (.inl e)))), b _ h.an.lt h.free⟩
theorem St3.appY {w W W' : World} {S T : Nat} {va vb : Value} {sp sp' : Sp} {vx vy vy' vp : Value} {xs ys ys' ns : List Nat} {B : Nat} {x : OpN} {vd : Value} {C : Nat} {O : Out} {D : Nat} {O' : Out} (h : St3 w W S T va vb sp sp' vx vy vp xs ys ns B x vd C O D O') (h1 : OwnU W' w.heap.size vy' ys') (h2 : ∀ g, vy'.ownBlock = some g → Same W vy.ownBlock g) (h3 : W.grownBy W' vy.ownBlock) : St3 w W' S T va vb sp sp' vx vy' vp xs ys' ns B x vd C O D O' := by
  have ht : Turn (fun k => vy.ownBlock = some k) W W' := ⟨h3.os, h3.tape, h3.output, h3.size, fun k hk hne => h3.block k hk (fun e => hne e.symm)⟩
  obtain ⟨a, b⟩ := h.st.st.trio.appY h1 h2 h3
  exact ⟨⟨⟨a, h.st.st.box.turn ht (fun e => h.st.st.free (.inr (.inr (.inr (.inl e))))), b _ h.st.st.box.lt h.st.st.free⟩, h.st.an.turn ht (fun e => h.st.free (.inr (.inr (.inr (.inl e))))), b _ h.st.an.lt h.st.free⟩, h.an.turn ht (fun e => h.free (.inr (.inr (.inr (.inl e))))), b _ h.an.lt h.free⟩
theorem St3.two {w W : World} {S T : Nat} {va vb : Value} {sp sp' : Sp} {vx vy vp : Value} {xs ys ns : List Nat} {B : Nat} {x : OpN} {vd : Value} {C : Nat} {O : Out} {D : Nat} {O' : Out} (h : St3 w W S T va vb sp sp' vx vy vp xs ys ns B x vd C O D O') : W.cell? ⟨C, 2, none⟩ = some (.int .u64 O.at_) ∧ W.cell? ⟨D, 2, none⟩ = some (.int .u64 O'.at_) := ⟨h.st.an.q2, h.an.q2⟩
/-- append of a number to a row that is owned, as a step of a region that draws. -/
theorem step_append_u64 {ops : Array Oper} {o : Oper} {a : Act} {W : World} {K : Act → World → Prop} {Q : Exit → Act → World → Prop} {E : Prop} (hgd : o.guard = none) (s x : Operand)
    (ho : o.op = .call { callee := .builtin .append, args := #[s, x], argTypes := #[37, 37] })
    (B : Nat) (v : Value) (acc : List Nat) (hown : OwnU W B v acc) (c : Nat) (hs : a.eval s = v) (q : Nat)
    (hx : a.eval x = .slice (some ⟨q, 0, none⟩) 1 1) (hq : W.cell? ⟨q, 0, none⟩ = some (.int .u64 (c : Int))) (hlen : acc.length ≤ 100000) (hB : B ≤ W.heap.size)
    (h : ∀ v' w', OwnU w' B v' (acc ++ [c]) → (∀ g, v'.ownBlock = some g → Same W v.ownBlock g) → W.grownBy w' v.ownBlock → K (a.put o.dst v') w') :
    if Region.wanted o (yielded ops a.tmps) = true then Oper.wp Try.prog o a W K Q else E := by
  have hw : Region.wanted o (yielded ops a.tmps) = true := by simp [Region.wanted, hgd]
  rw [if_pos hw]
  obtain ⟨i, hi, hz0, hz1, hz2⟩ := info_parts Try.infoU
  obtain ⟨v', w', hr, h2, h3, h4⟩ := run_append_same W B 37 o.type 23 i (.int .u64 0) 1 8 Try.underlying37 hi hz0 hz1 hz2 rfl (by decide) v acc.length (uv acc) hown ⟨q, 0, none⟩ 1 [.int .u64 (c : Int)] rfl
    (fun j u hj => by
      match j, hj with
      | 0, hj => simp at hj; subst hj; simpa [Addr.add] using hq) (fun u hu => by simp at hu; subst hu; rfl) (by unfold maxLen; omega) (by omega) hB
  unfold Oper.wp execOp
  simp only [ho, resolve, invoke, builtin, Sem.run_bind, Sem.run_pure, Result.andThen_ok, List.map_toArray, List.map_cons, List.map_nil, hs, hx, hr]
  refine h v' w' ?_ (fun g hg => h3 g hg) h4
  unfold OwnU
  rw [List.length_append]
  simpa [uv] using h2
theorem kept {base X W : World} {v0 : Option Nat} (h3 : X.grownBy W v0) (hl : ∀ k, v0 = some k → k < base.heap.size) : ∀ p v, base.heap.size ≤ p.block → X.cell? p = some v → W.cell? p = some v := fun p v hp hc => by
  have hlt := World.block_lt_of_cell? _ _ hc
  rw [World.cell?_of_block (a := p) (h3.block p.block hlt (fun e => by have := hl _ e.symm; omega))]
  exact hc
theorem step_appX {w base X : World} {S T : Nat} {va vb : Value} {sp sp' : Sp} {vx vy vp : Value} {xs ys ns : List Nat} {B : Nat} {x : OpN} {vd : Value} {C : Nat} {O : Out} {D : Nat} {O' : Out} {ops : Array Oper} {o : Oper} {a : Act} {K : Act → World → Prop} {Q : Exit → Act → World → Prop} {E : Prop} (hgd : o.guard = none) (s u : Operand)
    (ho : o.op = .call { callee := .builtin .append, args := #[s, u], argTypes := #[37, 37] })
    (st : St3 w base S T va vb sp sp' vx vy vp xs ys ns B x vd C O D O') (hlen : xs.length ≤ 100000) (hs : a.eval s = vx) (q : Nat) (hx : a.eval u = .slice (some ⟨q, 0, none⟩) 1 1) (hb : Below base.heap.size base X) (hq : X.cell? ⟨q, 0, none⟩ = some (.int .u64 (O.at_ : Int)))
    (h : ∀ v' w', St3 w w' S T va vb sp sp' v' vy vp (xs ++ [O.at_]) ys ns B x vd C O D O' → (∀ p v, base.heap.size ≤ p.block → X.cell? p = some v → w'.cell? p = some v) → K (a.put o.dst v') w') :
    if Region.wanted o (yielded ops a.tmps) = true then Oper.wp Try.prog o a X K Q else E :=
  step_append_u64 hgd s u ho w.heap.size vx xs (st.stay hb).st.st.trio.duo.pa.own O.at_ hs q hx hq hlen (st.stay hb).st.st.trio.below.size (fun v' w' h1 h2 h3 => h v' w' ((st.stay hb).appX h1 h2 h3) (kept h3 (fun k hk => (World.ownsRow.lt st.st.st.trio.duo.pa.own k hk).2)))
theorem step_appY {w base X : World} {S T : Nat} {va vb : Value} {sp sp' : Sp} {vx vy vp : Value} {xs ys ns : List Nat} {B : Nat} {x : OpN} {vd : Value} {C : Nat} {O : Out} {D : Nat} {O' : Out} {ops : Array Oper} {o : Oper} {a : Act} {K : Act → World → Prop} {Q : Exit → Act → World → Prop} {E : Prop} (hgd : o.guard = none) (s u : Operand)
    (ho : o.op = .call { callee := .builtin .append, args := #[s, u], argTypes := #[37, 37] })
    (st : St3 w base S T va vb sp sp' vx vy vp xs ys ns B x vd C O D O') (hlen : ys.length ≤ 100000) (hs : a.eval s = vy) (q : Nat) (hx : a.eval u = .slice (some ⟨q, 0, none⟩) 1 1) (hb : Below base.heap.size base X) (hq : X.cell? ⟨q, 0, none⟩ = some (.int .u64 (O'.at_ : Int)))
    (h : ∀ v' w', St3 w w' S T va vb sp sp' vx v' vp xs (ys ++ [O'.at_]) ns B x vd C O D O' → (∀ p v, base.heap.size ≤ p.block → X.cell? p = some v → w'.cell? p = some v) → K (a.put o.dst v') w') :
    if Region.wanted o (yielded ops a.tmps) = true then Oper.wp Try.prog o a X K Q else E :=
  step_append_u64 hgd s u ho w.heap.size vy ys (st.stay hb).st.st.trio.duo.pb.own O'.at_ hs q hx hq hlen (st.stay hb).st.st.trio.below.size (fun v' w' h1 h2 h3 => h v' w' ((st.stay hb).appY h1 h2 h3) (kept h3 (fun k hk => (World.ownsRow.lt st.st.st.trio.duo.pb.own k hk).2)))
theorem below1 (W : World) (o : Obj) : Below W.heap.size W (W.alloc o) := (Below.refl _ W).alloc (Nat.le_refl _) o
theorem below2 (W : World) (o o' : Obj) : Below W.heap.size W ((W.alloc o).alloc o') := (below1 W o).alloc (by simp) o'
end Go.Proofs.Ytdecbnmibjcnaaa
