
/-
  A play of calls: what holds between two of them.
-/
import Derived.Test.YtdecbnmibjcnaaaVmPc
import Derived.Deep.RegionHeldLaw
set_option linter.unusedVariables false
namespace Go.Proofs.Ytdecbnmibjcnaaa
open Go.RowKit Go.PlainAid
def uv (l : List Nat) : List Value := l.map (fun (n : Nat) => Value.int .u64 (n : Int))
theorem Try.infoU : (Try.prog.info? 23).map (fun i => (i.zero, i.size, i.bytes)) = some (some (.int .u64 0), 1, 8) := by kernel_rfl
/-- v is a slice of numbers of the law's own. -/
def OwnU (w : World) (B : Nat) (v : Value) (l : List Nat) : Prop := w.ownsRow B 23 1 v l.length (uv l)
theorem OwnU.nil (w : World) (B : Nat) : OwnU w B (.slice none 0 0) [] := World.ownsRow_nil _ _ _ _
theorem OwnU.isSlice {w : World} {B : Nat} {v : Value} {l : List Nat} (h : OwnU w B v l) : ∃ a cap, v = .slice a l.length cap := by
  rcases h.2 with ⟨rfl, hn⟩ | ⟨g, cap, cur, rfl, _⟩
  · exact ⟨_, _, by rw [hn]⟩
  · exact ⟨_, _, rfl⟩
theorem OwnU.turn {w w' : World} {B : Nat} {v : Value} {l : List Nat} {F : Nat → Prop} (h : OwnU w B v l) (ht : Turn F w w') (hF : ∀ g, v.ownBlock = some g → ¬ F g) : OwnU w' B v l := by
  refine ⟨h.1, ?_⟩
  rcases h.2 with hn | ⟨g, cap, cur, rfl, hB, hg, rest⟩
  · exact .inl hn
  · exact .inr ⟨g, cap, cur, rfl, hB, by rw [ht.block g (Array.getElem?_eq_some_iff.1 hg).1 (hF g rfl)]; exact hg, rest⟩
theorem OwnU.src {w : World} {B : Nat} {v : Value} {l : List Nat} {F : Nat → Prop} (h : OwnU w B v l) (hF : ∀ g, v.ownBlock = some g → ¬ F g) : SrcU w F v l := by
  have hc := fun g hg => World.ownsRow.cells h (g := g) hg
  rcases h.2 with ⟨rfl, hn⟩ | ⟨g, cap, cur, rfl, hB, hg, h1, h2, h3, h4⟩
  · exact ⟨0, by omega, by simp, .inl ⟨rfl, List.eq_nil_of_length_eq_zero hn⟩⟩
  · refine ⟨cap, h1, h2, .inr ⟨g, rfl, hF g rfl, (Array.getElem?_eq_some_iff.1 hg).1, fun j hj => ?_⟩⟩
    have := hc g rfl j (.int .u64 (l[j] : Nat)) (by unfold uv; rw [List.getElem?_map, List.getElem?_eq_getElem hj]; rfl)
    rwa [add_lit] at this
/-- Between two calls. -/
structure PlayAt (w W : World) (S : Nat) (v : Value) (sp : Sp) (vr : Value) (rs : List Nat) : Prop where
  spn : SpN w W S v sp
  ok : sp.ok
  own : OwnU W w.heap.size vr rs
  ap : ∀ g, vr.ownBlock = some g → g ∉ foot S v sp.rooms
theorem PlayAt.stay {w W W' : World} {S : Nat} {v : Value} {sp : Sp} {vr : Value} {rs : List Nat} (h : PlayAt w W S v sp vr rs) (hb : Below W.heap.size W W') : PlayAt w W' S v sp vr rs :=
  ⟨h.spn.stay hb, h.ok, h.own.turn (F := fun _ => False) (Turn.of_below hb) (fun _ _ => id), h.ap⟩
theorem PlayAt.done {w W W' : World} {S : Nat} {v : Value} {sp sp' : Sp} {vr : Value} {rs : List Nat} (h : PlayAt w W S v sp vr rs) (ht : SpTo W S v sp.rooms W' sp') (hk : sp'.ok) : ∃ v', PlayAt w W' S v' sp' vr rs ∧ ∀ k ∈ foot S v' sp'.rooms, k ∈ foot S v sp.rooms ∨ W.heap.size ≤ k := by
  obtain ⟨v', n, hf⟩ := h.spn.to ht
  refine ⟨v', ⟨n, hk, h.own.turn ht.2 h.ap, fun g hg hm => ?_⟩, hf⟩
  have hl := (World.ownsRow.lt h.own g hg).2
  rcases hf g hm with e | e
  · exact h.ap g hg e
  · omega
theorem PlayAt.append {w W W' : World} {S : Nat} {v : Value} {sp : Sp} {vr vr' : Value} {rs rs' : List Nat} (h : PlayAt w W S v sp vr rs) (h1 : OwnU W' w.heap.size vr' rs') (h2 : ∀ g, vr'.ownBlock = some g → Same W vr.ownBlock g) (h3 : W.grownBy W' vr.ownBlock) : PlayAt w W' S v sp vr' rs' := by
  have ht : Turn (fun k => vr.ownBlock = some k) W W' := ⟨h3.os, h3.tape, h3.output, h3.size, fun k hk hne => h3.block k hk (fun e => hne e.symm)⟩
  refine ⟨⟨h.spn.at_.turn ht (fun k hk e => h.ap k e hk), h.spn.new, h.spn.below.grown h3 h.spn.below.size (fun k hk => (World.ownsRow.lt h.own k hk).1)⟩, h.ok, h1, fun g hg hm => ?_⟩
  rcases h2 g hg with e | e
  · exact h.ap g e hm
  · have := h.spn.at_.foot_lt g hm; omega
theorem append_u64 {ops : Array Oper} {rest : List Oper} {o : Oper} {a : Act} {Q : Exit → Act → World → Prop} (hgd : o.guard = none) (s x : Operand)
    (ho : o.op = .call { callee := .builtin .append, args := #[s, x], argTypes := #[37, 37] })
    (B : Nat) (wr : World) (v : Value) (acc : List Nat) (hown : OwnU wr B v acc) (c : Nat) (hs : a.eval s = v)
    (hx : a.eval x = .slice (some ⟨wr.heap.size, 0, none⟩) 1 1) (hlen : acc.length ≤ 100000) (hB : B ≤ wr.heap.size)
    (h : ∀ v' w', OwnU w' B v' (acc ++ [c]) → (∀ g, v'.ownBlock = some g → Same wr v.ownBlock g) → wr.grownBy w' v.ownBlock → wpList Try.prog ops Q rest (a.put o.dst v') w') :
    wpList Try.prog ops Q (o :: rest) a (wr.alloc (.cells #[.int .u64 (c : Int)] 23)) := by
  obtain ⟨i, hi, hz0, hz1, hz2⟩ := info_parts Try.infoU
  obtain ⟨v', w', hr, h2, h3, h4⟩ := run_append_same (wr.alloc (.cells #[.int .u64 (c : Int)] 23)) B 37 o.type 23 i (.int .u64 0) 1 8 Try.underlying37 hi hz0 hz1 hz2 rfl (by decide) v acc.length (uv acc) (World.ownsRow.alloc hown _) ⟨wr.heap.size, 0, none⟩ 1 [.int .u64 (c : Int)] rfl
    (fun j u hj => by
      match j, hj with
      | 0, hj => simp at hj; subst hj; simp [Addr.add]) (fun u hu => by simp at hu; subst hu; rfl) (by unfold maxLen; omega) (by omega) (by simp; omega)
  refine wpList_plain hgd fun _ hK => ?_
  unfold Oper.wp execOp
  simp only [ho, resolve, invoke, builtin, Sem.run_bind, Sem.run_pure, Result.andThen_ok, List.map_toArray, List.map_cons, List.map_nil, hs, hx, hr]
  refine hK _ _ (h v' w' ?_ (fun g hg => ?_) ((World.grownBy_alloc wr _ _).trans h4))
  · unfold OwnU
    rw [List.length_append]
    simpa [uv] using h2
  · rcases h3 g hg with e | e
    · exact .inl e
    · right; have : (wr.alloc (.cells #[.int .u64 (c : Int)] 23)).heap.size = wr.heap.size + 1 := by simp
      omega
/-- A call in a world that has drawn. -/
theorem PlayAt.drew {w W : World} {S : Nat} {v : Value} {sp : Sp} {vr : Value} {rs : List Nat} (h : PlayAt w W S v sp vr rs) : PlayAt w W.drew S v sp vr rs := h.stay ⟨rfl, rfl, rfl, Nat.le_refl _, fun _ _ => rfl⟩
theorem play_done (w W : World) (S : Nat) (v : Value) (sp : Sp) (vr : Value) (rs : List Nat) (h : PlayAt w W S v sp vr rs) (x : OpN) (hx : x.ok) (vd : Value) (hs : Src w (fun _ => False) vd x.data) (hint : Nat) (hh : (hint : Int) ≤ 18446744073709551615) :
    Calls Try.prog 19 #[.pointer (some ⟨S, 0, none⟩), .agg (x.cells vd), vr, .int .u64 hint] W fun e W' => e = .returned (.agg (doO sp x rs hint).cells) ∧ ∃ blk v', PlayAt w W' S v' (doS sp x rs hint blk) vr rs ∧ Turn (· ∈ foot S v sp.rooms) W W' ∧ ∀ k ∈ foot S v' (doS sp x rs hint blk).rooms, k ∈ foot S v sp.rooms ∨ W.heap.size ≤ k := by
  have hs2 : Src W (· ∈ foot S v sp.rooms) vd x.data := by
    have h1 : Src w (fun k => w.heap.size ≤ k) vd x.data := hs.mono (fun k hk e => absurd e (by omega))
    have h2 : Src W (fun k => w.heap.size ≤ k) vd x.data := h1.turn ⟨h.spn.below.os, h.spn.below.tape, h.spn.below.output, h.spn.below.size, fun k hk _ => h.spn.below.block k hk⟩
    exact h2.sub (fun k hk => h.spn.new k hk)
  refine (law_done W S v sp h.spn.at_ h.ok x hx vd vr rs hint hh hs2 (h.own.src h.ap)).mono ?_
  rintro e W' ⟨rfl, blk, _, ht⟩
  obtain ⟨v', hp, hf⟩ := h.done ht (doS_ok h.ok x rs hint blk)
  exact ⟨rfl, blk, v', hp, ht.2, hf⟩
theorem PlayAt.turn1 {w W W' : World} {S : Nat} {v : Value} {sp : Sp} {vr : Value} {rs : List Nat} {B : Nat} (h : PlayAt w W S v sp vr rs) (ht : Turn (· = B) W W') (hB : B ∉ foot S v sp.rooms) (hv : vr.ownBlock ≠ some B) (hw : w.heap.size ≤ B) : PlayAt w W' S v sp vr rs :=
  ⟨⟨h.spn.at_.turn ht (fun k hk e => hB (by rw [← e]; exact hk)), h.spn.new, h.spn.below.trans (ht.below h.spn.below.size (fun k hk => by rw [hk]; exact hw))⟩, h.ok, h.own.turn ht (fun g hg e => hv (by rw [hg, e])), h.ap⟩
theorem turn_put (W : World) (B : Nat) (a b c d : Value) : Turn (· = B) W ((((W.setCell ⟨B, 0, none⟩ a).setCell ⟨B, 1, none⟩ b).setCell ⟨B, 2, none⟩ c).setCell ⟨B, 3, none⟩ d) :=
  ⟨rfl, rfl, rfl, by simp, fun k _ hk => by
    rw [heap_setCell_other _ _ _ _ hk, heap_setCell_other _ _ _ _ hk, heap_setCell_other _ _ _ _ hk, heap_setCell_other _ _ _ _ hk]⟩
/-- The cells of a call that came in. -/
abbrev S7 (y p : Nat) (x : OpN) (vd : Value) (w : World) : Prop := w.cell? ⟨y, p, none⟩ = some (.int .i64 x.kind) ∧ w.cell? ⟨y, p + 1, none⟩ = some (.int .i64 x.room) ∧ w.cell? ⟨y, p + 2, none⟩ = some (.int .u64 x.off) ∧ w.cell? ⟨y, p + 3, none⟩ = some (.int .u64 x.size) ∧ w.cell? ⟨y, p + 4, none⟩ = some (.int .i64 x.prot) ∧ w.cell? ⟨y, p + 5, none⟩ = some (.int .u64 x.hint) ∧ w.cell? ⟨y, p + 6, none⟩ = some vd
theorem S7.heap {y p : Nat} {x : OpN} {vd : Value} {w w' : World} (h : S7 y p x vd w) (hb : w'.heap[y]? = w.heap[y]?) : S7 y p x vd w' := by
  have e : ∀ j, w'.cell? ⟨y, j, none⟩ = w.cell? ⟨y, j, none⟩ := fun j => World.cell?_of_block (a := ⟨y, j, none⟩) hb
  obtain ⟨h0, h1, h2, h3, h4, h5, h6⟩ := h
  exact ⟨by rw [e]; exact h0, by rw [e]; exact h1, by rw [e]; exact h2, by rw [e]; exact h3, by rw [e]; exact h4, by rw [e]; exact h5, by rw [e]; exact h6⟩
theorem S7.lt {y p : Nat} {x : OpN} {vd : Value} {w : World} (h : S7 y p x vd w) : y < w.heap.size := World.block_lt_of_cell? _ _ h.1
theorem S7.alloc {y p : Nat} {x : OpN} {vd : Value} {w : World} (h : S7 y p x vd w) (o : Obj) : S7 y p x vd (w.alloc o) := h.heap (Below.heap_alloc _ _ _ h.lt)
theorem S7.below {y p : Nat} {x : OpN} {vd : Value} {w w' : World} {B : Nat} (h : S7 y p x vd w) (hy : y < B) (hb : Below B w w') : S7 y p x vd w' := h.heap (hb.block y hy)
theorem S7.put4 {y p : Nat} {x : OpN} {vd : Value} {w : World} (h : S7 y p x vd w) {B : Nat} (hB : y ≠ B) (a b c d : Value) : S7 y p x vd ((((w.setCell ⟨B, 0, none⟩ a).setCell ⟨B, 1, none⟩ b).setCell ⟨B, 2, none⟩ c).setCell ⟨B, 3, none⟩ d) :=
  h.heap (by rw [heap_setCell_other _ _ _ _ hB, heap_setCell_other _ _ _ _ hB, heap_setCell_other _ _ _ _ hB, heap_setCell_other _ _ _ _ hB])
theorem IsOp7.s7 {w : World} {y p : Nat} {x : OpN} {vd : Value} (h : IsOp7 w y p x vd) : S7 y p x vd w := ⟨h.c0, h.c1, h.c2, h.c3, h.c4, h.c5, h.c6⟩
/-- What is known behind a call: the play, the call's cells, the box of the answer. -/
def outZ : Obj := .cells #[.int .i64 0, .string ⟨#[]⟩, .int .u64 0, .bool false] 49
structure AnB (W : World) (B : Nat) : Prop where
  a0 : W.cell? ⟨B, 0, none⟩ = some (.int .i64 0)
  a1 : W.cell? ⟨B, 1, none⟩ = some (.string ⟨#[]⟩)
  a2 : W.cell? ⟨B, 2, none⟩ = some (.int .u64 0)
  a3 : W.cell? ⟨B, 3, none⟩ = some (.bool false)
  f0 : W.frozen? ⟨B, 0, none⟩ = false
  f1 : W.frozen? ⟨B, 1, none⟩ = false
  f2 : W.frozen? ⟨B, 2, none⟩ = false
  f3 : W.frozen? ⟨B, 3, none⟩ = false
theorem anB_of {wr W2 : World} {F : Nat → Prop} (ht : Turn F ((wr.alloc (.cells #[.int .i64 0, .string ⟨#[]⟩, .int .u64 0, .bool false] 49)).drew) W2) (hF : ¬ F wr.heap.size) : AnB W2 wr.heap.size := by
  have hh : ((wr.alloc (.cells #[.int .i64 0, .string ⟨#[]⟩, .int .u64 0, .bool false] 49)).drew).heap[wr.heap.size]? = some (.cells #[.int .i64 0, .string ⟨#[]⟩, .int .u64 0, .bool false] 49 (0, 0)) := heap_alloc_new wr _
  have e := (ht.block wr.heap.size (Array.getElem?_eq_some_iff.1 hh).1 hF).trans hh
  constructor <;> simp [World.cell?, World.frozen?, e]
end Go.Proofs.Ytdecbnmibjcnaaa
