
/-
  Layer 18 (conf): a configuration in memory, and how it grows.
-/
import Derived.Test.YtmcefflgbliehaaDoorCfA
set_option linter.unusedVariables false
namespace Go.Proofs.YtmcefflgbliehaaDoor
open Go.RowKit Go.PlainAid Go.Sort
theorem type_of {w : World} {g : Nat} {c d : Array Value} {T U : TypeId} {r s : Nat × Nat} (h : w.heap[g]? = some (.cells c T r)) (k : w.heap[g]? = some (.cells d U s)) : T = U := by
  rw [h] at k
  injection k with k
  injection k
/-- Block f is a configuration: dv its folders, sv its parts; all of it made behind B. -/
structure FileAt (w : World) (B f : Nat) (dv sv : Value) (ds : List Pr) (ss : List Sx) (N : Nat) : Prop where
  head : w.heap[f]? = some (.cells #[dv, sv] 25 (0, 0))
  hf : B ≤ f
  dirs : OwnP 60 w B dv ds
  secs : OwnX 38 w B sv ss
  prs : ∀ s ∈ ss, OwnP 60 w B s.pv s.props
  apD : ∀ s ∈ ss, ∀ g, s.pv.ownBlock = some g → dv.ownBlock ≠ some g
  apS : ss.Pairwise fun a b => ∀ g, a.pv.ownBlock = some g → b.pv.ownBlock ≠ some g
  sm : ds.length ≤ N ∧ ss.length ≤ N ∧ ∀ s ∈ ss, s.props.length ≤ N
  vl : ∀ s ∈ ss, ∀ p ∈ s.props, p.value.length ≤ N * 100002
/-- The blocks that are its. -/
def foot (f : Nat) (dv sv : Value) (ss : List Sx) (k : Nat) : Prop := k = f ∨ dv.ownBlock = some k ∨ sv.ownBlock = some k ∨ ∃ s ∈ ss, s.pv.ownBlock = some k
section
variable {w w' : World} {B f N : Nat} {dv sv : Value} {ds : List Pr} {ss : List Sx}
theorem FileAt.dT (h : FileAt w B f dv sv ds ss N) {g : Nat} (hg : dv.ownBlock = some g) : B ≤ g ∧ g < w.heap.size ∧ g ≠ f ∧ sv.ownBlock ≠ some g := by
  obtain ⟨cur, hc⟩ := row_type h.dirs hg
  refine ⟨(World.ownsRow.lt h.dirs g hg).1, (World.ownsRow.lt h.dirs g hg).2, fun e => ?_, fun e => ?_⟩
  · subst e; exact absurd (type_of h.head hc) (by decide)
  · obtain ⟨cur', hc'⟩ := row_type h.secs e
    exact absurd (type_of hc' hc) (by decide)
theorem FileAt.sT (h : FileAt w B f dv sv ds ss N) {g : Nat} (hg : sv.ownBlock = some g) : B ≤ g ∧ g < w.heap.size ∧ g ≠ f ∧ dv.ownBlock ≠ some g := by
  obtain ⟨cur, hc⟩ := row_type h.secs hg
  refine ⟨(World.ownsRow.lt h.secs g hg).1, (World.ownsRow.lt h.secs g hg).2, fun e => ?_, fun e => ?_⟩
  · subst e; exact absurd (type_of h.head hc) (by decide)
  · exact (h.dT e).2.2.2 hg
theorem FileAt.pT (h : FileAt w B f dv sv ds ss N) {s : Sx} (hs : s ∈ ss) {g : Nat} (hg : s.pv.ownBlock = some g) : B ≤ g ∧ g < w.heap.size ∧ g ≠ f ∧ dv.ownBlock ≠ some g ∧ sv.ownBlock ≠ some g := by
  obtain ⟨cur, hc⟩ := row_type (h.prs s hs) hg
  refine ⟨(World.ownsRow.lt (h.prs s hs) g hg).1, (World.ownsRow.lt (h.prs s hs) g hg).2, fun e => ?_, h.apD s hs g hg, fun e => ?_⟩
  · subst e; exact absurd (type_of h.head hc) (by decide)
  · obtain ⟨cur', hc'⟩ := row_type h.secs e
    exact absurd (type_of hc' hc) (by decide)
theorem FileAt.foot (h : FileAt w B f dv sv ds ss N) {k : Nat} (hk : foot f dv sv ss k) : B ≤ k ∧ k < w.heap.size := by
  rcases hk with rfl | hk | hk | ⟨s, hs, hk⟩
  · exact ⟨h.hf, block_lt h.head⟩
  · exact ⟨(h.dT hk).1, (h.dT hk).2.1⟩
  · exact ⟨(h.sT hk).1, (h.sT hk).2.1⟩
  · exact ⟨(h.pT hs hk).1, (h.pT hs hk).2.1⟩
theorem FileAt.keep (h : FileAt w B f dv sv ds ss N) (hk : ∀ k, Go.Proofs.YtmcefflgbliehaaDoor.foot f dv sv ss k → w'.heap[k]? = w.heap[k]?) : FileAt w' B f dv sv ds ss N :=
  ⟨(hk f (.inl rfl)).trans h.head, h.hf, row_keep h.dirs (fun g hg => hk g (.inr (.inl hg))), row_keep h.secs (fun g hg => hk g (.inr (.inr (.inl hg)))),
    fun s hs => row_keep (h.prs s hs) (fun g hg => hk g (.inr (.inr (.inr ⟨s, hs, hg⟩)))), h.apD, h.apS, h.sm, h.vl⟩
theorem FileAt.stay (h : FileAt w B f dv sv ds ss N) (hb : Below w.heap.size w w') : FileAt w' B f dv sv ds ss N := h.keep fun k hk => hb.block k (h.foot hk).2
theorem FileAt.more (h : FileAt w B f dv sv ds ss N) {M : Nat} (hm : N ≤ M) : FileAt w B f dv sv ds ss M := { h with sm := ⟨Nat.le_trans h.sm.1 hm, Nat.le_trans h.sm.2.1 hm, fun s hs => Nat.le_trans (h.sm.2.2 s hs) hm⟩, vl := fun s hs p hp => Nat.le_trans (h.vl s hs p hp) (Nat.mul_le_mul_right _ hm) }
theorem FileAt.argX (h : FileAt w B f dv sv ds ss N) (hN : N ≤ 100000) : ArgX w sv ss := h.secs.arg (Nat.le_trans h.sm.2.1 hN) (fun s hs => (h.prs s hs).arg (Nat.le_trans (h.sm.2.2 s hs) hN))
theorem FileAt.argD (h : FileAt w B f dv sv ds ss N) (hN : N ≤ 100000) : ArgP w dv ds := h.dirs.arg (Nat.le_trans h.sm.1 hN)
theorem FileAt.c0 (h : FileAt w B f dv sv ds ss N) : w.cell? ⟨f, 0, none⟩ = some dv := cells_of_block h.head 0 _ rfl
theorem FileAt.c1 (h : FileAt w B f dv sv ds ss N) : w.cell? ⟨f, 1, none⟩ = some sv := cells_of_block h.head 1 _ rfl
end
/-- What a step does: the configuration is so then, and of what was there nothing else has turned. -/
def StepF (W w' : World) (B f : Nat) (dv sv : Value) (ss : List Sx) (ds' : List Pr) (ss' : List Sx) (N' : Nat) : Prop :=
  ∃ dv' sv', FileAt w' B f dv' sv' ds' ss' N' ∧ Turn (foot f dv sv ss) W w' ∧ ∀ k, foot f dv' sv' ss' k → foot f dv sv ss k ∨ W.heap.size ≤ k
section
variable {W W1 W2 : World} {B f N : Nat} {dv sv : Value} {ds : List Pr} {ss : List Sx}
theorem FileAt.idle (h : FileAt W B f dv sv ds ss N) (hb : Below W.heap.size W W1) : StepF W W1 B f dv sv ss ds ss (N + 1) :=
  ⟨dv, sv, (h.stay hb).more (Nat.le_succ N), Turn.of_below hb, fun k hk => .inl hk⟩
/-- A folder more. -/
theorem FileAt.putDir (h : FileAt W B f dv sv ds ss N) (hb : Below W.heap.size W W1) {p : Pr} {dv' : Value} (r : OwnP 60 W2 B dv' (ds ++ [p])) (hs : dv'.ownBlock = dv.ownBlock ∨ dv'.ownBlock = some W1.heap.size) (hg : W1.grownBy W2 dv.ownBlock) :
    StepF W (W2.setCell ⟨f, 0, none⟩ dv') B f dv sv ss (ds ++ [p]) ss (N + 1) := by
  have hfl := block_lt h.head
  have hs1 := hb.size
  have hs2 := hg.size
  have hD : ∀ g, dv'.ownBlock = some g → dv.ownBlock = some g ∨ g = W1.heap.size := fun g hg => by
    rcases hs with e | e
    · exact .inl (e ▸ hg)
    · rw [e] at hg; injection hg with hg; exact .inr hg.symm
  have hk : ∀ k, k < W.heap.size → k ≠ f → dv.ownBlock ≠ some k → (W2.setCell ⟨f, 0, none⟩ dv').heap[k]? = W.heap[k]? := fun k hk h1 h2 => by
    rw [Below.heap_setCell _ _ _ _ h1, hg.block k (by omega) (fun e => h2 e.symm), hb.block k hk]
  have h2 : W2.heap[f]? = some (.cells #[dv, sv] 25 (0, 0)) := by
    rw [hg.block f (by omega) (fun e => (h.dT e.symm).2.2.1 rfl), hb.block f hfl]; exact h.head
  refine ⟨dv', sv, ⟨by rw [block_set W2 f 0 dv' _ _ _ h2]; rfl, h.hf, row_keep r (fun g hgg => ?_), row_keep h.secs (fun g hgg => ?_), fun s hs' => row_keep (h.prs s hs') (fun g hgg => ?_), fun s hs' g hgg e => ?_, h.apS,
    ⟨by rw [List.length_append]; have := h.sm.1; simp; omega, Nat.le_succ_of_le h.sm.2.1, fun s hs' => Nat.le_succ_of_le (h.sm.2.2 s hs')⟩, fun s hs' p hp => Nat.le_trans (h.vl s hs' p hp) (Nat.mul_le_mul_right _ (Nat.le_succ N))⟩, ⟨?_, ?_, ?_, ?_, fun k hk1 hk2 => ?_⟩, fun k hk1 => ?_⟩
  · rcases hD g hgg with e | e
    · exact Below.heap_setCell _ _ _ _ (h.dT e).2.2.1
    · exact Below.heap_setCell _ _ _ _ (by show g ≠ f; omega)
  · exact hk g (h.sT hgg).2.1 (h.sT hgg).2.2.1 (h.sT hgg).2.2.2
  · exact hk g (h.pT hs' hgg).2.1 (h.pT hs' hgg).2.2.1 (h.pT hs' hgg).2.2.2.1
  · rcases hD g e with e | e
    · exact h.apD s hs' g hgg e
    · have := (h.pT hs' hgg).2.1; omega
  · exact hg.os.trans hb.os
  · exact hg.tape.trans hb.tape
  · exact hg.output.trans hb.output
  · simp; omega
  · exact hk k hk1 (fun e => hk2 (.inl e)) (fun e => hk2 (.inr (.inl e)))
  · rcases hk1 with e | e | e | e
    · exact .inl (.inl e)
    · rcases hD k e with e | e
      · exact .inl (.inr (.inl e))
      · exact .inr (by omega)
    · exact .inl (.inr (.inr (.inl e)))
    · exact .inl (.inr (.inr (.inr e)))
/-- A part more. -/
theorem FileAt.putSec (h : FileAt W B f dv sv ds ss N) (hb : Below W.heap.size W W1) {n : List UInt8} {sv' : Value} (r : OwnX 38 W2 B sv' (ss ++ [⟨n, .slice none 0 0, []⟩])) (hs : sv'.ownBlock = sv.ownBlock ∨ sv'.ownBlock = some W1.heap.size) (hg : W1.grownBy W2 sv.ownBlock) :
    StepF W (W2.setCell ⟨f, 1, none⟩ sv') B f dv sv ss ds (ss ++ [⟨n, .slice none 0 0, []⟩]) (N + 1) := by
  have hfl := block_lt h.head
  have hs1 := hb.size
  have hs2 := hg.size
  have hD : ∀ g, sv'.ownBlock = some g → sv.ownBlock = some g ∨ g = W1.heap.size := fun g hg => by
    rcases hs with e | e
    · exact .inl (e ▸ hg)
    · rw [e] at hg; injection hg with hg; exact .inr hg.symm
  have hk : ∀ k, k < W.heap.size → k ≠ f → sv.ownBlock ≠ some k → (W2.setCell ⟨f, 1, none⟩ sv').heap[k]? = W.heap[k]? := fun k hk h1 h2 => by
    rw [Below.heap_setCell _ _ _ _ h1, hg.block k (by omega) (fun e => h2 e.symm), hb.block k hk]
  have h2 : W2.heap[f]? = some (.cells #[dv, sv] 25 (0, 0)) := by
    rw [hg.block f (by omega) (fun e => (h.sT e.symm).2.2.1 rfl), hb.block f hfl]; exact h.head
  refine ⟨dv, sv', ⟨by rw [block_set W2 f 1 sv' _ _ _ h2]; rfl, h.hf, row_keep h.dirs (fun g hgg => ?_), row_keep r (fun g hgg => ?_), fun s hs' => ?_, fun s hs' g hgg => ?_, ?_,
    ⟨Nat.le_succ_of_le h.sm.1, by rw [List.length_append]; have := h.sm.2.1; simp; omega, fun s hs' => ?_⟩, fun s hs' p hp => ?vl⟩, ⟨?_, ?_, ?_, ?_, fun k hk1 hk2 => ?_⟩, fun k hk1 => ?_⟩
  case vl =>
    rcases List.mem_append.1 hs' with hs' | hs'
    · exact Nat.le_trans (h.vl s hs' p hp) (Nat.mul_le_mul_right _ (Nat.le_succ N))
    · rw [List.mem_singleton] at hs'; subst hs'; cases hp
  · exact hk g (h.dT hgg).2.1 (h.dT hgg).2.2.1 (h.dT hgg).2.2.2
  · rcases hD g hgg with e | e
    · exact Below.heap_setCell _ _ _ _ (h.sT e).2.2.1
    · exact Below.heap_setCell _ _ _ _ (by show g ≠ f; omega)
  · rcases List.mem_append.1 hs' with hs' | hs'
    · exact row_keep (h.prs s hs') (fun g hgg => hk g (h.pT hs' hgg).2.1 (h.pT hs' hgg).2.2.1 (h.pT hs' hgg).2.2.2.2)
    · rw [List.mem_singleton] at hs'; subst hs'; exact OwnP.nil _ _ _
  · rcases List.mem_append.1 hs' with hs' | hs'
    · exact h.apD s hs' g hgg
    · rw [List.mem_singleton] at hs'; subst hs'; cases hgg
  · rw [List.pairwise_append]
    exact ⟨h.apS, by simp, fun a _ b hb' g _ e => by rw [List.mem_singleton] at hb'; subst hb'; cases e⟩
  · rcases List.mem_append.1 hs' with hs' | hs'
    · exact Nat.le_succ_of_le (h.sm.2.2 s hs')
    · rw [List.mem_singleton] at hs'; subst hs'; simp
  · exact hg.os.trans hb.os
  · exact hg.tape.trans hb.tape
  · exact hg.output.trans hb.output
  · simp; omega
  · exact hk k hk1 (fun e => hk2 (.inl e)) (fun e => hk2 (.inr (.inr (.inl e))))
  · rcases hk1 with e | e | e | ⟨s, hs', e⟩
    · exact .inl (.inl e)
    · exact .inl (.inr (.inl e))
    · rcases hD k e with e | e
      · exact .inl (.inr (.inr (.inl e)))
      · exact .inr (by omega)
    · rcases List.mem_append.1 hs' with hs' | hs'
      · exact .inl (.inr (.inr (.inr ⟨s, hs', e⟩)))
      · rw [List.mem_singleton] at hs'; subst hs'; cases e
/-- The last part's properties lie elsewhere then, or are others. -/
theorem FileAt.last {A : List Sx} {x : Sx} {b c : Nat} (h : FileAt W B f dv (.slice (some ⟨b, 0, none⟩) (A.length + 1) c) ds (A ++ [x]) N) {ps : List Pr} {pv' : Value} {W3 : World}
    (r : OwnP 60 W3 B pv' ps) (hsec : OwnX 38 W3 B (.slice (some ⟨b, 0, none⟩) (A.length + 1) c) (A ++ [⟨x.name, pv', ps⟩])) (hs : ∀ g, pv'.ownBlock = some g → x.pv.ownBlock = some g ∨ W.heap.size ≤ g) (hp : ps.length ≤ N + 1) (hv : ∀ p ∈ ps, p.value.length ≤ (N + 1) * 100002)
    (ho : W3.os = W.os ∧ W3.tape = W.tape ∧ W3.output = W.output ∧ W.heap.size ≤ W3.heap.size) (hk : ∀ k, k < W.heap.size → k ≠ b → x.pv.ownBlock ≠ some k → W3.heap[k]? = W.heap[k]?) :
    StepF W W3 B f dv (.slice (some ⟨b, 0, none⟩) (A.length + 1) c) (A ++ [x]) ds (A ++ [⟨x.name, pv', ps⟩]) (N + 1) := by
  have hfl := block_lt h.head
  have hmx : x ∈ A ++ [x] := List.mem_append.2 (.inr (List.mem_singleton.2 rfl))
  have hb := h.sT (g := b) rfl
  have hap := h.apS
  rw [List.pairwise_append] at hap
  refine ⟨dv, _, ⟨(hk f hfl (fun e => hb.2.2.1 e.symm) (fun e => (h.pT hmx e).2.2.1 rfl)).trans h.head, h.hf, row_keep h.dirs (fun g hgg => ?_), hsec, fun s hs' => ?_, fun s hs' g hgg => ?_, ?_,
    ⟨Nat.le_succ_of_le h.sm.1, by have := h.sm.2.1; simp at this ⊢; omega, fun s hs' => ?_⟩, fun s hs' p hp' => ?vl⟩, ⟨ho.1, ho.2.1, ho.2.2.1, ho.2.2.2, fun k hk1 hk2 => ?_⟩, fun k hk1 => ?_⟩
  case vl =>
    rcases List.mem_append.1 hs' with hs' | hs'
    · exact Nat.le_trans (h.vl s (List.mem_append.2 (.inl hs')) p hp') (Nat.mul_le_mul_right _ (Nat.le_succ N))
    · rw [List.mem_singleton] at hs'; subst hs'; exact hv p hp'
  · exact hk g (h.dT hgg).2.1 (fun e => (h.dT hgg).2.2.2 (by rw [e]; rfl)) (fun e => (h.pT hmx e).2.2.2.1 hgg)
  · rcases List.mem_append.1 hs' with hs' | hs'
    · have hms : s ∈ A ++ [x] := List.mem_append.2 (.inl hs')
      exact row_keep (h.prs s hms) (fun g hgg => hk g (h.pT hms hgg).2.1 (fun e => (h.pT hms hgg).2.2.2.2 (by rw [e]; rfl)) (hap.2.2 s hs' x (List.mem_singleton.2 rfl) g hgg))
    · rw [List.mem_singleton] at hs'; subst hs'; exact r
  · rcases List.mem_append.1 hs' with hs' | hs'
    · exact h.apD s (List.mem_append.2 (.inl hs')) g hgg
    · rw [List.mem_singleton] at hs'; subst hs'
      intro e
      rcases hs g hgg with e2 | e2
      · exact h.apD x hmx g e2 e
      · have := (h.dT e).2.1; omega
  · rw [List.pairwise_append]
    refine ⟨hap.1, by simp, fun a ha y hy g hgg e => ?_⟩
    rw [List.mem_singleton] at hy; subst hy
    rcases hs g e with e2 | e2
    · exact hap.2.2 a ha x (List.mem_singleton.2 rfl) g hgg e2
    · have := (h.pT (List.mem_append.2 (.inl ha)) hgg).2.1; omega
  · rcases List.mem_append.1 hs' with hs' | hs'
    · exact Nat.le_succ_of_le (h.sm.2.2 s (List.mem_append.2 (.inl hs')))
    · rw [List.mem_singleton] at hs'; subst hs'; exact hp
  · exact hk k hk1 (fun e => hk2 (.inr (.inr (.inl (by rw [e]; rfl))))) (fun e => hk2 (.inr (.inr (.inr ⟨x, hmx, e⟩))))
  · rcases hk1 with e | e | e | ⟨s, hs', e⟩
    · exact .inl (.inl e)
    · exact .inl (.inr (.inl e))
    · exact .inl (.inr (.inr (.inl e)))
    · rcases List.mem_append.1 hs' with hs' | hs'
      · exact .inl (.inr (.inr (.inr ⟨s, List.mem_append.2 (.inl hs'), e⟩)))
      · rw [List.mem_singleton] at hs'; subst hs'
        rcases hs k e with e2 | e2
        · exact .inl (.inr (.inr (.inr ⟨x, hmx, e2⟩)))
        · exact .inr e2
end
/-- append of a property, of a part, to a row that is owned, as a step of a region that draws. -/
theorem infoP : (Tryd.prog.info? 60).map (fun i => (i.zero, i.size, i.bytes)) = some (some (.agg noPr.cells.toArray), 3, 40) := by kernel_rfl
theorem infoX : (Tryd.prog.info? 38).map (fun i => (i.zero, i.size, i.bytes)) = some (some (.agg (Sx.cells ⟨[], .slice none 0 0, []⟩).toArray), 2, 40) := by kernel_rfl
theorem step_append_p {ops : Array Oper} {o : Oper} {a : Act} {W : World} {K : Act → World → Prop} {Q : Exit → Act → World → Prop} {E : Prop} (hgd : o.guard = none) (s x : Operand)
    (ho : o.op = .call { callee := .builtin .append, args := #[s, x], argTypes := #[22, 22] })
    (B : Nat) (v : Value) (l : List Pr) (n : Pr) (hown : OwnP 60 W B v l) (hs : a.eval s = v) (q c : Nat)
    (hx : a.eval x = .slice (some ⟨q, 0, none⟩) 1 c) (hq : ∀ j u, n.cells[j]? = some u → W.cell? ⟨q, j, none⟩ = some u) (hlen : l.length ≤ 100000) (hB : B ≤ W.heap.size)
    (h : ∀ v' w', OwnP 60 w' B v' (l ++ [n]) → W.grownBy w' v.ownBlock → (v'.ownBlock = v.ownBlock ∨ v'.ownBlock = some W.heap.size) → K (a.put o.dst v') w') :
    if Region.wanted o (yielded ops a.tmps) = true then Oper.wp Tryd.prog o a W K Q else E := by
  have hw : Region.wanted o (yielded ops a.tmps) = true := by simp [Region.wanted, hgd]
  rw [if_pos hw]
  obtain ⟨i, hi, hz0, hz1, hz2⟩ := info_parts infoP
  obtain ⟨v', w', hr, h2, h3, h4, h5⟩ := run_append_own_at (P := Tryd.prog) W B 22 o.type 60 i _ 3 40 Tryd.underlying22 hi hz0 hz1 hz2 rfl (by decide) v l.length (flatP l) hown ⟨q, 0, none⟩ 1 c n.cells rfl
    (fun j u hj => by rw [add_at, Nat.zero_add]; exact hq j u hj) n.one (by unfold maxLen; omega) (by omega) hB
  unfold Oper.wp execOp
  simp only [ho, resolve, invoke, builtin, Sem.run_bind, Sem.run_pure, Result.andThen_ok, List.map_toArray, List.map_cons, List.map_nil, hs, hx, hr]
  refine h v' w' ?_ h3 h5
  unfold OwnP
  rw [List.length_append, flatP_app]
  simpa [flatP] using h2
theorem new_p (W : World) (v : Pr) (T : TypeId) : ∀ j u, v.cells[j]? = some u → (W.alloc (.cells v.cells.toArray T)).cell? ⟨W.heap.size, j, none⟩ = some u := fun j u h => by
  rw [World.cell?_alloc_at _ _ _ _ (by simp)]; simpa using h
theorem new_x (W : World) (v : Sx) (T : TypeId) : ∀ j u, v.cells[j]? = some u → (W.alloc (.cells v.cells.toArray T)).cell? ⟨W.heap.size, j, none⟩ = some u := fun j u h => by
  rw [World.cell?_alloc_at _ _ _ _ (by simp)]; simpa using h
/-- append of a part, as an operation of a list. -/
theorem append_x {ops : Array Oper} {rest : List Oper} {o : Oper} {a : Act} {Q : Exit → Act → World → Prop} (hgd : o.guard = none) (s x : Operand)
    (ho : o.op = .call { callee := .builtin .append, args := #[s, x], argTypes := #[23, 23] })
    (B : Nat) (W : World) (v : Value) (l : List Sx) (hown : OwnX 38 W B v l) (nm : List UInt8) (hs : a.eval s = v) (q c : Nat)
    (hx : a.eval x = .slice (some ⟨q, 0, none⟩) 1 c) (hq : ∀ j u, (Sx.cells ⟨nm, .slice none 0 0, []⟩)[j]? = some u → W.cell? ⟨q, j, none⟩ = some u) (hlen : l.length ≤ 100000) (hB : B ≤ W.heap.size)
    (h : ∀ v' w', OwnX 38 w' B v' (l ++ [⟨nm, .slice none 0 0, []⟩]) → W.grownBy w' v.ownBlock → (v'.ownBlock = v.ownBlock ∨ v'.ownBlock = some W.heap.size) → wpList Tryd.prog ops Q rest (a.put o.dst v') w') :
    wpList Tryd.prog ops Q (o :: rest) a W := by
  obtain ⟨i, hi, hz0, hz1, hz2⟩ := info_parts infoX
  obtain ⟨v', w', hr, h2, h3, h4, h5⟩ := run_append_own_at (P := Tryd.prog) W B 23 o.type 38 i _ 2 40 Tryd.underlying23 hi hz0 hz1 hz2 rfl (by decide) v l.length (flatX l) hown ⟨q, 0, none⟩ 1 c (Sx.cells ⟨nm, .slice none 0 0, []⟩) rfl
    (fun j u hj => by rw [add_at, Nat.zero_add]; exact hq j u hj) (fun u hu => by simp only [Sx.cells, List.mem_cons, List.not_mem_nil, or_false] at hu; rcases hu with rfl | rfl <;> rfl) (by unfold maxLen; omega) (by omega) hB
  refine wpList_plain hgd fun _ hK => ?_
  unfold Oper.wp execOp
  simp only [ho, resolve, invoke, builtin, Sem.run_bind, Sem.run_pure, Result.andThen_ok, List.map_toArray, List.map_cons, List.map_nil, hs, hx, hr]
  refine hK _ _ (h v' w' ?_ h3 h5)
  unfold OwnX
  rw [List.length_append, flatX_app]
  simpa [flatX] using h2
end Go.Proofs.YtmcefflgbliehaaDoor
