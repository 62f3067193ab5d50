
/-
  Two plays side by side: what a call of one leaves of the other.
-/
import Derived.Test.YtdecbnmibjcnaaaVmQe
import Derived.Test.YtdecbnmibjcnaaaVmPi
set_option linter.unusedVariables false
namespace Go.Proofs.Ytdecbnmibjcnaaa
open Go.RowKit Go.PlainAid
theorem PlayAt.turnF {w W W' : World} {S : Nat} {v : Value} {sp : Sp} {vr : Value} {rs : List Nat} {F : Nat → Prop} (h : PlayAt w W S v sp vr rs) (ht : Turn F W W') (hF : ∀ k ∈ foot S v sp.rooms, ¬ F k) (hv : ∀ g, vr.ownBlock = some g → ¬ F g) (hw : ∀ k, F k → w.heap.size ≤ k) : PlayAt w W' S v sp vr rs :=
  ⟨⟨h.spn.at_.turn ht hF, h.spn.new, h.spn.below.trans (ht.below h.spn.below.size hw)⟩, h.ok, h.own.turn ht hv, h.ap⟩
/-- Two plays that have no block in common. -/
structure Duo (w W : World) (S T : Nat) (va vb : Value) (sp sp' : Sp) (vx vy : Value) (xs ys : List Nat) : Prop where
  pa : PlayAt w W S va sp vx xs
  pb : PlayAt w W T vb sp' vy ys
  ap : ∀ k ∈ foot S va sp.rooms, k ∉ foot T vb sp'.rooms
  xb : ∀ g, vx.ownBlock = some g → g ∉ foot T vb sp'.rooms
  ya : ∀ g, vy.ownBlock = some g → g ∉ foot S va sp.rooms
  xy : ∀ g, vx.ownBlock = some g → vy.ownBlock ≠ some g
theorem Duo.swap {w W : World} {S T : Nat} {va vb : Value} {sp sp' : Sp} {vx vy : Value} {xs ys : List Nat} (h : Duo w W S T va vb sp sp' vx vy xs ys) : Duo w W T S vb va sp' sp vy vx ys xs :=
  ⟨h.pb, h.pa, fun k hk hm => h.ap k hm hk, h.ya, h.xb, fun g hg e => h.xy g e hg⟩
theorem Duo.stay {w W W' : World} {S T : Nat} {va vb : Value} {sp sp' : Sp} {vx vy : Value} {xs ys : List Nat} (h : Duo w W S T va vb sp sp' vx vy xs ys) (hb : Below W.heap.size W W') : Duo w W' S T va vb sp sp' vx vy xs ys :=
  ⟨h.pa.stay hb, h.pb.stay hb, h.ap, h.xb, h.ya, h.xy⟩
/-- A call on the first one. -/
theorem Duo.done {w W W' : World} {S T : Nat} {va va' vb : Value} {sp sp1 sp' : Sp} {vx vy : Value} {xs ys : List Nat} (h : Duo w W S T va vb sp sp' vx vy xs ys) (hp : PlayAt w W' S va' sp1 vx xs) (ht : Turn (· ∈ foot S va sp.rooms) W W') (hf : ∀ k ∈ foot S va' sp1.rooms, k ∈ foot S va sp.rooms ∨ W.heap.size ≤ k) : Duo w W' S T va' vb sp1 sp' vx vy xs ys := by
  refine ⟨hp, h.pb.turnF ht (fun k hk hm => h.ap k hm hk) h.ya (fun k hk => h.pa.spn.new k hk), fun k hk hm => ?_, h.xb, fun g hg hm => ?_, h.xy⟩
  · rcases hf k hk with e | e
    · exact h.ap k e hm
    · have := h.pb.spn.at_.foot_lt k hm; omega
  · rcases hf g hm with e | e
    · exact h.ya g hg e
    · have := (World.ownsRow.lt h.pb.own g hg).2; omega
/-- Something else is turned. -/
theorem Duo.turn {w W W' : World} {S T : Nat} {va vb : Value} {sp sp' : Sp} {vx vy : Value} {xs ys : List Nat} {F : Nat → Prop} (h : Duo w W S T va vb sp sp' vx vy xs ys) (ht : Turn F W W') (hw : ∀ k, F k → w.heap.size ≤ k) (h1 : ∀ k ∈ foot S va sp.rooms, ¬ F k) (h2 : ∀ k ∈ foot T vb sp'.rooms, ¬ F k) (h3 : ∀ g, vx.ownBlock = some g → ¬ F g) (h4 : ∀ g, vy.ownBlock = some g → ¬ F g) : Duo w W' S T va vb sp sp' vx vy xs ys :=
  ⟨h.pa.turnF ht h1 h3 hw, h.pb.turnF ht h2 h4 hw, h.ap, h.xb, h.ya, h.xy⟩
/-- A beginning more in the first row. -/
theorem Duo.append {w W W' : World} {S T : Nat} {va vb : Value} {sp sp' : Sp} {vx vx' vy : Value} {xs xs' ys : List Nat} (h : Duo w W S T va vb sp sp' vx vy xs ys) (h1 : OwnU W' w.heap.size vx' xs') (h2 : ∀ g, vx'.ownBlock = some g → Same W vx.ownBlock g) (h3 : W.grownBy W' vx.ownBlock) : Duo w W' S T va vb sp sp' vx' vy xs' ys := by
  have ht : Turn (fun k => vx.ownBlock = some k) W W' := ⟨h3.os, h3.tape, h3.output, h3.size, fun k hk hne => h3.block k hk (fun e => hne e.symm)⟩
  refine ⟨h.pa.append h1 h2 h3, h.pb.turnF ht (fun k hk e => h.xb k e hk) (fun g hg e => h.xy g e hg) (fun k hk => (World.ownsRow.lt h.pa.own k hk).1), h.ap, fun g hg hm => ?_, h.ya, fun g hg e => ?_⟩
  · rcases h2 g hg with e | e
    · exact h.xb g e hm
    · have := h.pb.spn.at_.foot_lt g hm; omega
  · rcases h2 g hg with e2 | e2
    · exact h.xy g e2 e
    · have := (World.ownsRow.lt h.pb.own g e).2; omega
end Go.Proofs.Ytdecbnmibjcnaaa
