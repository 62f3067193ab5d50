
/-
  What VmemKeeps carries from call to call.
-/
import Derived.Test.YtdecbnmibjcnaaaVmPh
set_option linter.unusedVariables false
namespace Go.Proofs.Ytdecbnmibjcnaaa
open Go.RowKit Go.PlainAid
theorem OwnP.turn {w w' : World} {B : Nat} {v : Value} {l : List Pg} {F : Nat → Prop} (h : OwnP w B v l) (ht : Turn F w w') (hF : ∀ g, v.ownBlock = some g → ¬ F g) : OwnP w' B v l := by
  refine ⟨h.1, ?_⟩
  rcases h.2 with hn | ⟨g, cap, cur, rfl, hB, hg, rest⟩
  · exact .inl hn
  · exact .inr ⟨g, cap, cur, rfl, hB, by rw [ht.block g (Array.getElem?_eq_some_iff.1 hg).1 (hF g rfl)]; exact hg, rest⟩
theorem OwnP.stay {w w' : World} {B : Nat} {v : Value} {l : List Pg} (h : OwnP w B v l) (hb : Below w.heap.size w w') : OwnP w' B v l := h.turn (F := fun _ => False) (Turn.of_below hb) (fun _ _ => id)
theorem doO_room (sp : Sp) (x : OpN) (rs : List Nat) (hint : Nat) (h : (doO sp x rs hint).room = true) : (doO sp x rs hint).e = 0 := by
  unfold doO at h ⊢
  generalize kindN x.kind = k at *
  match k with
  | 0 | 1 => exact eq_of_beq h
  | 2 | 3 => cases h
  | 4 => cases h
  | 5 => cases h
  | 6 => cases h
  | 7 | 8 => cases h
  | 9 => cases h
  | k + 10 => cases h
theorem pgs_top {sp : Sp} (hk : sp.ok) : (pgsOf sp.rooms).length ≤ 1024 ∧ (∀ a ∈ pgsOf sp.rooms, a.pos ≤ 1099511627776) ∧ ∀ a ∈ pgsOf sp.rooms, a.data.length = 256 := by
  refine ⟨?_, fun a ha => ?_, fun a ha => ?_⟩
  · have := pgsOf_len sp.rooms
    have := hk.use
    have := hk.b1
    omega
  · obtain ⟨r, hr, _, h2, _⟩ := pgsOf_mem ha
    have := (hk.each r hr).top
    omega
  · obtain ⟨r, hr, _, _, _, s, hs, e⟩ := pgsOf_mem ha
    rw [e]
    exact ((hk.each r hr).each s hs).len
theorem pages_true (w : World) (va vb : Value) (Ba Bb : Nat) (sp sp' : Sp) (hk : sp.ok) (hk' : sp'.ok) (hA : OwnP w Ba va (pgsOf sp.rooms)) (hB : OwnP w Bb vb (pgsOf sp'.rooms)) (p n : Nat) (hp : (p : Int) ≤ 18446744073709551615) (hs : Sides p n (pgsOf sp.rooms) (pgsOf sp'.rooms)) :
    Calls Try.prog 22 #[va, vb, .int .u64 p, .int .u64 n] w fun e w' => e = .returned (.bool true) ∧ Below w.heap.size w w' :=
  law_pages w va vb _ _ (hA.row (pgs_top hk).2.2) (hB.row (pgs_top hk').2.2) p n hp hs.len (pgs_top hk).1 (pgs_top hk).2.1 hs.get
def PlayJ (w wr : World) (S : Nat) (vr : Value) (i : Nat) : Prop := ∃ v sp rs, PlayAt w wr S v sp vr rs ∧ rs.length ≤ i
/-- Behind a call: the play, the pages as they were, the answer's box. -/
structure Aft (w W : World) (S : Nat) (v : Value) (sp : Sp) (vr : Value) (rs : List Nat) (vp : Value) (B : Nat) (sp0 : Sp) (bx : Nat) (O : Out) : Prop where
  play : PlayAt w W S v sp vr rs
  was : OwnP W B vp (pgsOf sp0.rooms)
  lo : ∀ g, vr.ownBlock = some g → g < B
  q0 : W.cell? ⟨bx, 0, none⟩ = some (.int .i64 O.e)
  q2 : W.cell? ⟨bx, 2, none⟩ = some (.int .u64 O.at_)
  q3 : W.cell? ⟨bx, 3, none⟩ = some (.bool O.room)
  bv : vr.ownBlock ≠ some bx
theorem Aft.append {w W W' : World} {S : Nat} {v : Value} {sp : Sp} {vr vr' : Value} {rs rs' : List Nat} {vp : Value} {B : Nat} {sp0 : Sp} {bx : Nat} {O : Out} (h : Aft w W S v sp vr rs vp B sp0 bx O) (h1 : OwnU W' w.heap.size vr' rs') (h2 : ∀ g, vr'.ownBlock = some g → Same W vr.ownBlock g) (h3 : W.grownBy W' vr.ownBlock) :
    PlayAt w W' S v sp vr' rs' ∧ W'.cell? ⟨bx, 0, none⟩ = some (.int .i64 O.e) := by
  refine ⟨h.play.append h1 h2 h3, ?_⟩
  have ht : Turn (fun k => vr.ownBlock = some k) W W' := ⟨h3.os, h3.tape, h3.output, h3.size, fun k hk hne => h3.block k hk (fun e => hne e.symm)⟩
  exact ht.cell (p := ⟨bx, 0, none⟩) h.bv h.q0
end Go.Proofs.Ytdecbnmibjcnaaa
