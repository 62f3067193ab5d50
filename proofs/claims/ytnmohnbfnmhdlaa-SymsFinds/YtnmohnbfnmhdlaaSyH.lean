
/-
  Layer 10 (syms): what is asked, as it came in; small facts on what is found.
-/
import Derived.Test.YtnmohnbfnmhdlaaSyG
set_option linter.unusedVariables false
namespace Go.Proofs.Ytnmohnbfnmhdlaa
open Go.RowKit Go.PlainAid Go.Sort
structure Ak where
  vs : Bool
  nm : List UInt8
  ver : List UInt8
  at_ : Nat
structure OkAk (x : Ak) : Prop where
  n : x.nm.length ≤ maxLen
  v : x.ver.length ≤ maxLen
  a : (x.at_ : Int) ≤ 18446744073709551615
theorem four {l : List Value} (h : l.length = 4) : ∃ a b c d, l = [a, b, c, d] := by
  match l, h with
  | [a, b, c, d], _ => exact ⟨a, b, c, d, rfl⟩
theorem cellsA : Try.prog.cellsOf 52 = 4 := by kernel_rfl
section
variable {H : Type} {enc : TypeId × Value → H}
theorem opAgg_of {W : World} {cs : Array Value} {d : DataW H} {p : List MemPlace}
    (h : DataW.Trod enc Try.prog W 0 (fun _ => true) true 52 (.agg cs) d p) : ∃ (x : Ak) (u : Unit), cs = #[.bool x.vs, .string ⟨x.nm.toArray⟩, .string ⟨x.ver.toArray⟩, .int .u64 x.at_] ∧ OkAk x ∧ True := by
  obtain ⟨fuel, h2⟩ := h
  have h2 : DataW.trod enc Try.prog W 0 (fun _ => true) true fuel 52 cs.toList = some (d, p) := h2
  obtain ⟨xs, n, _, _, hlen, hl4, hf⟩ := DataW.trod_struct Try.underlying52 h2
  rw [cellsA] at hlen
  obtain ⟨v0, v1, v2, v3, hcs⟩ := four hlen
  rw [hcs] at hf
  match xs, hl4 with
  | [y0, y1, y2, y3], _ =>
    have g0 : DataW.trod enc Try.prog W 0 (fun _ => true) true n 4 [v0] = some y0 := by have := hf 0 _ rfl; simpa [cellsO] using this
    have g1 : DataW.trod enc Try.prog W 0 (fun _ => true) true n 9 [v1] = some y1 := by have := hf 1 _ rfl; simpa [cellsS] using this
    have g2 : DataW.trod enc Try.prog W 0 (fun _ => true) true n 9 [v2] = some y2 := by have := hf 2 _ rfl; simpa [cellsS] using this
    have g3 : DataW.trod enc Try.prog W 0 (fun _ => true) true n 29 [v3] = some y3 := by have := hf 3 _ rfl; simpa [cellsU] using this
    obtain ⟨b0, q0, _⟩ := DataW.trod_bool Try.underlying4 g0
    obtain ⟨s1, q1, _, hs1⟩ := DataW.trod_string Try.underlying9 g1
    obtain ⟨s2, q2, _, hs2⟩ := DataW.trod_string Try.underlying9 g2
    obtain ⟨k3, q3, _, w3⟩ := DataW.trod_int Try.underlying29 g3
    simp only [List.cons.injEq, and_true] at q0 q1 q2 q3
    subst q0 q1 q2 q3
    have e3 := wf_u64 w3
    obtain ⟨n3, rfl⟩ := Int.eq_ofNat_of_zero_le e3.1
    refine ⟨⟨b0, s1.data.toList, s2.data.toList, n3⟩, (), ?_, ⟨by rw [ba_len]; exact hs1, by rw [ba_len]; exact hs2, e3.2⟩, trivial⟩
    apply Array.toList_inj.1
    rw [hcs]
end
theorem okS_parts {vs : Bool} {nm ver : List UInt8} {s : Sy} (h : okS vs nm ver s = true) : s.name = nm ∧ s.defined = true ∧ (s.bind != 0) = true := by
  unfold okS had at h
  simp only [Bool.and_eq_true] at h
  obtain ⟨⟨⟨h1, h2⟩, h3⟩, _⟩ := h
  exact ⟨by simpa using h3, h1, h2⟩
theorem find_one (vs : Bool) (nm ver : List UInt8) (s : Sy) : findS vs nm ver [s] = if okS vs nm ver s = true then 0 else -1 := by
  cases h : okS vs nm ver s
  · rw [findS_none (fun j hj => by
      have : j = 0 := by simpa using hj
      subst this; exact h)]
    simp
  · rw [findS_hit (i := 0) (by simp) h (fun j hj h => by omega)]
    simp
theorem SymsAt.sub {w : World} {y o : Nat} {l : List Sy} (h : SymsAt w (some ⟨y, o, none⟩) l) (i : Nat) (hi : i < l.length) : SymsAt w (some ⟨y, o + i * 7, none⟩) [l[i]] := by
  obtain ⟨y', o', e, h1, h2⟩ := h.at i hi
  cases e
  refine ⟨fun s hs => ?_, .inr ⟨y, o + i * 7, rfl, fun j hj => ?_⟩⟩
  · have : s = l[i] := by simpa using hs
    rw [this]; exact h2
  · have : j = 0 := by simpa using hj
    subst this
    simpa using h1
/-- What is asked, boxed in block b. -/
structure AskAt (w : World) (b : Nat) (x : Ak) : Prop where
  c0 : w.cell? ⟨b, 0, none⟩ = some (.bool x.vs)
  c1 : w.cell? ⟨b, 1, none⟩ = some (.string ⟨x.nm.toArray⟩)
  c2 : w.cell? ⟨b, 2, none⟩ = some (.string ⟨x.ver.toArray⟩)
  c3 : w.cell? ⟨b, 3, none⟩ = some (.int .u64 x.at_)
theorem AskAt.lt {w : World} {b : Nat} {x : Ak} (h : AskAt w b x) : b < w.heap.size := World.block_lt_of_cell? _ _ h.c0
theorem AskAt.below {w w' : World} {b : Nat} {x : Ak} (h : AskAt w b x) (hb : Below w.heap.size w w') : AskAt w' b x := by
  have k : ∀ q v, w.cell? ⟨b, q, none⟩ = some v → w'.cell? ⟨b, q, none⟩ = some v := fun q v e => by rw [hb.cell (p := ⟨b, q, none⟩) h.lt]; exact e
  exact ⟨k _ _ h.c0, k _ _ h.c1, k _ _ h.c2, k _ _ h.c3⟩
theorem new_ask (w : World) (x : Ak) : AskAt (w.alloc (.cells #[.bool x.vs, .string ⟨x.nm.toArray⟩, .string ⟨x.ver.toArray⟩, .int .u64 x.at_] 52)) w.heap.size x := by
  have k := (MapKept.heap_alloc w (.cells #[.bool x.vs, .string ⟨x.nm.toArray⟩, .string ⟨x.ver.toArray⟩, .int .u64 x.at_] 52)).1
  constructor <;> (unfold World.cell?; rw [k]; rfl)
end Go.Proofs.Ytnmohnbfnmhdlaa
