
/-
  Layer 10 (syms): symbols that came in, in memory.
-/
import Derived.Test.YtnmohnbfnmhdlaaSyM
import Derived.Deep.MidRow
import Derived.Deep.Slices
import Derived.ChangeSlices
import Derived.ProofKit
set_option linter.unusedVariables false
namespace Go.Proofs.Ytnmohnbfnmhdlaa
open Go.RowKit Go.PlainAid
/-- One symbol, from p on in block y. -/
structure IsSy (w : World) (y p : Nat) (s : Sy) : Prop where
  c0 : w.cell? ⟨y, p, none⟩ = some (.string ⟨s.name.toArray⟩)
  c1 : w.cell? ⟨y, p + 1, none⟩ = some (.string ⟨s.ver.toArray⟩)
  c2 : w.cell? ⟨y, p + 2, none⟩ = some (.bool s.hidden)
  c3 : w.cell? ⟨y, p + 3, none⟩ = some (.int .i64 s.bind)
  c4 : w.cell? ⟨y, p + 4, none⟩ = some (.bool s.defined)
  c5 : w.cell? ⟨y, p + 5, none⟩ = some (.int .u64 s.value)
  c6 : w.cell? ⟨y, p + 6, none⟩ = some (.int .u64 s.size)
structure OkSy (s : Sy) : Prop where
  n : s.name.length ≤ maxLen
  v : s.ver.length ≤ maxLen
  b0 : -9223372036854775808 ≤ s.bind
  b1 : s.bind ≤ 9223372036854775807
  val : (s.value : Int) ≤ 18446744073709551615
  size : (s.size : Int) ≤ 18446744073709551615
/-- The slice from a on holds the symbols l. -/
def SymsAt (w : World) (a : Option Addr) (l : List Sy) : Prop :=
  (∀ s ∈ l, OkSy s) ∧ (l = [] ∨ ∃ y o, a = some ⟨y, o, none⟩ ∧ ∀ i (h : i < l.length), IsSy w y (o + i * 7) l[i])
theorem IsSy.below {w w' : World} {y p : Nat} {s : Sy} {B : Nat} (h : IsSy w y p s) (hb : Below B w w') (hy : y < B) : IsSy w' y p s := by
  have k : ∀ q v, w.cell? ⟨y, q, none⟩ = some v → w'.cell? ⟨y, q, none⟩ = some v := fun q v e => by rw [hb.cell (p := ⟨y, q, none⟩) hy]; exact e
  exact ⟨k _ _ h.c0, k _ _ h.c1, k _ _ h.c2, k _ _ h.c3, k _ _ h.c4, k _ _ h.c5, k _ _ h.c6⟩
theorem IsSy.lt {w : World} {y p : Nat} {s : Sy} (h : IsSy w y p s) : y < w.heap.size := World.block_lt_of_cell? _ _ h.c0
theorem SymsAt.below {w w' : World} {a : Option Addr} {l : List Sy} (h : SymsAt w a l) (hb : Below w.heap.size w w') : SymsAt w' a l := by
  obtain ⟨h1, h2⟩ := h
  refine ⟨h1, ?_⟩
  rcases h2 with h2 | ⟨y, o, e, h2⟩
  · exact .inl h2
  · exact .inr ⟨y, o, e, fun i hi => (h2 i hi).below hb (h2 i hi).lt⟩
theorem SymsAt.at {w : World} {a : Option Addr} {l : List Sy} (h : SymsAt w a l) (i : Nat) (hi : i < l.length) : ∃ y o, a = some ⟨y, o, none⟩ ∧ IsSy w y (o + i * 7) l[i] ∧ OkSy l[i] := by
  obtain ⟨h1, h2⟩ := h
  rcases h2 with rfl | ⟨y, o, e, h2⟩
  · simp at hi
  · exact ⟨y, o, e, h2 i hi, h1 _ (List.getElem_mem hi)⟩
theorem seven {l : List Value} (h : l.length = 7) : ∃ a b c d e f g, l = [a, b, c, d, e, f, g] := by
  match l, h with
  | [a, b, c, d, e, f, g], _ => exact ⟨a, b, c, d, e, f, g, rfl⟩
theorem cells7 : Try.prog.cellsOf 60 = 7 := by kernel_rfl
theorem cellsS : Try.prog.cellsOf 9 = 1 := by kernel_rfl
theorem cellsO : Try.prog.cellsOf 4 = 1 := by kernel_rfl
theorem cellsI : Try.prog.cellsOf 3 = 1 := by kernel_rfl
theorem cellsU : Try.prog.cellsOf 29 = 1 := by kernel_rfl
theorem wf_i64 {n : Int} (h : (Lit.int .i64 n).wf = true) : -9223372036854775808 ≤ n ∧ n ≤ 9223372036854775807 := by
  have a : IntKind.i64.min = -9223372036854775808 := rfl
  have b : IntKind.i64.max = 9223372036854775807 := rfl
  simp [Lit.wf] at h
  omega
theorem wf_u64 {n : Int} (h : (Lit.int .u64 n).wf = true) : 0 ≤ n ∧ n ≤ 18446744073709551615 := by
  have a : IntKind.u64.min = 0 := rfl
  have b : IntKind.u64.max = 18446744073709551615 := rfl
  simp [Lit.wf] at h
  omega
theorem ba_list (s : ByteArray) : s = ⟨s.data.toList.toArray⟩ := by cases s; simp
theorem ba_len (s : ByteArray) : s.data.toList.length = s.size := by cases s; simp [ByteArray.size]
section
variable {H : Type} {enc : TypeId × Value → H}
theorem sy_of {W : World} {cs : List Value} {x : DataW H × List MemPlace} {fuel : Nat} (h2 : DataW.trod enc Try.prog W 0 (fun _ => true) true fuel 60 cs = some x) :
    ∃ s : Sy, cs = s.cells ∧ OkSy s := by
  obtain ⟨xs, n, _, rfl, hlen, hl4, hf⟩ := DataW.trod_struct Try.underlying60 h2
  rw [cells7] at hlen
  obtain ⟨v0, v1, v2, v3, v4, v5, v6, rfl⟩ := seven hlen
  match xs, hl4 with
  | [y0, y1, y2, y3, y4, y5, y6], _ =>
    have g0 : DataW.trod enc Try.prog W 0 (fun _ => true) true n 9 [v0] = some y0 := by have := hf 0 _ rfl; simpa [cellsS] using this
    have g1 : DataW.trod enc Try.prog W 0 (fun _ => true) true n 9 [v1] = some y1 := by have := hf 1 _ rfl; simpa [cellsS] using this
    have g2 : DataW.trod enc Try.prog W 0 (fun _ => true) true n 4 [v2] = some y2 := by have := hf 2 _ rfl; simpa [cellsO] using this
    have g3 : DataW.trod enc Try.prog W 0 (fun _ => true) true n 3 [v3] = some y3 := by have := hf 3 _ rfl; simpa [cellsI] using this
    have g4 : DataW.trod enc Try.prog W 0 (fun _ => true) true n 4 [v4] = some y4 := by have := hf 4 _ rfl; simpa [cellsO] using this
    have g5 : DataW.trod enc Try.prog W 0 (fun _ => true) true n 29 [v5] = some y5 := by have := hf 5 _ rfl; simpa [cellsU] using this
    have g6 : DataW.trod enc Try.prog W 0 (fun _ => true) true n 29 [v6] = some y6 := by have := hf 6 _ rfl; simpa [cellsU] using this
    obtain ⟨s0, q0, _, hs0⟩ := DataW.trod_string Try.underlying9 g0
    obtain ⟨s1, q1, _, hs1⟩ := DataW.trod_string Try.underlying9 g1
    obtain ⟨b2, q2, _⟩ := DataW.trod_bool Try.underlying4 g2
    obtain ⟨k3, q3, _, w3⟩ := DataW.trod_int Try.underlying3 g3
    obtain ⟨b4, q4, _⟩ := DataW.trod_bool Try.underlying4 g4
    obtain ⟨k5, q5, _, w5⟩ := DataW.trod_int Try.underlying29 g5
    obtain ⟨k6, q6, _, w6⟩ := DataW.trod_int Try.underlying29 g6
    simp only [List.cons.injEq, and_true] at q0 q1 q2 q3 q4 q5 q6
    subst q0 q1 q2 q3 q4 q5 q6
    have e3 := wf_i64 w3
    have e5 := wf_u64 w5
    have e6 := wf_u64 w6
    obtain ⟨n5, rfl⟩ := Int.eq_ofNat_of_zero_le e5.1
    obtain ⟨n6, rfl⟩ := Int.eq_ofNat_of_zero_le e6.1
    refine ⟨⟨s0.data.toList, s1.data.toList, b2, k3, b4, n5, n6⟩, ?_, ?_⟩
    · simp [Sy.cells]
    · exact ⟨by rw [ba_len]; exact hs0, by rw [ba_len]; exact hs1, e3.1, e3.2, e5.2, e6.2⟩
def IsSyms (w : World) (a : Option Addr) (len cap : Nat) : Prop :=
  len ≤ cap ∧ cap ≤ maxLen ∧ (a = none → cap = 0) ∧ ∃ l : List Sy, l.length = len ∧ SymsAt w a l
theorem list_of {P : Nat → Sy → Prop} : ∀ (n : Nat), (∀ i, i < n → ∃ s, P i s) → ∃ l : List Sy, l.length = n ∧ ∀ i (h : i < l.length), P i l[i]
  | 0, _ => ⟨[], rfl, fun i h => by simp at h⟩
  | n + 1, h => by
    obtain ⟨l, h1, h2⟩ := list_of n (fun i hi => h i (by omega))
    obtain ⟨s, hs⟩ := h n (by omega)
    refine ⟨l ++ [s], by simp [h1], fun i hi => ?_⟩
    by_cases e : i < l.length
    · rw [List.getElem_append_left e]; exact h2 i e
    · have : i = n := by simp at hi; omega
      subst this
      rw [List.getElem_append_right (by omega)]
      simpa [h1] using hs
theorem isOps_of {W : World} {s : Option Addr} {len cap : Nat} {d : DataW H} {p : List MemPlace}
    (h : DataW.Trod enc Try.prog W 0 (fun _ => true) true 43 (.slice s len cap) d p) : IsSyms W s len cap := by
  obtain ⟨fuel, hf⟩ := h
  rcases Go.Deep.open_slice Try.underlying43 hf with ⟨hcs, _⟩ | ⟨a, l, c, m, n, D, Pl, hcs, _, hl, hm, hmm, _, hx⟩
  · simp [Value.cells] at hcs
    obtain ⟨rfl, rfl, rfl⟩ := hcs
    exact ⟨by omega, by simp, fun _ => rfl, [], rfl, fun s hs => by simp at hs, .inl rfl⟩
  · simp [Value.cells] at hcs
    obtain ⟨rfl, rfl, rfl⟩ := hcs
    refine ⟨hl, hm, fun e => by simp at e, ?_⟩
    by_cases h0 : len = 0
    · exact ⟨[], h0.symm, fun s hs => by simp at hs, .inl rfl⟩
    · obtain ⟨y, o, spot⟩ := a
      have hread : ∀ i, i < len → ∃ (f : Sy) (cs' : List Value), cs' = f.cells ∧ OkSy f ∧ ∀ j, j < 7 → W.cell? (((⟨y, o, spot⟩ : Addr).add (i * 7)).add j) = cs'[j]? := by
        intro i hi
        obtain ⟨cs', h1, h2⟩ := hx i (by rw [hmm]; simp; omega)
        rw [cells7] at h1
        obtain ⟨_, hlen, hcell⟩ := World.cells?_some h1
        obtain ⟨f, e, h3⟩ := sy_of h2
        exact ⟨f, cs', e, h3, fun j hj => hcell j hj⟩
      have hspot : spot = none := by
        obtain ⟨f, cs', e, _, hc⟩ := hread 0 (by omega)
        have := hc 0 (by omega)
        rw [e] at this
        simpa [Addr.add] using World.cell?_spot this
      subst hspot
      obtain ⟨L, hL, hP⟩ := list_of (P := fun i f => IsSy W y (o + i * 7) f ∧ OkSy f) len (fun i hi => by
        obtain ⟨f, cs', e, h3, hc⟩ := hread i hi
        subst e
        have hc' : ∀ j, j < 7 → W.cell? ⟨y, o + i * 7 + j, none⟩ = f.cells[j]? := by
          intro j hj
          have := hc j hj
          rw [Addr.add_mid, Addr.add_mid] at this
          exact this
        exact ⟨f, ⟨hc' 0 (by omega), hc' 1 (by omega), hc' 2 (by omega), hc' 3 (by omega), hc' 4 (by omega), hc' 5 (by omega), hc' 6 (by omega)⟩, h3⟩)
      refine ⟨L, hL, fun s hs => ?_, .inr ⟨y, o, rfl, fun i hi => (hP i hi).1⟩⟩
      obtain ⟨j, hj, rfl⟩ := List.mem_iff_getElem.1 hs
      exact (hP j hj).2
end
end Go.Proofs.Ytnmohnbfnmhdlaa
