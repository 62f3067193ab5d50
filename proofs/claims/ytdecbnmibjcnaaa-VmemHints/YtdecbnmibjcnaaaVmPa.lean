
/-
  What the walk is told of a row of calls that comes in; big keeps its contract.
-/
import Derived.Test.YtdecbnmibjcnaaaVmOk
import Derived.Deep.Slices
import Derived.Lib.SmallJoins
import Derived.ChangeSlices
import Derived.ProofKit
import Derived.OpenShut
set_option linter.unusedVariables false
namespace Go.Proofs.Ytdecbnmibjcnaaa
open Go.RowKit Go.PlainAid Go.ChangeShapes Go.WideShapes
variable {H : Type} {enc : TypeId × Value → H} {P : Program} {w : World} {base : Nat} {spare : DataW H → Bool} {held : Bool}
/-- One call that came in, from p on in block y. -/
structure IsOp7 (w : World) (y p : Nat) (x : OpN) (vd : Value) : Prop where
  c0 : w.cell? ⟨y, p, none⟩ = some (.int .i64 x.kind)
  c1 : w.cell? ⟨y, p + 1, none⟩ = some (.int .i64 x.room)
  c2 : w.cell? ⟨y, p + 2, none⟩ = some (.int .u64 x.off)
  c3 : w.cell? ⟨y, p + 3, none⟩ = some (.int .u64 x.size)
  c4 : w.cell? ⟨y, p + 4, none⟩ = some (.int .i64 x.prot)
  c5 : w.cell? ⟨y, p + 5, none⟩ = some (.int .u64 x.hint)
  c6 : w.cell? ⟨y, p + 6, none⟩ = some vd
  ok : x.data.length ≤ 2048 → x.ok
  src : Src w (fun _ => False) vd x.data
def IsOps (w : World) (a : Option Addr) (len cap : Nat) : Prop :=
  len ≤ cap ∧ cap ≤ maxLen ∧ (len = 0 ∨ ∃ y o, a = some ⟨y, o, none⟩ ∧ ∀ i, i < len → ∃ x vd, IsOp7 w y (o + i * 7) x vd)
theorem seven {l : List Value} (h : l.length = 7) : ∃ a b c d e f g, l = [a, b, c, d, e, f, g] := by
  match l, h with
  | [a, b, c, d, e, f, g], _ => exact ⟨a, b, c, d, e, f, g, rfl⟩
theorem cells7 : Try.prog.cellsOf 46 = 7 := by kernel_rfl
theorem cellsI : Try.prog.cellsOf 3 = 1 := by kernel_rfl
theorem cellsU : Try.prog.cellsOf 23 = 1 := by kernel_rfl
theorem cellsB : Try.prog.cellsOf 44 = 1 := by kernel_rfl
theorem wf_u8 {n : Int} (h : (Lit.int .u8 n).wf = true) : 0 ≤ n ∧ n ≤ 255 := by
  have a : IntKind.u8.min = 0 := rfl
  have b : IntKind.u8.max = 255 := rfl
  simp [Lit.wf] at h
  omega
theorem wf_u64 {n : Int} (h : (Lit.int .u64 n).wf = true) : 0 ≤ n ∧ n ≤ 18446744073709551615 := by
  have a : IntKind.u64.min = 0 := rfl
  have b : IntKind.u64.max = 18446744073709551615 := rfl
  simp [Lit.wf] at h
  omega
theorem wf_i64 {n : Int} (h : (Lit.int .i64 n).wf = true) : -9223372036854775808 ≤ n ∧ n ≤ 9223372036854775807 := by
  have a : IntKind.i64.min = -9223372036854775808 := rfl
  have b : IntKind.i64.max = 9223372036854775807 := rfl
  simp [Lit.wf] at h
  omega
theorem src_row {w : World} {x : Addr} {len cap : Nat} {zs : List Int} (h1 : len ≤ cap) (h2 : cap ≤ maxLen) (h3 : zs.length = cap) (hc : ∀ i, i < zs.length → w.cell? (x.add i) = some (.int .u8 (zs.getD i 0))) (hw : ∀ n ∈ zs, (Lit.int .u8 n).wf = true) :
    ∃ d : List UInt8, d.length = len ∧ Src w (fun _ => False) (.slice (some x) len cap) d := by
  have hll : ((zs.take len).map fun z => b8 z.toNat).length = len := by simp; omega
  refine ⟨(zs.take len).map fun z => b8 z.toNat, hll, some x, cap, by rw [hll], by omega, h2, .inr ⟨x, rfl, .inr id, fun j hj => ?_⟩⟩
  rw [hll] at hj
  have hjz : j < zs.length := by omega
  have hb := wf_u8 (hw (zs.getD j 0) (by rw [List.getD, List.getElem?_eq_getElem hjz]; simp))
  rw [hc j hjz]
  have e2 : (((zs.take len).map fun z => b8 z.toNat)[j]'(by omega)) = b8 (zs.getD j 0).toNat := by
    simp [List.getD, List.getElem?_eq_getElem hjz]
  rw [e2, b8_toNat (by omega)]
  congr 2
  omega
theorem op_of {W : World} {cs : List Value} {x : DataW H × List MemPlace} {fuel : Nat} (h2 : DataW.trod enc Try.prog W 0 (fun _ => true) true fuel 46 cs = some x) :
    ∃ (op : OpN) (vd : Value), cs = [.int .i64 op.kind, .int .i64 op.room, .int .u64 op.off, .int .u64 op.size, .int .i64 op.prot, .int .u64 op.hint, vd] ∧ (op.data.length ≤ 2048 → op.ok) ∧ Src W (fun _ => False) vd op.data := by
  obtain ⟨xs, n, _, rfl, hlen, hl7, hf⟩ := DataW.trod_struct Try.underlying46 h2
  rw [cells7] at hlen
  obtain ⟨v0, v1, v2, v3, v4, v5, v6, rfl⟩ := seven hlen
  match xs, hl7 with
  | [y0, y1, y2, y3, y4, y5, y6], _ =>
    have g0 : DataW.trod enc Try.prog W 0 (fun _ => true) true n 3 [v0] = some y0 := by have := hf 0 _ rfl; simpa [cellsI] using this
    have g1 : DataW.trod enc Try.prog W 0 (fun _ => true) true n 3 [v1] = some y1 := by have := hf 1 _ rfl; simpa [cellsI] using this
    have g2 : DataW.trod enc Try.prog W 0 (fun _ => true) true n 23 [v2] = some y2 := by have := hf 2 _ rfl; simpa [cellsU] using this
    have g3 : DataW.trod enc Try.prog W 0 (fun _ => true) true n 23 [v3] = some y3 := by have := hf 3 _ rfl; simpa [cellsU] using this
    have g4 : DataW.trod enc Try.prog W 0 (fun _ => true) true n 3 [v4] = some y4 := by have := hf 4 _ rfl; simpa [cellsI] using this
    have g5 : DataW.trod enc Try.prog W 0 (fun _ => true) true n 23 [v5] = some y5 := by have := hf 5 _ rfl; simpa [cellsU] using this
    have g6 : DataW.trod enc Try.prog W 0 (fun _ => true) true n 44 [v6] = some y6 := by have := hf 6 _ rfl; simpa [cellsB] using this
    obtain ⟨k0, q0, _, w0⟩ := DataW.trod_int Try.underlying3 g0
    obtain ⟨k1, q1, _, w1⟩ := DataW.trod_int Try.underlying3 g1
    obtain ⟨k2, q2, _, w2⟩ := DataW.trod_int Try.underlying23 g2
    obtain ⟨k3, q3, _, w3⟩ := DataW.trod_int Try.underlying23 g3
    obtain ⟨k4, q4, _, w4⟩ := DataW.trod_int Try.underlying3 g4
    obtain ⟨k5, q5, _, w5⟩ := DataW.trod_int Try.underlying23 g5
    simp only [List.cons.injEq, and_true] at q0 q1 q2 q3 q4 q5
    subst q0 q1 q2 q3 q4 q5
    have e2 := wf_u64 w2
    have e3 := wf_u64 w3
    have e5 := wf_u64 w5
    have e0 := wf_i64 w0
    have e1 := wf_i64 w1
    have e4 := wf_i64 w4
    have hd : ∃ d : List UInt8, Src W (fun _ => False) v6 d := by
      rcases Go.ChangeShapes.open_ints Try.underlying44 Try.underlying5 (by kernel_rfl) g6 with ⟨q6, _⟩ | ⟨x6, l6, c6, zs, q6, _, hl6, hm6, hz6, _, hcell6, hw6⟩
      · simp only [List.cons.injEq, and_true] at q6
        exact ⟨[], none, 0, q6, by simp, by simp, .inl ⟨rfl, rfl, rfl⟩⟩
      · simp only [List.cons.injEq, and_true] at q6
        obtain ⟨d, _, hd⟩ := src_row hl6 hm6 (by simpa using hz6) hcell6 hw6
        exact ⟨d, by rw [q6]; exact hd⟩
    obtain ⟨d, hd⟩ := hd
    refine ⟨⟨k0, k1, k2.toNat, k3.toNat, k4, k5.toNat, d⟩, v6, ?_, fun hd2 => ⟨e0.1, e0.2, e1.1, e1.2, ?_, ?_, e4.1, e4.2, ?_, hd2⟩, hd⟩
    · simp only [Int.toNat_of_nonneg e2.1, Int.toNat_of_nonneg e3.1, Int.toNat_of_nonneg e5.1]
    · rw [Int.toNat_of_nonneg e2.1]; exact e2.2
    · rw [Int.toNat_of_nonneg e3.1]; exact e3.2
    · rw [Int.toNat_of_nonneg e5.1]; exact e5.2
theorem isOps_of {W : World} {s : Option Addr} {len cap : Nat} {d : DataW H} {p : List MemPlace}
    (h : DataW.Trod enc Try.prog W 0 (fun _ => true) true 36 (.slice s len cap) d p) : IsOps W s len cap := by
  obtain ⟨fuel, hf⟩ := h
  rcases Go.Deep.open_slice Try.underlying36 hf with ⟨hcs, _⟩ | ⟨a, l, c, m, n, D, Pl, hcs, _, hl, hm, hmm, _, hx⟩
  · simp [Value.cells] at hcs
    obtain ⟨rfl, rfl, rfl⟩ := hcs
    exact ⟨by omega, by simp, .inl rfl⟩
  · simp [Value.cells] at hcs
    obtain ⟨rfl, rfl, rfl⟩ := hcs
    refine ⟨hl, hm, ?_⟩
    by_cases h0 : len = 0
    · exact .inl h0
    · obtain ⟨y, o, spot⟩ := a
      have hread : ∀ i, i < len → ∃ (op : OpN) (vd : Value) (cs' : List Value), cs' = [.int .i64 op.kind, .int .i64 op.room, .int .u64 op.off, .int .u64 op.size, .int .i64 op.prot, .int .u64 op.hint, vd] ∧ (op.data.length ≤ 2048 → op.ok) ∧ Src W (fun _ => False) vd op.data ∧ ∀ j, j < 7 → W.cell? (((⟨y, o, spot⟩ : Addr).add (i * 7)).add j) = cs'[j]? := by
        intro i hi
        obtain ⟨cs', h1, h2⟩ := hx i (by rw [hmm]; simp; omega)
        rw [cells7] at h1
        obtain ⟨_, hlen, hcell⟩ := World.cells?_some h1
        obtain ⟨op, vd, e, h3, h4⟩ := op_of h2
        exact ⟨op, vd, cs', e, h3, h4, fun j hj => hcell j hj⟩
      have hspot : spot = none := by
        obtain ⟨op, vd, cs', e, _, _, hc⟩ := hread 0 (by omega)
        have := hc 0 (by omega)
        rw [e] at this
        simpa [Addr.add] using World.cell?_spot this
      subst hspot
      refine .inr ⟨y, o, rfl, fun i hi => ?_⟩
      obtain ⟨op, vd, cs', e, h3, h4, hc⟩ := hread i hi
      subst e
      have hc' : ∀ j, j < 7 → W.cell? ⟨y, o + i * 7 + j, none⟩ = ([.int .i64 op.kind, .int .i64 op.room, .int .u64 op.off, .int .u64 op.size, .int .i64 op.prot, .int .u64 op.hint, vd] : List Value)[j]? := by
        intro j hj
        have := hc j hj
        rw [Addr.add_mid, Addr.add_mid] at this
        exact this
      exact ⟨op, vd, hc' 0 (by omega), hc' 1 (by omega), hc' 2 (by omega), hc' 3 (by omega), hc' 4 (by omega), hc' 5 (by omega), hc' 6 (by omega), h3, h4⟩
end Go.Proofs.Ytdecbnmibjcnaaa
