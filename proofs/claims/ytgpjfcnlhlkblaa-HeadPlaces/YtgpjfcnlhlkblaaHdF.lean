
/-
  Layer 8 (head): how many pages a library has.
-/
import Derived.Test.YtgpjfcnlhlkblaaHdE
set_option linter.unusedVariables false
namespace Go.Proofs.Ytgpjfcnlhlkblaa
open Go.RowKit Go.PlainAid
set_option maxHeartbeats 2000000 in
theorem head_Span (w : World) (m : Nat) (v : Value) (d r : Ph) (ps : List Ph) (h : ArgH w v ps) (ok : ∀ p ∈ ps, p.ok) :
    Calls Try.prog 21 #[.agg (hdCells m v d r).toArray] w fun e w' => e = .returned (.int .i64 (spanN ps)) ∧ Below w.heap.size w w' := by
  have HB : Hid (Below w.heap.size w (w.alloc (.cells (hdCells m v d r).toArray 37))) := (Below.refl _ w).alloc (Nat.le_refl _) _
  have hA := h
  have hl := h.1
  obtain ⟨a, cap, rfl⟩ := h.form
  obtain ⟨O, hO⟩ : ∃ O, spanN ps = O := ⟨_, rfl⟩
  have HO := hide hO
  rw [hO]
  clear h hO
  rcases List.eq_nil_or_concat ps with rfl | ⟨t, p, rfl⟩
  · have hO := HO.out
    rw [show spanN [] = 0 from rfl] at hO
    subst hO
    clear hA
    unfold hdCells at *
    simp only [List.length_nil] at *
    go_enter Try.func21, Try.ntmps21
    go_wp2
    go_ret
    exact ⟨rfl, HB.out⟩
  · have hlen : (t.concat p).length = t.length + 1 := by simp
    obtain ⟨g, rfl, hc1, hc2, hg, y0, y1, y2, y3, y4, y5, y6⟩ := hA.at t.length (by omega)
    have hget : (t.concat p)[t.length]'(by omega) = p := by simp
    have hok := ok p (by simp)
    rw [hget] at y0 y1 y2 y3 y4 y5 y6
    rw [hlen] at *
    have hO := HO.out
    have e0 : spanN (t.concat p) = endN p / 256 := by unfold spanN; simp
    rw [e0] at hO
    have hE := head_End (w.alloc (.cells (hdCells m (.slice (some ⟨g, 0, none⟩) (t.length + 1) cap) d r).toArray 37)) p hok
    have hEl := endN_le p
    clear hget ok hA HO hlen
    generalize endN p = E at *
    generalize t.length = j at *
    have jI : (j : Int) + 1 ≤ 65536 := by omega
    have q1 : (E : Int) / 256 ≤ 72057594037927935 := by omega
    have q2 : 0 ≤ (E : Int) / 256 := by omega
    have q3 : (E : Int) / 256 = (O : Int) := by omega
    have HQ := hide q3
    clear e0 hok q3 hO
    obtain ⟨ty, fl, off, va, fs, ms, al⟩ := p
    unfold hdCells at *
    simp only [Ph.cells] at *
    have b0 : ((j : Int) + 1 == 0) = false := by simp; omega
    go_enter Try.func21, Try.ntmps21
    go_wp2_with fail
    refine hE.mono ?_
    rintro e w1 ⟨rfl, hb1⟩
    have HB1 : Hid (Below w.heap.size w w1) := HB.out.trans (hb1.mono HB.out.size)
    clear hb1 hE
    go_wp2
    go_ret
    exact ⟨by rw [← HQ.out]; rfl, HB1.out⟩
end Go.Proofs.Ytgpjfcnlhlkblaa
