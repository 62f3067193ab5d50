
/-
  Layer 8 (head): which headers are of a type, whether parts may be, whether bytes lie in one; pages; bytes of memory out of the file.
-/
import Derived.Test.YtgpjfcnlhlkblaaHdD
import Derived.Lib.QuietBelow
set_option linter.unusedVariables false
namespace Go.Proofs.Ytgpjfcnlhlkblaa
open Go.RowKit Go.PlainAid
set_option maxHeartbeats 2000000 in
theorem head_Inside (w : World) (m : Nat) (v : Value) (d r : Ph) (ps : List Ph) (h : ArgH w v ps) (ok : ∀ p ∈ ps, p.ok) (x s : Nat) (hx : x < 18446744073709551616) (hs : s < 18446744073709551616) :
    Calls Try.prog 19 #[.agg (hdCells m v d r).toArray, .int .u64 x, .int .u64 s] w fun e w' => e = .returned (.bool (insideB ps x s)) ∧ Below w.heap.size w w' := by
  have HB : Hid (Below w.heap.size w (w.alloc (.cells (hdCells m v d r).toArray 37))) := (Below.refl _ w).alloc (Nat.le_refl _) _
  have HA := hide (h.below HB.out)
  have hl := h.1
  obtain ⟨a, cap, rfl⟩ := h.form
  have HK := hide ok
  obtain ⟨O, hO⟩ : ∃ O, insideB ps x s = O := ⟨_, rfl⟩
  have HO : Hid (insideB (ps.drop 0) x s = O) := hO
  rw [hO]
  clear h ok hO
  unfold hdCells at *
  go_enter Try.func19, Try.ntmps19
  go_wp2
  generalize w.alloc _ = w0 at *
  go_loopw [8, 12] (fun _ vi wr => ∃ i : Nat, i ≤ ps.length ∧ vi = .int .i64 i ∧ Hid (Below w0.heap.size w0 wr) ∧ Hid (insideB (ps.drop i) x s = O)) (fun _ vi _ => ps.length - (intOf vi).toNat)
  case atStart => exact ⟨0, by omega, rfl, Below.refl _ _, HO⟩
  case round =>
    obtain ⟨i, hi, rfl, HW, HF⟩ := hrel
    by_cases hlt : i < ps.length
    · have hltI : (i : Int) < (ps.length : Int) := by omega
      obtain ⟨g, rfl, hc1, hc2, hg, y0, y1, y2, y3, y4, y5, y6⟩ := (HA.out.below HW.out).at i hlt
      have hok := HK.out ps[i] (List.getElem_mem hlt)
      have hF := HF.out
      rw [List.drop_eq_getElem_cons hlt] at hF
      unfold insideB at hF
      rw [List.any_cons] at hF
      clear HF
      generalize ps[i] = p at *
      have p1 := hok.vaddr
      have p2 := hok.memsz
      obtain ⟨ty, fl, off, va, fs, ms, al⟩ := p
      simp only at y0 y1 y2 y3 y4 y5 y6 p1 p2 hF
      have HB1 : Hid (Below w0.heap.size w0 (wr.alloc (.cells #[.int .u32 ty, .int .u32 fl, .int .u64 off, .int .u64 va, .int .u64 fs, .int .u64 ms, .int .u64 al] 32))) := HW.out.alloc HW.out.size _
      have hI := num_Inside (x : Int) (s : Int) (va : Int) (ms : Int) (wr.alloc (.cells #[.int .u32 ty, .int .u32 fl, .int .u64 off, .int .u64 va, .int .u64 fs, .int .u64 ms, .int .u64 al] 32)) (by omega) (by omega) (by omega) (by omega) (by omega) (by omega)
      rw [insN_is] at hI
      clear hok
      generalize insN x s va ms = b at *
      cases b with
      | true =>
        rw [Bool.true_or] at hF
        have HF := hide hF
        clear hF
        go_wp2_with fail
        refine hI.mono ?_
        rintro e w1 ⟨rfl, rfl⟩
        go_wp2
        go_ret
        exact ⟨by rw [← HF.out]; rfl, HB.out.trans (HB1.out.mono HB.out.size)⟩
      | false =>
        rw [Bool.false_or] at hF
        have HF := hide hF
        clear hF
        go_wp2_with fail
        refine hI.mono ?_
        rintro e w1 ⟨rfl, rfl⟩
        go_wp2
        go_roundw
        case rel => exact ⟨i + 1, by omega, by go_num, HB1, HF⟩
        case measure => simp [intOf]; omega
    · have hltI : ¬ (i : Int) < (ps.length : Int) := by omega
      have he : i = ps.length := by omega
      subst he
      have hF := HF.out
      rw [List.drop_length] at hF
      have HF2 : Hid (false = O) := hF
      clear HF hF
      go_wp2
      go_ret
      exact ⟨by rw [← HF2.out]; rfl, HB.out.trans (HW.out.mono HB.out.size)⟩
theorem endN_le (p : Ph) : endN p ≤ 18446744073709551615 := by unfold endN; split <;> omega
theorem Own.low {w : World} {B C : Nat} {v : Value} {l : List UInt8} (h : Own w B v l) (hb : C ≤ B) : Own w C v l := by
  unfold Own at h ⊢
  refine ⟨h.1, ?_⟩
  rcases h.2 with hn | ⟨g, cap, cur, rfl, hB, rest⟩
  · exact .inl hn
  · exact .inr ⟨g, cap, cur, rfl, Nat.le_trans hb hB, rest⟩
def partZ (l : List UInt8) (ps : List Ph) (x s : Nat) : List UInt8 × Bool :=
  if (offN ps x s).2 = true ∧ (offN ps x s).1 + s ≤ l.length then (win l (offN ps x s).1 s, true) else ([], false)
theorem offN_le (ps : List Ph) (x s : Nat) : (offN ps x s).1 ≤ 18446744073709551615 := by
  induction ps with
  | nil => simp [offN]
  | cons p t ih =>
    rw [offN]
    split
    · split
      · assumption
      · simp
    · exact ih
set_option maxHeartbeats 2000000 in
theorem head_Part (w : World) (b : Value) (l : List UInt8) (hb : Arg w b l) (m : Nat) (v : Value) (d r : Ph) (ps : List Ph) (h : ArgH w v ps) (ok : ∀ p ∈ ps, p.ok) (x s : Nat) (hx : x < 18446744073709551616) (hs : s < 18446744073709551616) :
    Calls Try.prog 17 #[b, .agg (hdCells m v d r).toArray, .int .u64 x, .int .u64 s] w fun e w' => (∃ v', e = .returned (.tuple #[v', .bool (partZ l ps x s).2]) ∧ Own w' w.heap.size v' (partZ l ps x s).1) ∧ Below w.heap.size w w' := by
  have HB : Hid (Below w.heap.size w (w.alloc (.cells (hdCells m v d r).toArray 37))) := (Below.refl _ w).alloc (Nat.le_refl _) _
  have HA := hide (hb.below' HB.out)
  have hOf := head_Off _ m v d r ps (h.below HB.out) ok x s hx hs
  have hle := offN_le ps x s
  obtain ⟨O, hO⟩ : ∃ O, partZ l ps x s = O := ⟨_, rfl⟩
  rw [hO]
  unfold partZ at hO
  generalize offN ps x s = y at *
  obtain ⟨o, b1⟩ := y
  have HO := hide hO
  obtain ⟨a, cap, rfl, _⟩ := hb.isSlice
  obtain ⟨a2, cap2, rfl⟩ := h.form
  clear hb h ok hO
  unfold hdCells at *
  simp only [offV] at *
  cases b1 with
  | false =>
    have hO := HO.out
    simp only [Bool.false_eq_true, false_and, if_false] at hO
    subst hO
    clear HO
    go_enter Try.func17, Try.ntmps17
    go_wp2_with fail
    refine hOf.mono ?_
    rintro e w1 ⟨rfl, hb1⟩
    have HB1 : Hid (Below w.heap.size w w1) := HB.out.trans (hb1.mono HB.out.size)
    clear hb1 hOf
    go_wp2
    go_ret2
    exact ⟨⟨_, rfl, Own.nil _ _⟩, HB1.out⟩
  | true =>
    by_cases c : o + s ≤ l.length
    · have hO := HO.out
      rw [if_pos ⟨rfl, c⟩] at hO
      subst hO
      clear HO
      go_enter Try.func17, Try.ntmps17
      go_wp2_with fail
      refine hOf.mono ?_
      rintro e w1 ⟨rfl, hb1⟩
      have HB1 : Hid (Below w.heap.size w w1) := HB.out.trans (hb1.mono HB.out.size)
      have hP := le_Part_yes w1 _ l (HA.out.below' hb1) o s c
      clear hb1 hOf
      go_wp2_with fail
      refine hP.mono ?_
      rintro e w2 ⟨v', rfl, hown, hb2⟩
      have HB2 : Hid (Below w.heap.size w w2) := HB1.out.trans (hb2.mono HB1.out.size)
      have HOW := hide (hown.low HB1.out.size)
      clear hb2 hP hown
      go_wp2
      go_ret2
      exact ⟨⟨_, rfl, HOW.out⟩, HB2.out⟩
    · have hO := HO.out
      rw [if_neg (fun e => c e.2)] at hO
      subst hO
      clear HO
      go_enter Try.func17, Try.ntmps17
      go_wp2_with fail
      refine hOf.mono ?_
      rintro e w1 ⟨rfl, hb1⟩
      have HB1 : Hid (Below w.heap.size w w1) := HB.out.trans (hb1.mono HB.out.size)
      have hP := le_Part_no w1 _ l (HA.out.below' hb1) o s (by omega) c
      clear hb1 hOf
      go_wp2_with fail
      refine hP.mono ?_
      rintro e w2 ⟨rfl, rfl⟩
      clear hP
      go_wp2
      go_ret2
      exact ⟨⟨_, rfl, Own.nil _ _⟩, HB1.out⟩
end Go.Proofs.Ytgpjfcnlhlkblaa
