
/-
  Layer 8 (head): a part's end, and whether it may be; where bytes of memory stand.
-/
import Derived.Test.YtgpjfcnlhlkblaaHdB
set_option linter.unusedVariables false
namespace Go.Proofs.Ytgpjfcnlhlkblaa
open Go.RowKit Go.PlainAid
theorem pow256_is : isPow 256 := ⟨8, by omega, by decide⟩
set_option maxHeartbeats 1000000 in
theorem head_End (w : World) (p : Ph) (hp : p.ok) :
    Calls Try.prog 23 #[.agg p.cells.toArray] w fun e w' => e = .returned (.int .u64 (endN p)) ∧ Below w.heap.size w w' := by
  have HB : Hid (Below w.heap.size w (w.alloc (.cells p.cells.toArray 32))) := (Below.refl _ w).alloc (Nat.le_refl _) _
  have h1 := hp.vaddr
  have h2 := hp.memsz
  clear hp
  obtain ⟨ty, fl, off, va, fs, ms, al⟩ := p
  unfold endN
  simp only [Ph.cells] at *
  by_cases c1 : va + ms ≤ 18446744073709551615
  · have hA := num_Add_yes (va : Int) (ms : Int) (w.alloc (.cells #[.int .u32 ty, .int .u32 fl, .int .u64 off, .int .u64 va, .int .u64 fs, .int .u64 ms, .int .u64 al] 32)) (by omega) (by omega) (by omega)
    by_cases c2 : va + ms + 255 ≤ 18446744073709551615
    · rw [if_pos c2]
      have hU := num_Up_yes ((va : Int) + (ms : Int)) 256 (w.alloc (.cells #[.int .u32 ty, .int .u32 fl, .int .u64 off, .int .u64 va, .int .u64 fs, .int .u64 ms, .int .u64 al] 32)) (by omega) pow256_is (by omega)
      have e1 : ((va : Int) + (ms : Int) + (256 - 1)) / 256 * 256 = (((va + ms + 255) / 256 * 256 : Nat) : Int) := by omega
      rw [e1] at hU
      generalize (va + ms + 255) / 256 * 256 = q at *
      clear e1 c1 c2
      go_enter Try.func23, Try.ntmps23
      go_wp2_with fail
      refine hA.mono ?_
      rintro e w1 ⟨rfl, rfl⟩
      go_wp2_with fail
      refine hU.mono ?_
      rintro e w1 ⟨rfl, rfl⟩
      go_wp2
      go_ret
      exact ⟨rfl, HB.out⟩
    · rw [if_neg c2]
      have hU := num_Up_over ((va : Int) + (ms : Int)) 256 (w.alloc (.cells #[.int .u32 ty, .int .u32 fl, .int .u64 off, .int .u64 va, .int .u64 fs, .int .u64 ms, .int .u64 al] 32)) (by omega) (by omega) pow256_is (by omega)
      clear c1 c2
      go_enter Try.func23, Try.ntmps23
      go_wp2_with fail
      refine hA.mono ?_
      rintro e w1 ⟨rfl, rfl⟩
      go_wp2_with fail
      refine hU.mono ?_
      rintro e w1 ⟨rfl, rfl⟩
      go_wp2
      go_ret
      exact ⟨rfl, HB.out⟩
  · rw [if_neg (by omega)]
    have hA := num_Add_no (va : Int) (ms : Int) (w.alloc (.cells #[.int .u32 ty, .int .u32 fl, .int .u64 off, .int .u64 va, .int .u64 fs, .int .u64 ms, .int .u64 al] 32)) (by omega) (by omega) (by omega) (by omega)
    clear c1
    go_enter Try.func23, Try.ntmps23
    go_wp2_with fail
    refine hA.mono ?_
    rintro e w1 ⟨rfl, rfl⟩
    go_wp2
    go_ret
    exact ⟨rfl, HB.out⟩
set_option maxHeartbeats 2000000 in
theorem head_partRight (w : World) (p : Ph) (hp : p.ok) (size : Nat) (hs : size ≤ 140737488351232) :
    Calls Try.prog 56 #[.agg p.cells.toArray, .int .u64 size] w fun e w' => e = .returned (.bool (partOk p size)) ∧ Below w.heap.size w w' := by
  have HB : Hid (Below w.heap.size w (w.alloc (.cells p.cells.toArray 32))) := (Below.refl _ w).alloc (Nat.le_refl _) _
  have hI1 := num_Inside (p.off : Int) (p.filesz : Int) 0 (size : Int) (w.alloc (.cells p.cells.toArray 32)) (by omega) (by have := hp.off; omega) (by omega) (by omega) (by omega) (by omega)
  have hI2 := num_Inside (p.vaddr : Int) (p.memsz : Int) 0 16384 (w.alloc (.cells p.cells.toArray 32)) (by omega) (by have := hp.vaddr; omega) (by omega) (by omega) (by omega) (by omega)
  have e1 := insN_is p.off p.filesz 0 size
  have e2 := insN_is p.vaddr p.memsz 0 16384
  rw [show ((0 : Nat) : Int) = 0 from rfl] at e1 e2
  rw [show ((16384 : Nat) : Int) = 16384 from rfl] at e2
  rw [e1] at hI1
  rw [e2] at hI2
  have h1 := hp.vaddr
  have h2 := hp.off
  have h3 := hp.flags
  clear hp e1 e2
  unfold partOk
  obtain ⟨ty, fl, off, va, fs, ms, al⟩ := p
  simp only [Ph.cells] at *
  generalize insN off fs 0 size = b1 at *
  generalize insN va ms 0 16384 = b2 at *
  have em : ∀ x : Nat, ((x : Int) % 256 != 0) = !decide (x % 256 = 0) := fun x => by
    by_cases c : x % 256 = 0
    · rw [decide_eq_true c]; simp; omega
    · rw [decide_eq_false c]; simp; omega
  have m1 := em va
  have m2 := em off
  have m3 : decide ((7 : Int) < (fl : Int)) = !decide (fl ≤ 7) := by
    by_cases c : fl ≤ 7
    · rw [decide_eq_true c]; simp; omega
    · rw [decide_eq_false c]; simp; omega
  have m4 : ((ms : Int) == 0) = decide (ms = 0) := by
    by_cases c : ms = 0
    · rw [decide_eq_true c]; simp; omega
    · rw [decide_eq_false c]; simp; omega
  have m5 : decide (ms < fs) = !decide (fs ≤ ms) := by
    by_cases c : fs ≤ ms
    · rw [decide_eq_true c]; simp; omega
    · rw [decide_eq_false c]; simp; omega
  generalize decide (va % 256 = 0) = d1 at *
  generalize decide (off % 256 = 0) = d2 at *
  generalize decide (fl ≤ 7) = d3 at *
  generalize decide (ms = 0) = d4 at *
  generalize decide (fs ≤ ms) = d5 at *
  clear em
  go_enter Try.func56, Try.ntmps56
  rcases d1 with _ | _
  · go_wp2
    go_ret
    exact ⟨rfl, HB.out⟩
  rcases d2 with _ | _
  · go_wp2
    go_ret
    exact ⟨rfl, HB.out⟩
  rcases d3 with _ | _
  · go_wp2
    go_ret
    exact ⟨rfl, HB.out⟩
  rcases d4 with _ | _
  rotate_left
  · go_wp2
    go_ret
    exact ⟨rfl, HB.out⟩
  rcases d5 with _ | _
  · go_wp2
    go_ret
    exact ⟨rfl, HB.out⟩
  rcases b1 with _ | _
  · go_wp2_with fail
    refine hI1.mono ?_
    rintro e w1 ⟨rfl, rfl⟩
    go_wp2
    go_ret
    exact ⟨rfl, HB.out⟩
  · go_wp2_with fail
    refine hI1.mono ?_
    rintro e w1 ⟨rfl, rfl⟩
    go_wp2_with fail
    refine hI2.mono ?_
    rintro e w1 ⟨rfl, rfl⟩
    go_wp2
    go_ret
    exact ⟨by simp, HB.out⟩
/-- The cells of what headers say. -/
def hdCells (m : Nat) (v : Value) (d r : Ph) : List Value := [.int .u16 m, v, .int .u32 d.type, .int .u32 d.flags, .int .u64 d.off, .int .u64 d.vaddr, .int .u64 d.filesz, .int .u64 d.memsz, .int .u64 d.align,
  .int .u32 r.type, .int .u32 r.flags, .int .u64 r.off, .int .u64 r.vaddr, .int .u64 r.filesz, .int .u64 r.memsz, .int .u64 r.align]
def offV (x : Nat × Bool) : Value := .tuple #[.int .u64 x.1, .bool x.2]
set_option maxHeartbeats 2000000 in
theorem head_Off (w : World) (m : Nat) (v : Value) (d r : Ph) (ps : List Ph) (h : ArgH w v ps) (ok : ∀ p ∈ ps, p.ok) (x s : Nat) (hx : x < 18446744073709551616) (hs : s < 18446744073709551616) :
    Calls Try.prog 15 #[.agg (hdCells m v d r).toArray, .int .u64 x, .int .u64 s] w fun e w' => e = .returned (offV (offN ps x s)) ∧ Below w.heap.size w w' := by
  have HB : Hid (Below w.heap.size w (w.alloc (.cells (hdCells m v d r).toArray 37))) := (Below.refl _ w).alloc (Nat.le_refl _) _
  have HA := hide (h.below HB.out)
  have hl := h.1
  obtain ⟨a, cap, rfl⟩ := h.form
  have HK := hide ok
  obtain ⟨O, hO⟩ : ∃ O, offN ps x s = O := ⟨_, rfl⟩
  have HO : Hid (offN (ps.drop 0) x s = O) := hO
  rw [hO]
  clear h ok hO
  unfold hdCells at *
  go_enter Try.func15, Try.ntmps15
  go_wp2
  generalize w.alloc _ = w0 at *
  go_loopw [9, 13] (fun _ vi wr => ∃ i : Nat, i ≤ ps.length ∧ vi = .int .i64 i ∧ Hid (Below w0.heap.size w0 wr) ∧ Hid (offN (ps.drop i) x s = O)) (fun _ vi _ => ps.length - (intOf vi).toNat)
  case atStart => exact ⟨0, by omega, rfl, Below.refl _ _, HO⟩
  case round =>
    obtain ⟨i, hi, rfl, HW, HF⟩ := hrel
    by_cases hlt : i < ps.length
    · have hltI : (i : Int) < (ps.length : Int) := by omega
      obtain ⟨g, rfl, hc1, hc2, hg, y0, y1, y2, y3, y4, y5, y6⟩ := (HA.out.below HW.out).at i hlt
      have hok := HK.out ps[i] (List.getElem_mem hlt)
      have hF := HF.out
      rw [List.drop_eq_getElem_cons hlt, offN] at hF
      clear HF
      generalize ps[i] = p at *
      have p1 := hok.vaddr
      have p2 := hok.filesz
      have p3 := hok.off
      obtain ⟨ty, fl, off, va, fs, ms, al⟩ := p
      simp only at y0 y1 y2 y3 y4 y5 y6 p1 p2 p3 hF
      have HB1 : Hid (Below w0.heap.size w0 (wr.alloc (.cells #[.int .u32 ty, .int .u32 fl, .int .u64 off, .int .u64 va, .int .u64 fs, .int .u64 ms, .int .u64 al] 32))) := HW.out.alloc HW.out.size _
      have hI := num_Inside (x : Int) (s : Int) (va : Int) (fs : Int) (wr.alloc (.cells #[.int .u32 ty, .int .u32 fl, .int .u64 off, .int .u64 va, .int .u64 fs, .int .u64 ms, .int .u64 al] 32)) (by omega) (by omega) (by omega) (by omega) (by omega) (by omega)
      rw [insN_is] at hI
      clear hok
      by_cases cI : insN x s va fs = true
      · rw [if_pos cI] at hF
        rw [cI] at hI
        have hv : va ≤ x := by unfold insN at cI; simp at cI; omega
        have hvI : (va : Int) ≤ (x : Int) := by omega
        by_cases cA : off + (x - va) ≤ 18446744073709551615
        · rw [if_pos cA] at hF
          have HF := hide hF
          clear hF
          have hA := num_Add_yes (off : Int) ((x : Int) - (va : Int)) (wr.alloc (.cells #[.int .u32 ty, .int .u32 fl, .int .u64 off, .int .u64 va, .int .u64 fs, .int .u64 ms, .int .u64 al] 32)) (by omega) (by omega) (by omega)
          have eV : (off : Int) + ((x : Int) - (va : Int)) = ((off + (x - va) : Nat) : Int) := by omega
          rw [eV] at hA
          obtain ⟨q, hq⟩ : ∃ q, off + (x - va) = q := ⟨_, rfl⟩
          rw [hq] at hA
          have HQ := hide hq
          clear eV cI cA hv hq
          go_wp2_with fail
          refine hI.mono ?_
          rintro e w1 ⟨rfl, rfl⟩
          go_wp2_with fail
          refine hA.mono ?_
          rintro e w1 ⟨rfl, rfl⟩
          go_wp2
          go_ret2
          exact ⟨by rw [← HF.out, HQ.out]; rfl, HB.out.trans (HB1.out.mono HB.out.size)⟩
        · rw [if_neg cA] at hF
          subst hF
          have hA := num_Add_no (off : Int) ((x : Int) - (va : Int)) (wr.alloc (.cells #[.int .u32 ty, .int .u32 fl, .int .u64 off, .int .u64 va, .int .u64 fs, .int .u64 ms, .int .u64 al] 32)) (by omega) (by omega) (by omega) (by omega)
          clear cI cA hv
          go_wp2_with fail
          refine hI.mono ?_
          rintro e w1 ⟨rfl, rfl⟩
          go_wp2_with fail
          refine hA.mono ?_
          rintro e w1 ⟨rfl, rfl⟩
          go_wp2
          go_ret2
          exact ⟨rfl, HB.out.trans (HB1.out.mono HB.out.size)⟩
      · rw [if_neg cI] at hF
        have cI' : insN x s va fs = false := by simpa using cI
        rw [cI'] at hI
        have HF := hide hF
        clear cI cI' hF
        go_wp2_with fail
        refine hI.mono ?_
        rintro e w1 ⟨rfl, rfl⟩
        go_wp2
        go_roundw
        case rel => exact ⟨i + 1, by omega, by go_num, HB1, HF⟩
        case measure => simp [intOf]; omega
    · have hltI : ¬ (i : Int) < (ps.length : Int) := by omega
      have he : i = ps.length := by omega
      subst he
      have hF := HF.out
      rw [List.drop_length, offN] at hF
      subst hF
      clear HF
      go_wp2
      go_ret2
      exact ⟨rfl, HB.out.trans (HW.out.mono HB.out.size)⟩
end Go.Proofs.Ytgpjfcnlhlkblaa
