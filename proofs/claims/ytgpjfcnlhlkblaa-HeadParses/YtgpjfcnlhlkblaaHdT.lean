
/-
  Layer 8's reference: where bytes of memory stand, whether they lie in a part, how many pages there are, and which part holds bytes.
-/
import Derived.Test.YtgpjfcnlhlkblaaHdS
set_option linter.unusedVariables false
namespace Go.Proofs.Ytgpjfcnlhlkblaa
open Go.RowKit Go.PlainAid Go.Sort
set_option maxHeartbeats 4000000 in
set_option maxRecDepth 20000 in
theorem ref8_OffW (w : World) (m : Nat) (v : Value) (d r : Ph) (ps : List Ph) (h : ArgH w v ps) (ok : ∀ p ∈ ps, p.ok) (sm : ∀ p ∈ ps, p.off + p.filesz ≤ 140737488351232) (x s : Nat) (hx : x < 18446744073709551616) (hs : s < 18446744073709551616) :
    Calls Try.prog 16 #[.agg (hdCells m v d r).toArray, .int .u64 x, .int .u64 s] w fun e w' => e = .returned (offV (offN ps x s)) ∧ Below w.heap.size w w' := by
  have HB : Hid (Below w.heap.size w (w.alloc (.cells (hdCells m v d r).toArray 37))) := (Below.refl _ w).alloc (Nat.le_refl _) _
  have HG : Hid ((w.alloc (.cells (hdCells m v d r).toArray 37)).heap[w.heap.size]? = some (.cells (hdCells m v d r).toArray 37 (0, 0))) := heap_alloc_new _ _
  have HA := hide (h.below HB.out)
  have hl := h.1
  obtain ⟨a, cap, rfl⟩ := h.form
  have HK := hide ok
  have HSM := hide sm
  obtain ⟨O, hO⟩ : ∃ O, offN ps x s = O := ⟨_, rfl⟩
  have HO : Hid (offN (ps.drop 0) x s = O) := hO
  rw [hO]
  clear h ok hO sm
  unfold hdCells at *
  go_enter Try.func16, Try.ntmps16
  go_wp2
  generalize w.alloc _ = w0 at *
  go_loopw [8, 9] (fun vi _ wr => ∃ i : Nat, i ≤ ps.length ∧ vi = .int .i64 i ∧ Hid (Below w0.heap.size w0 wr) ∧ Hid (offN (ps.drop i) x s = O)) (fun vi _ _ => ps.length - (intOf vi).toNat)
  case atStart => exact ⟨0, by omega, rfl, Below.refl _ _, HO⟩
  case round =>
    obtain ⟨i, hi, rfl, HW, HF⟩ := hrel
    have g1 := cells_of_block (block_stay HG.out HW.out) 1 _ rfl
    by_cases hlt : i < ps.length
    · have hltI : (i : Int) < (ps.length : Int) := by omega
      obtain ⟨g, rfl, hc1, hc2, hg, y0, y1, y2, y3, y4, y5, y6⟩ := (HA.out.below HW.out).at i hlt
      have hok := HK.out ps[i] (List.getElem_mem hlt)
      have hsm := HSM.out ps[i] (List.getElem_mem hlt)
      have hF := HF.out
      rw [List.drop_eq_getElem_cons hlt, offN] at hF
      clear HF
      generalize ps[i] = p at *
      have p1 := hok.vaddr
      have p2 := hok.filesz
      have p3 := hok.off
      obtain ⟨ty, fl, off, va, fs, ms, al⟩ := p
      simp only at y0 y1 y2 y3 y4 y5 y6 p1 p2 p3 hF hsm
      have HB1 : Hid (Below w0.heap.size w0 (wr.alloc (.cells #[.int .u32 ty, .int .u32 fl, .int .u64 off, .int .u64 va, .int .u64 fs, .int .u64 ms, .int .u64 al] 32))) := HW.out.alloc HW.out.size _
      have hI := ref_Inside (x : Int) (s : Int) (va : Int) (fs : Int) (wr.alloc (.cells #[.int .u32 ty, .int .u32 fl, .int .u64 off, .int .u64 va, .int .u64 fs, .int .u64 ms, .int .u64 al] 32)) (by omega) (by omega) (by omega) (by omega) (by omega) (by omega) (by omega) (by omega)
      rw [insN_is] at hI
      have HZ : Hid (∀ (w1 : World), Below (wr.alloc (.cells #[.int .u32 ty, .int .u32 fl, .int .u64 off, .int .u64 va, .int .u64 fs, .int .u64 ms, .int .u64 al] 32)).heap.size (wr.alloc (.cells #[.int .u32 ty, .int .u32 fl, .int .u64 off, .int .u64 va, .int .u64 fs, .int .u64 ms, .int .u64 al] 32)) w1 → ∀ k u, (Ph.cells ⟨ty, fl, off, va, fs, ms, al⟩)[k]? = some u → w1.cell? ⟨wr.heap.size, k, none⟩ = some u) := fun w1 hb k u hu => by
        rw [hb.cell (p := ⟨wr.heap.size, k, none⟩) (by simp), World.cell?_alloc_at _ _ _ _ (by simp)]
        simpa [Ph.cells] using hu
      clear hok
      by_cases cI : insN x s va fs = true
      · rw [if_pos cI] at hF
        rw [cI] at hI
        have hv : va ≤ x ∧ x + s ≤ va + fs := by unfold insN at cI; simpa using cI
        have hvI : (va : Int) ≤ (x : Int) := by omega
        rw [if_pos (by omega)] at hF
        obtain ⟨q, hq⟩ : ∃ q, off + (x - va) = q := ⟨_, rfl⟩
        rw [hq] at hF
        have eV : (x : Int) - (va : Int) + (off : Int) = (q : Int) := by omega
        have eB : (x : Int) - (va : Int) + (off : Int) ≤ 140737488351232 := by omega
        have HF := hide hF
        have HEV := hide eV
        clear cI hF hq hv eV
        go_wp2_with fail
        refine hI.mono ?_
        rintro e w1 ⟨rfl, hb1⟩
        have HB2 : Hid (Below w0.heap.size w0 w1) := HB1.out.trans (hb1.mono HB1.out.size)
        have z2 := HZ.out w1 hb1 2 _ rfl
        have z3 := HZ.out w1 hb1 3 _ rfl
        clear hI hb1 HZ HB1
        go_wp2
        go_ret2
        refine ⟨?_, HB.out.trans (HB2.out.mono HB.out.size)⟩
        rw [← HF.out]
        show _ = Ending.returned (.tuple #[.int .u64 ((q : Nat) : Int), .bool true])
        rw [← HEV.out]
        rfl
      · rw [if_neg cI] at hF
        have cI' : insN x s va fs = false := by simpa using cI
        rw [cI'] at hI
        have HF := hide hF
        clear cI cI' hF
        go_wp2_with fail
        refine hI.mono ?_
        rintro e w1 ⟨rfl, hb1⟩
        have HB2 : Hid (Below w0.heap.size w0 w1) := HB1.out.trans (hb1.mono HB1.out.size)
        clear hI hb1 HZ HB1
        go_wp2
        go_roundw
        case rel => exact ⟨i + 1, by omega, by go_num, HB2, HF⟩
        case measure => simp [intOf]; omega
    · have hltI : ¬ (i : Int) < (ps.length : Int) := by omega
      have he : i = ps.length := by omega
      subst he
      have hF := HF.out
      rw [List.drop_length, offN] at hF
      subst hF
      clear HF
      go_wp2
      go_ret2
      exact ⟨rfl, HB.out.trans (HW.out.mono HB.out.size)⟩
theorem ref8_Off (w : World) (m : Nat) (v : Value) (d r : Ph) (ps : List Ph) (h : ArgH w v ps) (ok : ∀ p ∈ ps, p.ok) (sm : ∀ p ∈ ps, p.off + p.filesz ≤ 1000000) (x s : Nat) (hx : x < 18446744073709551616) (hs : s < 18446744073709551616) : Calls Try.prog 16 #[.agg (hdCells m v d r).toArray, .int .u64 x, .int .u64 s] w fun e w' => e = .returned (offV (offN ps x s)) ∧ Below w.heap.size w w' := ref8_OffW w m v d r ps h ok (fun p hp => Nat.le_trans (sm p hp) (by decide)) x s hx hs
set_option maxHeartbeats 4000000 in
set_option maxRecDepth 20000 in
theorem ref8_Inside (w : World) (m : Nat) (v : Value) (d r : Ph) (ps : List Ph) (h : ArgH w v ps) (ok : ∀ p ∈ ps, p.ok) (x s : Nat) (hx : x < 18446744073709551616) (hs : s < 18446744073709551616) :
    Calls Try.prog 20 #[.agg (hdCells m v d r).toArray, .int .u64 x, .int .u64 s] w fun e w' => e = .returned (.bool (insideB ps x s)) ∧ Below w.heap.size w w' := by
  have HB : Hid (Below w.heap.size w (w.alloc (.cells (hdCells m v d r).toArray 37))) := (Below.refl _ w).alloc (Nat.le_refl _) _
  have HG : Hid ((w.alloc (.cells (hdCells m v d r).toArray 37)).heap[w.heap.size]? = some (.cells (hdCells m v d r).toArray 37 (0, 0))) := heap_alloc_new _ _
  have HA := hide (h.below HB.out)
  have hl := h.1
  obtain ⟨a, cap, rfl⟩ := h.form
  have HK := hide ok
  obtain ⟨O, hO⟩ : ∃ O, insideB ps x s = O := ⟨_, rfl⟩
  have HO : Hid (insideB (ps.drop 0) x s = O) := hO
  rw [hO]
  clear h ok hO
  unfold hdCells at *
  go_enter Try.func20, Try.ntmps20
  go_wp2
  generalize w.alloc _ = w0 at *
  go_loopw [7] (fun vi wr => ∃ i : Nat, i ≤ ps.length ∧ vi = .int .i64 i ∧ Hid (Below w0.heap.size w0 wr) ∧ Hid (insideB (ps.drop i) x s = O)) (fun vi _ => ps.length - (intOf vi).toNat)
  case atStart => exact ⟨0, by omega, rfl, Below.refl _ _, HO⟩
  case round =>
    obtain ⟨i, hi, rfl, HW, HF⟩ := hrel
    have HG1 := hide (cells_of_block (block_stay HG.out HW.out) 1 _ rfl)
    have g1 := HG1.out
    by_cases hlt : i < ps.length
    · have hltI : (i : Int) < (ps.length : Int) := by omega
      obtain ⟨g, rfl, hc1, hc2, hg, y0, y1, y2, y3, y4, y5, y6⟩ := (HA.out.below HW.out).at i hlt
      have hok := HK.out ps[i] (List.getElem_mem hlt)
      have hF := HF.out
      rw [List.drop_eq_getElem_cons hlt] at hF
      unfold insideB at hF
      rw [List.any_cons] at hF
      clear HF
      generalize ps[i] = p at *
      have p1 := hok.vaddr
      have p2 := hok.memsz
      obtain ⟨ty, fl, off, va, fs, ms, al⟩ := p
      simp only at y0 y1 y2 y3 y4 y5 y6 p1 p2 hF
      have HI := hide (fun W => ref_Inside (x : Int) (s : Int) (va : Int) (ms : Int) W (by omega) (by omega) (by omega) (by omega) (by omega) (by omega) (by omega) (by omega))
      rw [insN_is] at HI
      clear hok
      generalize insN x s va ms = b at *
      go_wp2_with fail
      try simp only [List.append_eq, List.cons_append, List.nil_append]
      refine wp_region_quiet_below (by kernel_rfl) (by kernel_rfl) ?_
      have e1 := cell_regrown g1
      have e3 := cell_regrown y3
      have e5 := cell_regrown y5
      repeat (go_big_quiet_step (exact Calls.regrown_of (HI.out _)))
      refine wpQuiet_nil ?_
      intro _ hwq
      obtain ⟨⟨dq, osq⟩, hwq2⟩ := hwq
      subst hwq2
      have HB2 : Hid (Below w0.heap.size w0 (grow (redrawn wr dq) osq)) := HW.out.trans ((below_regrown _ dq osq).mono HW.out.size)
      clear e1 e3 e5 g1 y0 y1 y2 y3 y4 y5 y6
      generalize grow _ _ = w2 at *
      cases b with
      | true =>
        rw [Bool.true_or] at hF
        have HF := hide hF
        clear hF
        go_wp2
        go_ret
        exact ⟨by rw [← HF.out]; rfl, HB.out.trans (HB2.out.mono HB.out.size)⟩
      | false =>
        rw [Bool.false_or] at hF
        have HF := hide hF
        clear hF
        go_wp2
        go_roundw
        case rel => exact ⟨i + 1, by omega, by go_num, HB2, HF⟩
        case measure => simp [intOf]; omega
    · have hltI : ¬ (i : Int) < (ps.length : Int) := by omega
      have he : i = ps.length := by omega
      subst he
      have hF := HF.out
      rw [List.drop_length] at hF
      have HF2 : Hid (false = O) := hF
      clear HF hF
      go_wp2
      go_ret
      exact ⟨by rw [← HF2.out]; rfl, HB.out.trans (HW.out.mono HB.out.size)⟩
set_option maxHeartbeats 2000000 in
theorem ref8_Span (w : World) (m : Nat) (v : Value) (d r : Ph) (ps : List Ph) (h : ArgH w v ps) (sm : ∀ p ∈ ps, p.vaddr + p.memsz ≤ 1000000) :
    Calls Try.prog 22 #[.agg (hdCells m v d r).toArray] w fun e w' => e = .returned (.int .i64 (spanN ps)) ∧ Below w.heap.size w w' := by
  have HB : Hid (Below w.heap.size w (w.alloc (.cells (hdCells m v d r).toArray 37))) := (Below.refl _ w).alloc (Nat.le_refl _) _
  have hA := h
  have hl := h.1
  obtain ⟨a, cap, rfl⟩ := h.form
  obtain ⟨O, hO⟩ : ∃ O, spanN ps = O := ⟨_, rfl⟩
  have HO := hide hO
  rw [hO]
  clear h hO
  rcases List.eq_nil_or_concat ps with rfl | ⟨t, p, rfl⟩
  · have hO := HO.out
    rw [show spanN [] = 0 from rfl] at hO
    subst hO
    clear hA
    unfold hdCells at *
    simp only [List.length_nil] at *
    go_enter Try.func22, Try.ntmps22
    go_wp2
    go_ret
    exact ⟨rfl, HB.out⟩
  · have hlen : (t.concat p).length = t.length + 1 := by simp
    obtain ⟨g, rfl, hc1, hc2, hg, y0, y1, y2, y3, y4, y5, y6⟩ := hA.at t.length (by omega)
    have hget : (t.concat p)[t.length]'(by omega) = p := by simp
    have hok := sm p (by simp)
    rw [hget] at y0 y1 y2 y3 y4 y5 y6
    rw [hlen] at *
    have hO := HO.out
    have e0 : spanN (t.concat p) = endN p / 256 := by unfold spanN; simp
    rw [e0] at hO
    have hE := ref8_End (w.alloc (.cells (hdCells m (.slice (some ⟨g, 0, none⟩) (t.length + 1) cap) d r).toArray 37)) p hok
    have hEl := endN_le p
    clear hget sm hA HO hlen
    generalize endN p = E at *
    generalize t.length = j at *
    have jI : (j : Int) + 1 ≤ 65536 := by omega
    have q1 : (E : Int) / 256 ≤ 72057594037927935 := by omega
    have q2 : 0 ≤ (E : Int) / 256 := by omega
    have q3 : (E : Int) / 256 = (O : Int) := by omega
    have HQ := hide q3
    clear e0 hok q3 hO
    obtain ⟨ty, fl, off, va, fs, ms, al⟩ := p
    unfold hdCells at *
    simp only [Ph.cells] at *
    have b0 : ((j : Int) + 1 == 0) = false := by simp; omega
    go_enter Try.func22, Try.ntmps22
    go_wp2_with fail
    refine hE.mono ?_
    rintro e w1 ⟨rfl, hb1⟩
    have HB1 : Hid (Below w.heap.size w w1) := HB.out.trans (hb1.mono HB.out.size)
    clear hb1 hE
    go_wp2
    go_ret
    exact ⟨by rw [← HQ.out]; rfl, HB1.out⟩
end Go.Proofs.Ytgpjfcnlhlkblaa
