
/-
  Layer 8's reference: bytes of memory out of the file, and which part holds bytes.
-/
import Derived.Test.YtgpjfcnlhlkblaaHdT
set_option linter.unusedVariables false
namespace Go.Proofs.Ytgpjfcnlhlkblaa
open Go.RowKit Go.PlainAid Go.Sort
set_option maxHeartbeats 2000000 in
theorem ref8_Part (w : World) (b : Value) (l : List UInt8) (hb : Arg w b l) (m : Nat) (v : Value) (d r : Ph) (ps : List Ph) (h : ArgH w v ps) (ok : ∀ p ∈ ps, p.ok) (sm : ∀ p ∈ ps, p.off + p.filesz ≤ 1000000) (x s : Nat) (hx : x < 18446744073709551616) (hs : s < 18446744073709551616) :
    Calls Try.prog 18 #[b, .agg (hdCells m v d r).toArray, .int .u64 x, .int .u64 s] w fun e w' => (∃ v', e = .returned (.tuple #[v', .bool (partZ l ps x s).2]) ∧ Own w' w.heap.size v' (partZ l ps x s).1) ∧ Below w.heap.size w w' := by
  have HB : Hid (Below w.heap.size w (w.alloc (.cells (hdCells m v d r).toArray 37))) := (Below.refl _ w).alloc (Nat.le_refl _) _
  have HA := hide (hb.below' HB.out)
  have hOf := ref8_Off _ m v d r ps (h.below HB.out) ok sm x s hx hs
  have hle := offN_le ps x s
  obtain ⟨O, hO⟩ : ∃ O, partZ l ps x s = O := ⟨_, rfl⟩
  rw [hO]
  unfold partZ at hO
  generalize offN ps x s = y at *
  obtain ⟨o, b1⟩ := y
  have HO := hide hO
  obtain ⟨a, cap, rfl, _⟩ := hb.isSlice
  obtain ⟨a2, cap2, rfl⟩ := h.form
  clear hb h ok hO sm
  unfold hdCells at *
  simp only [offV] at *
  cases b1 with
  | false =>
    have hO := HO.out
    simp only [Bool.false_eq_true, false_and, if_false] at hO
    subst hO
    clear HO
    go_enter Try.func18, Try.ntmps18
    go_wp2_with fail
    refine hOf.mono ?_
    rintro e w1 ⟨rfl, hb1⟩
    have HB1 : Hid (Below w.heap.size w w1) := HB.out.trans (hb1.mono HB.out.size)
    clear hb1 hOf
    go_wp2
    go_ret2
    exact ⟨⟨_, rfl, Own.nil _ _⟩, HB1.out⟩
  | true =>
    by_cases c : o + s ≤ l.length
    · have hO := HO.out
      rw [if_pos ⟨rfl, c⟩] at hO
      subst hO
      clear HO
      go_enter Try.func18, Try.ntmps18
      go_wp2_with fail
      refine hOf.mono ?_
      rintro e w1 ⟨rfl, hb1⟩
      have HB1 : Hid (Below w.heap.size w w1) := HB.out.trans (hb1.mono HB.out.size)
      have hP := ref_Part_yes w1 _ l (HA.out.below' hb1) o s c
      clear hb1 hOf
      go_wp2_with fail
      refine hP.mono ?_
      rintro e w2 ⟨v', rfl, hown, hb2⟩
      have HB2 : Hid (Below w.heap.size w w2) := HB1.out.trans (hb2.mono HB1.out.size)
      have HOW := hide (hown.low HB1.out.size)
      clear hb2 hP hown
      go_wp2
      go_ret2
      exact ⟨⟨_, rfl, HOW.out⟩, HB2.out⟩
    · have hO := HO.out
      rw [if_neg (fun e => c e.2)] at hO
      subst hO
      clear HO
      go_enter Try.func18, Try.ntmps18
      go_wp2_with fail
      refine hOf.mono ?_
      rintro e w1 ⟨rfl, hb1⟩
      have HB1 : Hid (Below w.heap.size w w1) := HB.out.trans (hb1.mono HB.out.size)
      have hP := ref_Part_no w1 _ l (HA.out.below' hb1) o s (by omega) c
      clear hb1 hOf
      go_wp2_with fail
      refine hP.mono ?_
      rintro e w2 ⟨rfl, rfl⟩
      clear hP
      go_wp2
      go_ret2
      exact ⟨⟨_, rfl, Own.nil _ _⟩, HB1.out⟩
/-- The number of the first part in whose pages bytes lie, from k on; below 0: none. -/
def holdI (x s : Nat) : List Ph → Nat → Int
  | [], _ => -1
  | p :: t, k => if insN x s p.vaddr (endN p - p.vaddr) then (k : Int) else holdI x s t (k + 1)
theorem holdI_is (r : Ph) : ∀ (ps : List Ph) (o : Nat), (holdI r.vaddr r.memsz ps o = -1 ∧ holdW ps r = false) ∨ ∃ (k : Nat) (h : k < ps.length), holdI r.vaddr r.memsz ps o = ((o + k : Nat) : Int) ∧ holdW ps r = decide (ps[k].flags / 2 % 2 = 1)
  | [], _ => .inl ⟨rfl, rfl⟩
  | p :: t, o => by
    rw [holdI, holdW]
    by_cases c : insN r.vaddr r.memsz p.vaddr (endN p - p.vaddr) = true
    · rw [if_pos c, if_pos c]
      exact .inr ⟨0, by simp, by simp, rfl⟩
    · rw [if_neg c, if_neg c]
      rcases holdI_is r t (o + 1) with h | ⟨k, hk, h1, h2⟩
      · exact .inl h
      · exact .inr ⟨k + 1, by simpa using hk, by rw [h1]; omega, by simpa using h2⟩
set_option maxHeartbeats 4000000 in
set_option maxRecDepth 20000 in
theorem ref8_Holder (w : World) (m : Nat) (v : Value) (d r : Ph) (ps : List Ph) (h : ArgH w v ps) (ok : ∀ p ∈ ps, p.ok) (sm : ∀ p ∈ ps, p.vaddr + p.memsz ≤ 1000000) (x s : Nat) (hx : x < 18446744073709551616) (hs : s < 18446744073709551616) :
    Calls Try.prog 41 #[.agg (hdCells m v d r).toArray, .int .u64 x, .int .u64 s] w fun e w' => e = .returned (.int .i64 (holdI x s ps 0)) ∧ Below w.heap.size w w' := by
  have HB : Hid (Below w.heap.size w (w.alloc (.cells (hdCells m v d r).toArray 37))) := (Below.refl _ w).alloc (Nat.le_refl _) _
  have HG : Hid ((w.alloc (.cells (hdCells m v d r).toArray 37)).heap[w.heap.size]? = some (.cells (hdCells m v d r).toArray 37 (0, 0))) := heap_alloc_new _ _
  have HA := hide (h.below HB.out)
  have hl := h.1
  obtain ⟨a, cap, rfl⟩ := h.form
  have HK := hide ok
  have HSM := hide sm
  obtain ⟨O, hO⟩ : ∃ O, holdI x s ps 0 = O := ⟨_, rfl⟩
  have HO : Hid (holdI x s (ps.drop 0) 0 = O) := hO
  rw [hO]
  clear h ok hO sm
  unfold hdCells at *
  go_enter Try.func41, Try.ntmps41
  go_wp2
  generalize w.alloc _ = w0 at *
  go_loopw [7, 8] (fun vi _ wr => ∃ i : Nat, i ≤ ps.length ∧ vi = .int .i64 i ∧ Hid (Below w0.heap.size w0 wr) ∧ Hid (holdI x s (ps.drop i) i = O)) (fun vi _ _ => ps.length - (intOf vi).toNat)
  case atStart => exact ⟨0, by omega, rfl, Below.refl _ _, HO⟩
  case round =>
    obtain ⟨i, hi, rfl, HW, HF⟩ := hrel
    have g1 := cells_of_block (block_stay HG.out HW.out) 1 _ rfl
    by_cases hlt : i < ps.length
    · have hltI : (i : Int) < (ps.length : Int) := by omega
      obtain ⟨g, rfl, hc1, hc2, hg, y0, y1, y2, y3, y4, y5, y6⟩ := (HA.out.below HW.out).at i hlt
      have hok := HK.out ps[i] (List.getElem_mem hlt)
      have hsm := HSM.out ps[i] (List.getElem_mem hlt)
      have hF := HF.out
      rw [List.drop_eq_getElem_cons hlt, holdI] at hF
      clear HF
      generalize ps[i] = p at *
      have p1 := hok.vaddr
      have hen : p.vaddr ≤ endN p := by unfold endN; rw [if_pos (by omega)]; omega
      have hEl := endN_le p
      have HEn := hide (fun W => ref8_End W p hsm)
      obtain ⟨E, hE⟩ : ∃ E, endN p = E := ⟨_, rfl⟩
      rw [hE] at hF hEl HEn hen
      obtain ⟨pty, pfl, poff, pva, pfs, pms, pal⟩ := p
      simp only [Ph.cells] at y0 y1 y2 y3 y4 y5 y6 p1 hF hen HEn hsm
      have HB1 : Hid (Below w0.heap.size w0 (wr.alloc (.cells #[.int .u32 pty, .int .u32 pfl, .int .u64 poff, .int .u64 pva, .int .u64 pfs, .int .u64 pms, .int .u64 pal] 32))) := HW.out.alloc HW.out.size _
      have HI := hide (fun W => ref_Inside (x : Int) (s : Int) (pva : Int) ((E : Int) - (pva : Int)) W (by omega) (by omega) (by omega) (by omega) (by omega) (by omega) (by omega) (by omega))
      have eI : inB (x : Int) (s : Int) (pva : Int) ((E : Int) - (pva : Int)) = insN x s pva (E - pva) := by
        rw [← insN_is, show (E : Int) - (pva : Int) = ((E - pva : Nat) : Int) by omega]
      rw [eI] at HI
      have ewr : IntKind.u64.wrap ((E : Int) - (pva : Int)) = (E : Int) - (pva : Int) := by rw [IntKind.wrap_u64]; omega
      have ec : ∀ k u, (Ph.cells ⟨pty, pfl, poff, pva, pfs, pms, pal⟩)[k]? = some u → (wr.alloc (.cells #[.int .u32 pty, .int .u32 pfl, .int .u64 poff, .int .u64 pva, .int .u64 pfs, .int .u64 pms, .int .u64 pal] 32)).cell? ⟨wr.heap.size, k, none⟩ = some u := fun k u hu => by
        rw [World.cell?_alloc_at _ _ _ _ (by simp)]; simpa [Ph.cells] using hu
      have HEC := hide ec
      generalize insN x s pva (E - pva) = b at *
      clear hok hE ec eI
      go_wp2_with fail
      try simp only [List.append_eq, List.cons_append, List.nil_append]
      refine wp_region_quiet_below (by kernel_rfl) (by kernel_rfl) ?_
      have e0 := cell_regrown (HEC.out 0 _ rfl)
      have e1 := cell_regrown (HEC.out 1 _ rfl)
      have e2 := cell_regrown (HEC.out 2 _ rfl)
      have e3 := cell_regrown (HEC.out 3 _ rfl)
      have e4 := cell_regrown (HEC.out 4 _ rfl)
      have e5 := cell_regrown (HEC.out 5 _ rfl)
      have e6 := cell_regrown (HEC.out 6 _ rfl)
      repeat (go_big_quiet_step (first | exact Calls.regrown_of (HI.out _) | exact Calls.regrown_of (HEn.out _)))
      refine wpQuiet_nil ?_
      intro _ hwq
      obtain ⟨⟨dq, osq⟩, hwq2⟩ := hwq
      subst hwq2
      have HB2 : Hid (Below w0.heap.size w0 (grow (redrawn (wr.alloc (.cells #[.int .u32 pty, .int .u32 pfl, .int .u64 poff, .int .u64 pva, .int .u64 pfs, .int .u64 pms, .int .u64 pal] 32)) dq) osq)) := HB1.out.trans ((below_regrown _ dq osq).mono HB1.out.size)
      clear e0 e1 e2 e3 e4 e5 e6 HEC g1 y0 y1 y2 y3 y4 y5 y6
      generalize grow _ _ = w2 at *
      cases b with
      | true =>
        rw [if_pos rfl] at hF
        have HF := hide hF
        clear hF
        go_wp2
        go_ret
        exact ⟨by rw [← HF.out]; rfl, HB.out.trans (HB2.out.mono HB.out.size)⟩
      | false =>
        rw [if_neg (by simp)] at hF
        have HF := hide hF
        clear hF
        go_wp2
        go_roundw
        case rel => exact ⟨i + 1, by omega, by go_num, HB2, HF⟩
        case measure => simp [intOf]; omega
    · have hltI : ¬ (i : Int) < (ps.length : Int) := by omega
      have he : i = ps.length := by omega
      subst he
      have hF := HF.out
      rw [List.drop_length, holdI] at hF
      have HF2 := hide hF
      clear HF hF
      go_wp2
      go_ret
      exact ⟨by rw [← HF2.out]; rfl, HB.out.trans (HW.out.mono HB.out.size)⟩
end Go.Proofs.Ytgpjfcnlhlkblaa
