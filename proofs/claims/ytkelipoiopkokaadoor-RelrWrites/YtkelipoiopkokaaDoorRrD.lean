
/-
  Layer 13 (relr): what a row of bits tells.
-/
import Derived.Test.YtkelipoiopkokaaDoorRrC
set_option linter.unusedVariables false
namespace Go.Proofs.YtkelipoiopkokaaDoor
open Go.RowKit Go.PlainAid Go.Sort Go.Shelf
attribute [local go_sem] Oper.semAt_some
set_option maxRecDepth 100000 in
set_option maxHeartbeats 2000000 in
theorem rel_take_odd (w : World) (B T : Nat) (o : Option Nat) (l : List Nat) (f : Nat) (h : Tl w B T o l f) (hB : B ≤ w.heap.size) (hTab : TabZ w) (hGB : 0 < B) (hl : l.length ≤ 512) (hf : f < 18446744073709551616) (r : Nat) (hr : r < 18446744073709551616) (he : r % 2 = 1) :
    Calls Tryd.prog 12 #[.pointer (some ⟨T, 0, none⟩), .int .u64 (r : Nat)] w fun e w' => Below B w w' ∧ TakeIs w' B T (stepD l f r) e := by
  refine (callsIn_wide (n := 5)).1 ?_
  have ha := and_one r hr
  rw [he] at ha
  have hTl := h.lt
  have hOl := h.own_ge
  have hbase := h.base
  have hb0 : Below w.heap.size w ((w.alloc (.cells #[.pointer (some ⟨T, 0, none⟩)] 54)).alloc (.cells #[.bool false] 4)) := Below.alloc (Below.alloc (Below.refl _ _) (Nat.le_refl _) _) (by simp) _
  have hx := box_cells w (.pointer (some ⟨T, 0, none⟩)) (.bool false) 54 4
  have hT0 := h.below hb0
  obtain ⟨v, g1, g2, g3⟩ := hT0.block
  obtain ⟨va, vc, rfl⟩ := g2.isSlice
  have t0 := cells_of_block g1 0 _ rfl
  have t1 := cells_of_block g1 1 _ rfl
  have HT0 := hide hT0
  have HB0 := hide hb0
  have HX := hide hx
  have HTab0 := hide (hTab.below hb0)
  clear hb0 hx h g1 g2 g3 hT0 hTab
  refine callsIn_of_wp_marks Tryd.func12 rfl trivial ?_ rfl
  simp only [Tryd.ntmps12, List.size_toArray, List.length_cons, List.length_nil, Nat.reduceAdd, Nat.reduceSub, Array.replicate_succ, Array.replicate_zero, List.push_toArray, List.append_toArray, List.nil_append, List.cons_append]
  by_cases hl0 : l = []
  · have HS : Hid (stepD l f r = none) := stepD_odd_no he (fun k => k.1 hl0)
    subst hl0
    simp only [List.length_nil] at t0
    have f1 := frozen_bk HX.out.2 0
    gi_wp2
    refine ⟨trivial, ?_⟩
    gi_wp2
    have hc := cells_of_block HX.out.2 0 _ rfl
    refine ⟨.bool false, ?_, HB0.out.mono hB, by rw [HS.out]; rfl⟩
    simp [results, Tryd.f12, go_sem, hc]
  · have hlp : ((l.length : Int) == 0) = false := by
      have : 0 < l.length := List.length_pos_iff.2 hl0
      simp; omega
    by_cases h8 : f + 504 < 18446744073709551616
    · have hC := rel_count_yes _ B T o l f HT0.out f 504 (f + 504) hf (by omega) (.inl ⟨h8, rfl, rfl⟩)
      gi_wp2
      refine ⟨trivial, ?_⟩
      refine (callsIn_wide.2 hC).mono ?_
      rintro e w2 ⟨rfl, hT2, hg2⟩
      have hz0 : ∀ k, o = some k → k ≠ w.heap.size ∧ k ≠ w.heap.size + 1 := fun k hk => by have := (hOl k hk).2; omega
      have hx0 : w2.heap[w.heap.size]? = some (.cells #[.pointer (some ⟨T, 0, none⟩)] 54 (0, 0)) := by
        rw [hg2.block _ (by simp; omega) (by omega) (fun e => (hz0 _ e.symm).1 rfl)]; exact HX.out.1
      have hx1 : w2.heap[w.heap.size + 1]? = some (.cells #[.bool false] 4 (0, 0)) := by
        rw [hg2.block _ (by simp) (by omega) (fun e => (hz0 _ e.symm).2 rfl)]; exact HX.out.2
      have HB2 : Hid (Below B w w2) := (HB0.out.mono hB).trans (hg2.below hbase (fun k hk => (hOl k hk).1) (Nat.le_trans hB HB0.out.size))
      have HX0 := hide hx0
      have HX1 := hide hx1
      have HT2 := hide hT2
      have HTab2 : Hid (TabZ w2) := HTab0.out.move (hg2.block _ HTab0.out.lt (by omega) (fun e => by have := (hOl _ e.symm).1; omega))
      have hs2 : w.heap.size + 2 ≤ w2.heap.size := by have := hg2.size; simp at this; omega
      clear hC hx0 hx1 hT2 hg2 t0 t1
      have hP := rel_placesOf w2 r f
      gi_wp2
      refine ⟨trivial, ?_⟩
      refine (callsIn_wide.2 hP).mono ?_
      rintro e w3 ⟨rfl, rfl⟩
      clear hP
      gi_wp2
      have hbx := box_cells w2 (.int .u64 (r : Nat)) (.int .u64 (f : Nat)) 37 37
      have hb3 : Below w2.heap.size w2 ((w2.alloc (.cells #[.int .u64 (r : Nat)] 37)).alloc (.cells #[.int .u64 (f : Nat)] 37)) := Below.alloc (Below.alloc (Below.refl _ _) (Nat.le_refl _) _) (by simp) _
      have hsz : ((w2.alloc (.cells #[.int .u64 (r : Nat)] 37)).alloc (.cells #[.int .u64 (f : Nat)] 37)).heap.size = w2.heap.size + 2 := by simp
      obtain ⟨W0, hW0⟩ : ∃ W0, (w2.alloc (.cells #[.int .u64 (r : Nat)] 37)).alloc (.cells #[.int .u64 (f : Nat)] 37) = W0 := ⟨_, rfl⟩
      rw [hW0] at hbx hb3 hsz ⊢
      have hT3 := HT2.out.below hb3
      have hTab3 := HTab2.out.below hb3
      have hX03 := block_stay HX0.out hb3
      have hX13 := block_stay HX1.out hb3
      have hBW3 : Below B w W0 := HB2.out.trans (hb3.mono (by omega))
      have hoz : ∀ k, o = some k → k < w.heap.size := fun k hk => (hOl k hk).2
      have hrl : (rowAll r f).length ≤ 63 := rowP_len r f 63 0
      refine wpIn_rangeFunc_ownF (F := Fence.wide) (n := 5) rfl (by omega) (gf := 32) (lb := #[.pointer (some ⟨w2.heap.size, 0, none⟩), .pointer (some ⟨w2.heap.size + 1, 0, none⟩)]) rfl trivial (enters_of Tryd.func32 (by kernel_rfl) rfl)
        (rel_iter 4 (by omega) W0 w2.heap.size (w2.heap.size + 1) r f hr he hf hTab3 (cells_of_block hbx.1 0 _ rfl) (cells_of_block hbx.2 0 _ rfl)) kpR_t
        (fun W l' ob ob' hl' h1 _ _ => ⟨World.putObj_heap_other (by omega), World.putObj_heap_other (by omega)⟩) (Below.refl _ _) (fun _ => rfl)
        (fun pre W => ∃ oo, Tl W B T oo (l ++ pre) (f + 504) ∧ (l ++ pre).length ≤ 512 ∧ W.heap[w.heap.size]? = some (.cells #[.pointer (some ⟨T, 0, none⟩)] 54 (0, 0)) ∧ W.heap[w.heap.size + 1]? = some (.cells #[.bool false] 4 (0, 0)) ∧
          (∀ k, oo = some k → k ≠ w.heap.size ∧ k ≠ w.heap.size + 1 ∧ k ≠ w2.heap.size + 1) ∧ Below B w W ∧ W0.heap.size ≤ W.heap.size)
        (fun c pre W => c = .ret ∧ 512 < (l ++ pre).length ∧ W.heap[w.heap.size + 1]? = some (.cells #[.bool false] 4 (0, 0)) ∧ Below B w W ∧ W0.heap.size ≤ W.heap.size)
        ?hI ?hIx ?h0
        (fun x => { tmps := #[.pointer (some ⟨T, 0, none⟩), .int .u64 (r : Nat), .pointer (some ⟨w.heap.size, 0, none⟩), undef, .pointer (some ⟨w.heap.size + 1, 0, none⟩), .int .u64 (f : Nat), .int .u64 (x : Nat), .int .u64 (r : Nat), .int .u64 1, .bool false, undef, undef, undef, undef, undef, undef, undef, undef,
          .pointer (some ⟨T, 0, none⟩), .pointer (some ⟨T, 0, none⟩), .pointer (some ⟨T, 1, none⟩), .int .u64 (f : Nat), .pointer (some ⟨T, 0, none⟩), .pointer (some ⟨T, 0, none⟩), .pointer (some ⟨T, 0, none⟩), .slice va l.length vc, .int .i64 (l.length : Nat), .bool false, .bool false, .pointer (some ⟨T, 0, none⟩), .int .u64 (f : Nat), .bool true, .bool false, .bool false, .int .u64 (r : Nat), .int .u64 (f : Nat),
          .func (.func 32) #[] #[.pointer (some ⟨w2.heap.size, 0, none⟩), .pointer (some ⟨w2.heap.size + 1, 0, none⟩)], .int .u64 (x : Nat), undef, undef, undef, undef], defers := [] }) ?assign ?body ?done ?stop
      case hI =>
        rintro s W W' row ⟨oo, q1, q2, q3, q4, q5, q6, q7⟩ hg hr'
        have hr2 : ∀ r, row = some r → ∃ o : Obj, W.heap[r]? = some o ∧ o.isCells = false := fun r e => (hr' r e).2
        exact ⟨oo, q1.kept hg hr2, q2, by rw [kept_block ⟨_, _, _, q3⟩ hg hr2]; exact q3, by rw [kept_block ⟨_, _, _, q4⟩ hg hr2]; exact q4, q5, q6.grown hg (by omega) (fun k hk => by have := (hr' k hk).1; omega), Nat.le_trans q7 hg.size⟩
      case hIx =>
        rintro c s W W' row ⟨q1, q2, q4, q6, q7⟩ hg hr'
        have hr2 : ∀ r, row = some r → ∃ o : Obj, W.heap[r]? = some o ∧ o.isCells = false := fun r e => (hr' r e).2
        exact ⟨q1, q2, by rw [kept_block ⟨_, _, _, q4⟩ hg hr2]; exact q4, q6.grown hg (by omega) (fun k hk => by have := (hr' k hk).1; omega), Nat.le_trans q7 hg.size⟩
      case h0 => exact ⟨o, by rw [List.append_nil]; exact hT3, by rw [List.append_nil]; exact hl, hX03, hX13, fun k hk => by have := hoz k hk; omega, hBW3, Nat.le_refl _⟩
      case assign =>
        intro l' x W K hK
        gi_wp2
        exact hK
      case body =>
        rintro l' pre x W ⟨oo, q1, q2, q3, q4, q5, q6, q7⟩ _
        have d0 := cells_of_block q3 0 _ rfl
        have f1 := frozen_bk q4 0
        have d1 := cells_of_block q4 0 _ rfl
        have Q1 := hide q1
        have Q3 := hide q3
        have Q4 := hide q4
        have Q5 := hide q5
        have Q6 := hide q6
        clear q1 q3 q4 q5 q6
        by_cases h5 : (l ++ pre).length = 512
        · have hA := rel_add_no W B T oo (l ++ pre) (f + 504) Q1.out x h5
          gi_wp2
          refine ⟨trivial, ?_⟩
          refine (CallsIn.inRound l' (callsIn_wide.2 hA)).mono ?_
          rintro e W1 ⟨rfl, rfl⟩
          clear hA
          gi_wp2
          exact ⟨KeepsOthers.setCell _ _ _, rfl, by rw [← List.append_assoc, List.length_append, h5]; simp, set_one Q4.out _, Q6.out.setCell (p := ⟨w.heap.size + 1, 0, none⟩) (by show B ≤ w.heap.size + 1; omega) _, by simpa using q7⟩
        · have hA := rel_add W B T oo (l ++ pre) (f + 504) Q1.out (by omega) x (by omega)
          gi_wp2
          refine ⟨trivial, ?_⟩
          refine (CallsIn.inRound l' (callsIn_wide.2 hA)).mono ?_
          rintro e W1 ⟨rfl, o1, hT1, hg1, hn1⟩
          clear hA
          gi_wp2
          have hG1 : 0 < W.heap.size := by omega
          have hoo : ∀ k, oo = some k → B ≤ k := fun k hk => (Q1.out.own_ge k hk).1
          refine ⟨Q1.out.keeps hg1, ⟨hg1.block _ (by omega) (by omega) (fun e => (Q5.out _ e.symm).2.2 rfl), hg1.block _ hG1 (by omega) (fun e => by have := hoo _ e.symm; omega)⟩, o1, by rw [← List.append_assoc]; exact hT1, by rw [← List.append_assoc, List.length_append]; simp; simp at q2 h5; omega, ?_, ?_, ?_, ?_, ?_⟩
          · rw [hg1.block _ (by omega) (by omega) (fun e => (Q5.out _ e.symm).1 rfl)]; exact Q3.out
          · rw [hg1.block _ (by omega) (by omega) (fun e => (Q5.out _ e.symm).2.1 rfl)]; exact Q4.out
          · intro k hk
            rcases hn1 with e | ⟨q, e, hq⟩
            · exact Q5.out k (e.symm.trans hk)
            · rw [hk] at e; have := Option.some.inj e; omega
          · exact Q6.out.trans (hg1.below hbase hoo (by omega))
          · exact Nat.le_trans q7 hg1.size
      case done =>
        rintro D xs W hD rfl ⟨oo, q1, q2, q3, q4, q5, q6, q7⟩ hK
        have f1 := frozen_bk q4 0
        have d1 := cells_of_block q4 0 _ rfl
        have HS : Hid (stepD l f r = some (l ++ rowAll r f, f + 504)) := stepD_odd he hl0 h8 q2
        gi_wp2
        have hK' := (KeepsOthers.setCell W ⟨w.heap.size + 1, 0, none⟩ (.bool true)).same D _ hK rfl
        refine ⟨by simp, .inl ⟨_, _, rfl, run_takeDeferred hK', ?_⟩⟩
        have hc5 := cell_kept (cells_of_block (set_one q4 (.bool true)) 0 _ rfl) (grownBy_putObj' _ D (.deferred none)) (fun r e => by cases e; exact ⟨_, hK', rfl⟩)
        have hTx : Tl (W.setCell ⟨w.heap.size + 1, 0, none⟩ (.bool true)) B T oo (l ++ rowAll r f) (f + 504) := q1.move (set_bother _ _ _ _ _ (by omega)) (fun k hk => set_bother _ _ _ _ _ (q5 k hk).2.1)
        refine ⟨.bool true, ?_, (q6.setCell (p := ⟨w.heap.size + 1, 0, none⟩) (by show B ≤ w.heap.size + 1; omega) _).trans (belowK_b (w := W0) (by omega) _ D _ _ hD hK' rfl rfl), by rw [HS.out]; exact ⟨rfl, oo, hTx.kept (grownBy_putObj' _ D (.deferred none)) (fun r e => by cases e; exact ⟨_, hK', rfl⟩)⟩⟩
        simp [results, Tryd.f12, go_sem, hc5]
      case stop =>
        rintro D c pre W hD hpre ⟨rfl, q2, q4, q6, q7⟩ hK
        have HS : Hid (stepD l f r = none) := stepD_odd_no he (fun k => by
          have := hpre.length_le
          have k3 := k.2.2
          rw [List.length_append] at k3 q2
          omega)
        gi_wp2
        refine ⟨by simp, .inl ⟨_, _, rfl, run_takeDeferred hK, ?_⟩⟩
        have hc5 := cell_kept (cells_of_block q4 0 _ rfl) (grownBy_putObj' _ D (.deferred none)) (fun r e => by cases e; exact ⟨_, hK, rfl⟩)
        refine ⟨.bool false, ?_, q6.trans (belowK_b (w := W0) (by omega) _ D _ _ hD hK rfl rfl), by rw [HS.out]; rfl⟩
        simp [results, Tryd.f12, go_sem, hc5]
    · have hC := rel_count_no _ B T o l f HT0.out f 504 0 hf (by omega) (.inr ⟨by omega, rfl, rfl⟩)
      have HS : Hid (stepD l f r = none) := stepD_odd_no he (fun k => h8 k.2.1)
      gi_wp2
      refine ⟨trivial, ?_⟩
      refine (callsIn_wide.2 hC).mono ?_
      rintro e w2 ⟨rfl, hT2, hg2⟩
      have hz0 : ∀ k, o = some k → k ≠ w.heap.size ∧ k ≠ w.heap.size + 1 := fun k hk => by have := (hOl k hk).2; omega
      have hx2 : w2.heap[w.heap.size + 1]? = some (.cells #[.bool false] 4 (0, 0)) := by
        rw [hg2.block _ (by simp) (by omega) (fun e => (hz0 _ e.symm).2 rfl)]; exact HX.out.2
      have f1 := frozen_bk hx2 0
      have e1 := cells_of_block hx2 0 _ rfl
      have HX2 := hide hx2
      have HB2 : Hid (Below B w w2) := (HB0.out.mono hB).trans (hg2.below hbase (fun k hk => (hOl k hk).1) (Nat.le_trans hB HB0.out.size))
      clear hC hx2 hT2 hg2 t0 t1
      gi_wp2
      have hx3 := set_one HX2.out (.bool false)
      have hc := cells_of_block hx3 0 _ rfl
      refine ⟨.bool false, ?_, HB2.out.setCell (p := ⟨w.heap.size + 1, 0, none⟩) (by show B ≤ w.heap.size + 1; omega) _, by rw [HS.out]; rfl⟩
      simp [results, Tryd.f12, go_sem, hc]
end Go.Proofs.YtkelipoiopkokaaDoor
