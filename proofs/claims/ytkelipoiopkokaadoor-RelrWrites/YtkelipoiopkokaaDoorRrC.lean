
/-
  Layer 13 (relr): what one more word tells.
-/
import Derived.Test.YtkelipoiopkokaaDoorRrB
set_option linter.unusedVariables false
namespace Go.Proofs.YtkelipoiopkokaaDoor
open Go.RowKit Go.PlainAid Go.Sort Go.Shelf
attribute [local go_sem] Oper.semAt_some
theorem and_one (r : Nat) (hr : r < 18446744073709551616) : bits .and .u64 (r : Int) 1 = ((r % 2 : Nat) : Int) := by
  have e : (1 : Int) = ((1 : Nat) : Int) := rfl
  rw [e, bits_and_u64_nat r 1 hr (by omega), Nat.and_one_is_mod]
theorem gr_keeps {w w' : World} {T : Nat} {o : Option Nat} (h : Gr w w' T o) (hT : ∃ cs t r, w.heap[T]? = some (.cells cs t r)) (ho : ∀ k, o = some k → ∃ cs t r, w.heap[k]? = some (.cells cs t r)) : KeepsOthers w w' := by
  refine ⟨h.size, fun k ob hk hc => ?_⟩
  rw [h.block k (Array.getElem?_eq_some_iff.1 hk).1 ?_ ?_]
  · exact hk
  · rintro rfl
    obtain ⟨cs, t, r, e⟩ := hT
    rw [hk] at e; injection e with e; subst e; cases hc
  · intro e
    obtain ⟨cs, t, r, e⟩ := ho k e.symm
    rw [hk] at e; injection e with e; subst e; cases hc
theorem OwnN.cellsAt {w : World} {B : Nat} {v : Value} {l : List Nat} (h : OwnN w B v l) : ∀ k, v.ownBlock = some k → ∃ cs t r, w.heap[k]? = some (.cells cs t r) := by
  intro k hk
  unfold OwnN at h
  rcases h.2 with ⟨rfl, _⟩ | ⟨g, cap, cur, rfl, hB, hg, _⟩
  · cases hk
  · have : g = k := Option.some.inj hk
    subst this
    exact ⟨_, _, _, hg⟩
theorem Tl.keeps {w w' : World} {B T : Nat} {o : Option Nat} {l : List Nat} {f : Nat} (h : Tl w B T o l f) (hg : Gr w w' T o) : KeepsOthers w w' := by
  obtain ⟨v, h1, h2, rfl⟩ := h.block
  exact gr_keeps hg ⟨_, _, _, h1⟩ h2.cellsAt
/-- What stays where a block that is no cells turns. -/
theorem kept_block {W W' : World} {row : Option Nat} {k : Nat} (hk : ∃ cs t r, W.heap[k]? = some (.cells cs t r)) (hg : W.grownBy W' row) (hr : ∀ r, row = some r → ∃ o : Obj, W.heap[r]? = some o ∧ o.isCells = false) : W'.heap[k]? = W.heap[k]? := by
  obtain ⟨cs, t, q, hk⟩ := hk
  refine hg.block k (Array.getElem?_eq_some_iff.1 hk).1 (fun e => ?_)
  obtain ⟨ob, h1, h2⟩ := hr k e.symm
  rw [hk] at h1; injection h1 with h1; subst h1; cases h2
theorem Tl.kept {W W' : World} {row : Option Nat} {B T : Nat} {o : Option Nat} {l : List Nat} {f : Nat} (h : Tl W B T o l f) (hg : W.grownBy W' row) (hr : ∀ r, row = some r → ∃ o : Obj, W.heap[r]? = some o ∧ o.isCells = false) : Tl W' B T o l f := by
  obtain ⟨v, h1, h2, rfl⟩ := h.block
  exact h.move (kept_block ⟨_, _, _, h1⟩ hg hr) (fun k hk => kept_block (h2.cellsAt k hk) hg hr)
/-- What take answers. -/
def TakeIs (w' : World) (B T : Nat) (s : Option (List Nat × Nat)) (e : Ending) : Prop :=
  match s with
  | none => e = .returned (.bool false)
  | some (l', f') => e = .returned (.bool true) ∧ ∃ o', Tl w' B T o' l' f'
theorem stepD_even {l : List Nat} {f r : Nat} (he : r % 2 = 0) (h : l.length < 512) (h8 : r + 8 < 18446744073709551616) : stepD l f r = some (l ++ [r], r + 8) := by
  unfold stepD; rw [if_pos he, if_pos ⟨h, h8⟩]
theorem stepD_even_no {l : List Nat} {f r : Nat} (he : r % 2 = 0) (h : ¬ (l.length < 512 ∧ r + 8 < 18446744073709551616)) : stepD l f r = none := by
  unfold stepD; rw [if_pos he, if_neg h]
theorem stepD_odd {l : List Nat} {f r : Nat} (he : r % 2 = 1) (h : l ≠ []) (h8 : f + 504 < 18446744073709551616) (h5 : (l ++ rowAll r f).length ≤ 512) : stepD l f r = some (l ++ rowAll r f, f + 504) := by
  unfold stepD; rw [if_neg (by omega), if_pos ⟨h, h8, h5⟩]
theorem stepD_odd_no {l : List Nat} {f r : Nat} (he : r % 2 = 1) (h : ¬ (l ≠ [] ∧ f + 504 < 18446744073709551616 ∧ (l ++ rowAll r f).length ≤ 512)) : stepD l f r = none := by
  unfold stepD; rw [if_neg (by omega), if_neg h]
theorem box_cells (w : World) (x y : Value) (t u : TypeId) : ((w.alloc (.cells #[x] t)).alloc (.cells #[y] u)).heap[w.heap.size]? = some (.cells #[x] t (0, 0)) ∧ ((w.alloc (.cells #[x] t)).alloc (.cells #[y] u)).heap[w.heap.size + 1]? = some (.cells #[y] u (0, 0)) := by
  refine ⟨?_, ?_⟩
  · rw [heap_alloc_old _ _ (by simp)]; exact heap_alloc_new _ _
  · have e : w.heap.size + 1 = (w.alloc (.cells #[x] t)).heap.size := by simp
    rw [e]; exact heap_alloc_new _ _
theorem set_one {w : World} {g : Nat} {x : Value} {T : TypeId} (h : w.heap[g]? = some (.cells #[x] T (0, 0))) (v : Value) : (w.setCell ⟨g, 0, none⟩ v).heap[g]? = some (.cells #[v] T (0, 0)) := set_bk w g 0 v _ T _ h
set_option maxRecDepth 100000 in
set_option maxHeartbeats 2000000 in
theorem rel_take_even (w : World) (B T : Nat) (o : Option Nat) (l : List Nat) (f : Nat) (h : Tl w B T o l f) (hB : B ≤ w.heap.size) (hl : l.length ≤ 512) (r : Nat) (hr : r < 18446744073709551616) (he : r % 2 = 0) :
    Calls Tryd.prog 12 #[.pointer (some ⟨T, 0, none⟩), .int .u64 (r : Nat)] w fun e w' => Below B w w' ∧ TakeIs w' B T (stepD l f r) e := by
  refine (callsIn_wide (n := 5)).1 ?_
  have ha := and_one r hr
  rw [he] at ha
  have hTl := h.lt
  have hOl := h.own_ge
  have hb0 : Below w.heap.size w ((w.alloc (.cells #[.pointer (some ⟨T, 0, none⟩)] 54)).alloc (.cells #[.bool false] 4)) := Below.alloc (Below.alloc (Below.refl _ _) (Nat.le_refl _) _) (by simp) _
  have hx := box_cells w (.pointer (some ⟨T, 0, none⟩)) (.bool false) 54 4
  have HT0 := hide (h.below hb0)
  have HB0 := hide hb0
  have HX := hide hx
  have hbase := h.base
  clear hb0 hx h
  refine callsIn_of_wp_marks Tryd.func12 rfl trivial ?_ rfl
  simp only [Tryd.ntmps12, List.size_toArray, List.length_cons, List.length_nil, Nat.reduceAdd, Nat.reduceSub, Array.replicate_succ, Array.replicate_zero, List.push_toArray, List.append_toArray, List.nil_append, List.cons_append]
  by_cases h5 : l.length = 512
  · have hA := rel_add_no _ B T o l f HT0.out r h5
    have HS : Hid (stepD l f r = none) := stepD_even_no he (by omega)
    gi_wp2
    refine ⟨trivial, ?_⟩
    refine (callsIn_wide.2 hA).mono ?_
    rintro e w1 ⟨rfl, rfl⟩
    clear hA
    gi_wp2
    refine ⟨trivial, ?_⟩
    gi_wp2
    have hc := cells_of_block HX.out.2 0 _ rfl
    refine ⟨.bool false, ?_, HB0.out.mono hB, by rw [HS.out]; rfl⟩
    simp [results, Tryd.f12, go_sem, hc]
  · have hA := rel_add _ B T o l f HT0.out (Nat.le_trans hB HB0.out.size) r (by omega)
    gi_wp2
    refine ⟨trivial, ?_⟩
    refine (callsIn_wide.2 hA).mono ?_
    rintro e w1 ⟨rfl, o1, hT1, hg1, hn1⟩
    have hz0 : ∀ k, o = some k → k ≠ w.heap.size ∧ k ≠ w.heap.size + 1 := fun k hk => by have := (hOl k hk).2; omega
    have hx0 : w1.heap[w.heap.size]? = some (.cells #[.pointer (some ⟨T, 0, none⟩)] 54 (0, 0)) := by
      rw [hg1.block _ (by simp; omega) (by omega) (fun e => (hz0 _ e.symm).1 rfl)]; exact HX.out.1
    have hx1 : w1.heap[w.heap.size + 1]? = some (.cells #[.bool false] 4 (0, 0)) := by
      rw [hg1.block _ (by simp) (by omega) (fun e => (hz0 _ e.symm).2 rfl)]; exact HX.out.2
    have HB1 : Hid (Below B w w1) := (HB0.out.mono hB).trans (hg1.below hbase (fun k hk => (hOl k hk).1) (Nat.le_trans hB HB0.out.size))
    have d0 := cells_of_block hx0 0 _ rfl
    have HX1 := hide hx1
    have HT1 := hide hT1
    have ho1 : ∀ k, o1 = some k → k ≠ w.heap.size + 1 := fun k hk => by
      rcases hn1 with e | ⟨q, e, hq⟩
      · exact (hz0 k (e.symm.trans hk)).2
      · rw [hk] at e; have := Option.some.inj e; simp at hq; omega
    clear hA hx0 hx1 hT1 hg1 hn1
    by_cases h8 : r + 8 < 18446744073709551616
    · have hC := rel_count_yes w1 B T o1 (l ++ [r]) f HT1.out r 8 (r + 8) hr (by omega) (.inl ⟨h8, rfl, rfl⟩)
      have HS : Hid (stepD l f r = some (l ++ [r], r + 8)) := stepD_even he (by omega) h8
      gi_wp2
      refine ⟨trivial, ?_⟩
      refine (callsIn_wide.2 hC).mono ?_
      rintro e w2 ⟨rfl, hT2, hg2⟩
      have hx2 : w2.heap[w.heap.size + 1]? = some (.cells #[.bool false] 4 (0, 0)) := by
        rw [hg2.block _ (Array.getElem?_eq_some_iff.1 HX1.out).1 (by omega) (fun e => ho1 _ e.symm rfl)]; exact HX1.out
      have f1 := frozen_bk hx2 0
      have e1 := cells_of_block hx2 0 _ rfl
      have HX2 := hide hx2
      have HT2 := hide hT2
      have HB2 : Hid (Below B w w2) := HB1.out.trans (hg2.below hbase (fun k hk => (HT1.out.own_ge k hk).1) (Nat.le_trans hB (Nat.le_trans (Nat.le_refl _) HB1.out.size)))
      clear hC hx2 hT2 hg2
      gi_wp2
      have hx3 := set_one HX2.out (.bool true)
      have hc := cells_of_block hx3 0 _ rfl
      refine ⟨.bool true, ?_, HB2.out.setCell (p := ⟨w.heap.size + 1, 0, none⟩) (by show B ≤ w.heap.size + 1; omega) _, by rw [HS.out]; exact ⟨rfl, o1, HT2.out.move (set_bother _ _ _ _ _ (by omega)) (fun k hk => set_bother _ _ _ _ _ (ho1 k hk))⟩⟩
      simp [results, Tryd.f12, go_sem, hc]
    · have hC := rel_count_no w1 B T o1 (l ++ [r]) f HT1.out r 8 0 hr (by omega) (.inr ⟨by omega, rfl, rfl⟩)
      have HS : Hid (stepD l f r = none) := stepD_even_no he (by omega)
      gi_wp2
      refine ⟨trivial, ?_⟩
      refine (callsIn_wide.2 hC).mono ?_
      rintro e w2 ⟨rfl, hT2, hg2⟩
      have hx2 : w2.heap[w.heap.size + 1]? = some (.cells #[.bool false] 4 (0, 0)) := by
        rw [hg2.block _ (Array.getElem?_eq_some_iff.1 HX1.out).1 (by omega) (fun e => ho1 _ e.symm rfl)]; exact HX1.out
      have f1 := frozen_bk hx2 0
      have e1 := cells_of_block hx2 0 _ rfl
      have HX2 := hide hx2
      have HB2 : Hid (Below B w w2) := HB1.out.trans (hg2.below hbase (fun k hk => (HT1.out.own_ge k hk).1) (Nat.le_trans hB (Nat.le_trans (Nat.le_refl _) HB1.out.size)))
      clear hC hx2 hT2 hg2
      gi_wp2
      have hx3 := set_one HX2.out (.bool false)
      have hc := cells_of_block hx3 0 _ rfl
      refine ⟨.bool false, ?_, HB2.out.setCell (p := ⟨w.heap.size + 1, 0, none⟩) (by show B ≤ w.heap.size + 1; omega) _, by rw [HS.out]; rfl⟩
      simp [results, Tryd.f12, go_sem, hc]
end Go.Proofs.YtkelipoiopkokaaDoor
