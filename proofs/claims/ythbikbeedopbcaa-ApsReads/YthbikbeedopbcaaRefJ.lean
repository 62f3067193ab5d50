
/-
  The reference of layer 3: S and Left keep their contracts.
-/
import Derived.Test.YthbikbeedopbcaaRefI
set_option linter.unusedVariables false
namespace Go.Proofs.Ythbikbeedopbcaa
open Go.RowKit Go.PlainAid
def SA (sl0 : Value) (l : List UInt8) (v : Value) : Prop :=
  (¬ whole l ∧ ∃ sl, v = .tuple #[.agg #[sl, .int .i64 (noErr l)], .int .i64 0] ∧ IsSl sl) ∨
  (whole l ∧ (hiN 10 l = 9 ∧ gl l 10 ≠ 0 ∧ gl l 10 ≠ 127) ∧ ∃ sl, v = .tuple #[.agg #[sl, .int .i64 30], .int .i64 0] ∧ IsSl sl) ∨
  (whole l ∧ ¬ (hiN 10 l = 9 ∧ gl l 10 ≠ 0 ∧ gl l 10 ≠ 127) ∧ ∃ sl, v = .tuple #[.agg #[sl, .int .i64 0], .int .i64 (IntKind.i64.wrap (nb (rbits (grp l) (hiN 10 l + 1) true)))] ∧ Cut sl0 sl l (hiN 10 l + 1))
set_option maxHeartbeats 1000000 in
theorem ref_S_fail (w : World) (sl : Value) (h : IsSl sl) (f : Int) (hf : (f == 0) = false) :
    Calls Try.prog 32 #[.agg #[sl, .int .i64 f]] w fun e w' => e = .returned (.tuple #[.agg #[sl, .int .i64 f], .int .i64 0]) ∧ Below w.heap.size w w' := by
  have hX := Bx.start w sl (.int .i64 f)
  have hG := ref_groups_fail ((w.alloc (.cells #[sl, .int .i64 f] 80)).alloc (.cells #[.slice none 0 0, .int .i64 0] 80)) sl h f hf
  have HX : Hid _ := hX
  clear hX
  obtain ⟨a, n, cap, rfl⟩ := h
  go_enter Try.func32, Try.ntmps32
  go_wp2_with fail
  refine hG.mono ?_
  rintro e w1 ⟨rfl, b1⟩
  have HX1 := HX.out.stay b1
  have HX2 := HX1.put (.slice a n cap) (.int .i64 f)
  have HXX : Hid _ := HX2
  obtain ⟨c0, c1, d0, d1, e0, e1, f0, f1, b, s⟩ := HX1
  clear hG HX2 b s b1 HX
  go_wp2
  refine bodyPost_ret (v := .tuple #[.agg #[.slice a n cap, .int .i64 f], .int .i64 0]) (by simp [results, Try.results32, go_sem, d0, d1]) rfl ⟨rfl, ?_⟩
  exact (HXX.out.b.setCell (by simp) _).setCell (by simp) _
set_option maxHeartbeats 4000000 in
set_option maxRecDepth 20000 in
theorem ref_S_ok (w : World) (sl : Value) (l : List UInt8) (h : Rs w sl l) (hlen : l.length ≤ 100000) :
    Calls Try.prog 32 #[.agg #[sl, .int .i64 0]] w fun e w' => ∃ v, e = .returned v ∧ SA sl l v ∧ Below w.heap.size w w' := by
  have HX : Hid (Bx w ((w.alloc (.cells #[sl, .int .i64 0] 80)).alloc (.cells #[.slice none 0 0, .int .i64 0] 80)) sl (.int .i64 0)) := Bx.start w sl (.int .i64 0)
  have hG := ref_groups_ok ((w.alloc (.cells #[sl, .int .i64 0] 80)).alloc (.cells #[.slice none 0 0, .int .i64 0] 80)) sl l (h.stay HX.out.b) hlen
  have hisl : IsSl sl := by obtain ⟨a, cap, e, _⟩ := h; exact ⟨_, _, _, e⟩
  obtain ⟨a, n0, cap0, rfl⟩ := hisl
  clear h
  go_enter Try.func32, Try.ntmps32
  go_wp2_with fail
  refine hG.mono ?_
  rintro e w1 ⟨v, rfl, hgrp, b1⟩
  have HX1 := HX.out.stay b1
  clear hG HX
  rcases hgrp with ⟨hw, sl', gv, rfl, hcut, hown⟩ | ⟨hw, sl', rfl, hsl⟩
  · have hown1 : Own w1 (w.heap.size + 2) gv (grp l) := by unfold grp; simpa using hown
    have hgl := grp_len hw
    obtain ⟨gb, capg, rfl, hgB, hgs, hg1, hg2, hgc⟩ := hown1.getD (by intro e; rw [e] at hgl; simp at hgl)
    have hcg : capg ≤ 9223372036854775807 := by unfold maxLen at hg2; omega
    rw [hgl] at hg1 hgc ⊢
    have h10 := hw.1
    have hXX := HX1.put sl' (.int .i64 0)
    obtain ⟨a2, n2, cap2, hsl2⟩ := hcut.1
    subst hsl2
    have HCUT : Hid (Cut (.slice a n0 cap0) (.slice a2 n2 cap2) l (hiN 10 l + 1)) := hcut
    have HW : Hid (whole l) := hw
    have hne1 : gb ≠ w.heap.size := by omega
    have hgc2 : ∀ j, j < hiN 10 l + 1 → ((w1.setCell ⟨w.heap.size, 0, none⟩ (.slice a2 n2 cap2)).setCell ⟨w.heap.size, 1, none⟩ (.int .i64 0)).cell? ⟨gb, j, none⟩ = some (.int .u8 (((grp l).getD j 0).toNat : Int)) := by
      intro j hj
      rw [World.cell?_setCell_other _ _ _ _ (by simp <;> omega), World.cell?_setCell_other _ _ _ _ (by simp <;> omega)]; exact hgc j hj
    have h9 := fun h => grp_nine hw h
    have hBit := ref_bits (((w1.setCell ⟨w.heap.size, 0, none⟩ (.slice a2 n2 cap2)).setCell ⟨w.heap.size, 1, none⟩ (.int .i64 0)).drew) gb (hiN 10 l + 1) capg (grp l) hgl (by omega) (by omega) hg1 hg2 hgc2 (by simpa using hgs) true
    have hR64 := rbits_len (grp l) (hiN 10 l + 1) true hgl
    have HXX : Hid (Bx w ((w1.setCell ⟨w.heap.size, 0, none⟩ (.slice a2 n2 cap2)).setCell ⟨w.heap.size, 1, none⟩ (.int .i64 0)) (.slice a2 n2 cap2) (.int .i64 0)) := hXX
    obtain ⟨c0, c1, d0, d1, e0, e1, f0, f1, b, s⟩ := HX1
    clear hown hown1 hgl hcut hw b s b1 hXX
    by_cases hbig : hiN 10 l = 9 ∧ gl l 10 ≠ 0 ∧ gl l 10 ≠ 127
    · have HBIG : Hid (hiN 10 l = 9 ∧ gl l 10 ≠ 0 ∧ gl l 10 ≠ 127) := hbig
      have hc9 : w1.cell? ⟨gb, 9, none⟩ = some (.int .u8 (gl l 10)) := by rw [← h9 hbig.1]; exact hgc 9 (by omega)
      have hgl1 : (gl l 10 != 0) = true := by simpa using hbig.2.1
      have hgl2 : (gl l 10 != 127) = true := by simpa using hbig.2.2
      rw [hbig.1]
      clear hbig h9 hBit hgc hgc2
      obtain ⟨d9, hd9⟩ : ∃ d9, gl l 10 = d9 := ⟨_, rfl⟩
      rw [hd9] at hc9 hgl1 hgl2
      clear hd9
      have HX3 := HXX.out.err (.int .i64 30)
      have HX4 : Hid (Bx w _ _ _) := HX3
      obtain ⟨p0, p1, q0, q1, _, _, _, _, _, _⟩ := HX3
      go_wp2
      refine bodyPost_ret (v := .tuple #[.agg #[.slice a2 n2 cap2, .int .i64 30], .int .i64 0]) (by simp [results, Try.results32, go_sem, d0, d1]) rfl ⟨_, rfl, .inr (.inl ⟨HW.out, HBIG.out, _, rfl, _, _, _, rfl⟩), ?_⟩
      exact (HX4.out.b.setCell (by simp) _).setCell (by simp) _
    · have HBIG : Hid (¬ (hiN 10 l = 9 ∧ gl l 10 ≠ 0 ∧ gl l 10 ≠ 127)) := hbig
      have hcase : (((hiN 10 l : Int) + 1 == 10) = false) ∨ (((hiN 10 l : Int) + 1 == 10) = true ∧ (9 : Int) < (hiN 10 l : Int) + 1 ∧ ∃ d9, w1.cell? ⟨gb, 9, none⟩ = some (.int .u8 d9) ∧ (((d9 != 0) = false) ∨ ((d9 != 0) = true ∧ (d9 != 127) = false))) := by
        by_cases h : hiN 10 l = 9
        · right
          refine ⟨by rw [h]; rfl, by omega, gl l 10, by rw [← h9 h]; exact hgc 9 (by omega), ?_⟩
          by_cases hz : gl l 10 = 0
          · left; rw [hz]; rfl
          · right
            refine ⟨by simpa using hz, ?_⟩
            by_cases hz2 : gl l 10 = 127
            · rw [hz2]; rfl
            · exact absurd ⟨h, hz, hz2⟩ hbig
        · left; rw [beq_eq_false_iff_ne]; omega
      have HH : Hid (∃ n, hiN 10 l = n) := ⟨_, rfl⟩
      have hXd : Bx w (((w1.setCell ⟨w.heap.size, 0, none⟩ (.slice a2 n2 cap2)).setCell ⟨w.heap.size, 1, none⟩ (.int .i64 0)).drew) (.slice a2 n2 cap2) (.int .i64 0) := by
        obtain ⟨p0, p1, p2, p3, p4, p5, p6, p7, p8, p9⟩ := HXX.out
        exact ⟨p0, p1, p2, p3, p4, p5, p6, p7, p8.drew, p9⟩
      have HXD : Hid _ := hXd
      have hp0 := hXd.c0
      have hp1 := hXd.c1
      have HR64 : Hid ((rbits (grp l) (hiN 10 l + 1) true).length = 64) := hR64
      clear hbig h9 hgc hgc2 hXd hR64
      rcases hcase with hn10 | ⟨hn10, hn9, d9, hc9, hd9 | ⟨hd9, hd10⟩⟩
      · go_wp2_with fail
        go_region_held_law (fun w' => w'.cell? ⟨w.heap.size, 0, none⟩ = some (.slice a2 n2 cap2) ∧ w'.cell? ⟨w.heap.size, 1, none⟩ = some (.int .i64 0))
          (first | assumption | exact ⟨by assumption, by assumption⟩ | go_keep)
          (first
            | (go_at_call 37; refine hBit.mono ?_; rintro e w12 ⟨vb, rfl, hisb, b12⟩; have HX12 := HXD.out.stay b12; have HX12b : Hid _ := HX12; have g0 := HX12.c0; have g1 := HX12.c1; clear HX12 b12)
            | (go_at_call 36; refine (isB_number _ _ _ hisb HR64.out).mono ?_; rintro e w13 ⟨rfl, b13⟩; have HX13 := HX12b.out.stay b13; have HX13b : Hid _ := HX13; obtain ⟨r0, r1, r2, r3, r4, r5, r6, r7, _, _⟩ := HX13; clear b13))
        all_goals go_wp2
        refine bodyPost_ret (v := .tuple #[.agg #[.slice a2 n2 cap2, .int .i64 0], .int .i64 (IntKind.i64.wrap (nb (rbits (grp l) (hiN 10 l + 1) true)))]) (by simp [results, Try.results32, go_sem, r2, r3]) rfl ⟨_, rfl, .inr (.inr ⟨HW.out, HBIG.out, _, rfl, HCUT.out⟩), ?_⟩
        exact (HX13b.out.b.setCell (by simp) _).setCell (by simp) _
      · go_wp2_with fail
        go_region_held_law (fun w' => w'.cell? ⟨w.heap.size, 0, none⟩ = some (.slice a2 n2 cap2) ∧ w'.cell? ⟨w.heap.size, 1, none⟩ = some (.int .i64 0))
          (first | assumption | exact ⟨by assumption, by assumption⟩ | go_keep)
          (first
            | (go_at_call 37; refine hBit.mono ?_; rintro e w12 ⟨vb, rfl, hisb, b12⟩; have HX12 := HXD.out.stay b12; have HX12b : Hid _ := HX12; have g0 := HX12.c0; have g1 := HX12.c1; clear HX12 b12)
            | (go_at_call 36; refine (isB_number _ _ _ hisb HR64.out).mono ?_; rintro e w13 ⟨rfl, b13⟩; have HX13 := HX12b.out.stay b13; have HX13b : Hid _ := HX13; obtain ⟨r0, r1, r2, r3, r4, r5, r6, r7, _, _⟩ := HX13; clear b13))
        all_goals go_wp2
        refine bodyPost_ret (v := .tuple #[.agg #[.slice a2 n2 cap2, .int .i64 0], .int .i64 (IntKind.i64.wrap (nb (rbits (grp l) (hiN 10 l + 1) true)))]) (by simp [results, Try.results32, go_sem, r2, r3]) rfl ⟨_, rfl, .inr (.inr ⟨HW.out, HBIG.out, _, rfl, HCUT.out⟩), ?_⟩
        exact (HX13b.out.b.setCell (by simp) _).setCell (by simp) _
      · go_wp2_with fail
        go_region_held_law (fun w' => w'.cell? ⟨w.heap.size, 0, none⟩ = some (.slice a2 n2 cap2) ∧ w'.cell? ⟨w.heap.size, 1, none⟩ = some (.int .i64 0))
          (first | assumption | exact ⟨by assumption, by assumption⟩ | go_keep)
          (first
            | (go_at_call 37; refine hBit.mono ?_; rintro e w12 ⟨vb, rfl, hisb, b12⟩; have HX12 := HXD.out.stay b12; have HX12b : Hid _ := HX12; have g0 := HX12.c0; have g1 := HX12.c1; clear HX12 b12)
            | (go_at_call 36; refine (isB_number _ _ _ hisb HR64.out).mono ?_; rintro e w13 ⟨rfl, b13⟩; have HX13 := HX12b.out.stay b13; have HX13b : Hid _ := HX13; obtain ⟨r0, r1, r2, r3, r4, r5, r6, r7, _, _⟩ := HX13; clear b13))
        all_goals go_wp2
        refine bodyPost_ret (v := .tuple #[.agg #[.slice a2 n2 cap2, .int .i64 0], .int .i64 (IntKind.i64.wrap (nb (rbits (grp l) (hiN 10 l + 1) true)))]) (by simp [results, Try.results32, go_sem, r2, r3]) rfl ⟨_, rfl, .inr (.inr ⟨HW.out, HBIG.out, _, rfl, HCUT.out⟩), ?_⟩
        exact (HX13b.out.b.setCell (by simp) _).setCell (by simp) _
  · have HXX : Hid _ := HX1.put sl' (.int .i64 (noErr l))
    obtain ⟨a2, n2, cap2, rfl⟩ := hsl
    have hE := noErr_ne l
    have HW : Hid (¬ whole l) := hw
    obtain ⟨c0, c1, d0, d1, e0, e1, f0, f1, b, s⟩ := HX1
    clear b s b1 hw
    obtain ⟨E, hEE⟩ : ∃ E, noErr l = E := ⟨_, rfl⟩
    rw [hEE] at hE HXX
    have HEE : Hid (noErr l = E) := hEE
    rw [hEE]
    clear hEE
    go_wp2
    refine bodyPost_ret (v := .tuple #[.agg #[.slice a2 n2 cap2, .int .i64 E], .int .i64 0]) (by simp [results, Try.results32, go_sem, d0, d1]) rfl ⟨_, rfl, .inl ⟨HW.out, _, by rw [HEE.out], _, _, _, rfl⟩, ?_⟩
    exact (HXX.out.b.setCell (by simp) _).setCell (by simp) _
end Go.Proofs.Ythbikbeedopbcaa
