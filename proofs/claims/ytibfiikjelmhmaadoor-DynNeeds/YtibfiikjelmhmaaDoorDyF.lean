
/-
  Layer 9's reference: the row of the tags that are looked at.
-/
import Derived.Test.YtibfiikjelmhmaaDoorDyE
set_option linter.unusedVariables false
namespace Go.Proofs.YtibfiikjelmhmaaDoor
open Go.RowKit Go.PlainAid Go.Sort
set_option maxHeartbeats 4000000 in
set_option maxRecDepth 20000 in
theorem ref9_singles (w : World) : Calls Tryd.prog 48 #[] w fun e w' => ∃ v, e = .returned v ∧ OwnU w' w.heap.size v singlesL ∧ Below w.heap.size w w' := by
  have HB0 : Hid (Below w.heap.size w (w.alloc (.cells (uv single0).toArray 26))) := (Below.refl _ _).alloc (Nat.le_refl _) _
  have HO0 : Hid (OwnU (w.alloc (.cells (uv single0).toArray 26)) w.heap.size (.slice (some ⟨w.heap.size, 0, none⟩) 9 9) single0) := OwnU.of_new w single0 (by decide)
  have hP := ref9_pairs (w.alloc (.cells (uv single0).toArray 26))
  have hs0 : (w.alloc (.cells (uv single0).toArray 26)).heap.size = w.heap.size + 1 := by simp
  rw [hs0] at hP
  clear hs0
  go_enter Tryd.func48, Tryd.ntmps48
  go_wp2_with fail
  refine hP.mono ?_
  rintro e w1 ⟨rfl, hA, hb, hlt⟩
  have hs0 : (w.alloc (.cells (uv single0).toArray 26)).heap.size = w.heap.size + 1 := by simp
  have HU : Hid (Uz w w1 (w.heap.size + 1) (.slice (some ⟨w.heap.size, 0, none⟩) 9 9) (singleA 0) pairsL) :=
    ⟨HB0.out.trans (hb.mono (by omega)), HO0.out.stay (by rw [hs0]; exact hb), hA, hlt, by simp [Value.ownBlock]⟩
  clear hP hA hb hlt HB0 HO0 hs0
  go_wp2
  go_loopw [1, 3] (fun v1 v3 wr => ∃ i : Nat, i ≤ 11 ∧ v3 = .int .i64 i ∧ Hid (Uz w wr (w.heap.size + 1) v1 (singleA i) pairsL)) (fun _ v3 _ => 11 - (intOf v3).toNat)
  case atStart => exact ⟨0, by omega, rfl, HU⟩
  case round =>
    obtain ⟨i, hi, rfl, HZ⟩ := hrel
    by_cases hlt : i < 11
    · have hltI : (i : Int) < 11 := by omega
      have hltJ : (i : Int) < 12 := by omega
      have HNX := hide (singleA_next (show i < 12 by omega))
      have hAr := HZ.out.arg
      obtain ⟨g', e', p1, p2, _, y0, y1⟩ := hAr.at i (show i < pairsL.length by show i < 12; omega)
      cases e'
      have hle := singleA_len i
      generalize (pairsL[i]'(show i < pairsL.length by show i < 12; omega)) = e at *
      have z0 : wr.drew.cell? ⟨w.heap.size + 1, i * 2, none⟩ = some (.int .u64 e.tag) := y0
      have z1 : wr.drew.cell? ⟨w.heap.size + 1, i * 2 + 1, none⟩ = some (.int .u64 e.val) := y1
      have HZd := hide (HZ.out.below (Below.refl _ _).drew)
      have HZa := hide (fun o => HZd.out.below ((Below.refl _ _).alloc (Nat.le_refl _) o))
      have HNW := hide (new_u wr.drew [e.tag, e.val])
      clear hAr y0 y1 p1 p2
      simp only [uv, List.map_cons, List.map_nil] at HNW
      go_wp2_with fail
      go_region_law (refine step_append_u rfl (.tmp 15) (.tmp 26) rfl w.heap.size _ (singleA i) [e.tag, e.val] (HZa.out _).own rfl _ 2 rfl HNW.out (by simp; omega) (HZa.out _).bel.size ?_; intro v6 W6 r6 g6 n6; have HR6 := hide r6; have HG6 := hide g6; have HN6 := hide n6; clear r6 g6 n6)
      all_goals
        have HZN := hide (HZd.out.app (l' := singleA (i + 1)) (by rw [HNX.out]; exact HR6.out) (grown_alloc HG6.out) (by rcases HN6.out with q | q; exact .inl q; exact .inr ⟨_, q, by simp⟩))
        clear HZa HNW z0 z1 HG6 HR6 HN6 HZ HZd
        go_wp2
        go_roundw
        case rel => exact ⟨i + 1, by omega, by go_num, HZN⟩
        case measure => simp [intOf]; omega
    · have hltI : ¬ (i : Int) < 11 := by omega
      have he : i = 11 := by omega
      subst he
      have hle := singleA_len 11
      go_wp2_with (at_builtin; refine append_u rfl _ _ rfl w.heap.size wr _ (singleA 11) [20] HZ.out.own rfl rfl (by simp; omega) HZ.out.bel.size ?_)
      intro v2 w2 h1 h2 h3
      have HZ2 := hide (HZ.out.app h1 h2 h3)
      have hF := ref9_fixed w2
      clear h1 h2 h3 HZ
      go_wp2_with fail
      refine hF.mono ?_
      rintro e w3 ⟨rfl, hA, hb, hlt3⟩
      have HU : Hid (Uz w w3 w2.heap.size v2 (singleB 0) fixedL) := ⟨HZ2.out.bel.trans (hb.mono HZ2.out.bel.size), by unfold singleB; simpa using HZ2.out.own.stay hb, hA, hlt3, fun e => by have := (World.ownsRow.lt HZ2.out.own _ e).2; omega⟩
      clear hF hA hb hlt3 HZ2 hle
      go_wp2
      go_loopw [1, 5] (fun v1 v5 wr => ∃ i : Nat, i ≤ 4 ∧ v5 = .int .i64 i ∧ Hid (Uz w wr w2.heap.size v1 (singleB i) fixedL)) (fun _ v5 _ => 4 - (intOf v5).toNat)
      case atStart => exact ⟨0, by omega, rfl, HU⟩
      case round =>
        obtain ⟨i, hi, rfl, HZ⟩ := hrel
        by_cases hlt : i < 4
        · have hltI : (i : Int) < 4 := by omega
          have HNX := hide (singleB_next hlt)
          have hAr := HZ.out.arg
          obtain ⟨g', e', p1, p2, _, y0, y1⟩ := hAr.at i hlt
          cases e'
          have hle := singleB_len i
          generalize (fixedL[i]'hlt) = e at *
          clear hAr p1 p2 y1
          go_wp2_with (at_builtin; refine append_u rfl _ _ rfl w.heap.size wr _ (singleB i) [e.tag] HZ.out.own rfl rfl (by simp; omega) HZ.out.bel.size ?_)
          intro v4 w4 h1 h2 h3
          have HZN := hide (HZ.out.app (l' := singleB (i + 1)) (by rw [HNX.out]; exact h1) h2 h3)
          clear h1 h2 h3 HZ y0
          go_wp2
          go_roundw
          case rel => exact ⟨i + 1, by omega, by go_num, HZN⟩
          case measure => simp [intOf]; omega
        · have hltI : ¬ (i : Int) < 4 := by omega
          have he : i = 4 := by omega
          subst he
          go_wp2
          go_ret
          exact ⟨_, rfl, HZ.out.own, HZ.out.bel⟩
end Go.Proofs.YtibfiikjelmhmaaDoor
