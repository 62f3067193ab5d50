
/-
  Layer 18 (conf): the reference's line: a part more.
-/
import Derived.Test.YtmcefflgbliehaaDoorCgE
set_option linter.unusedVariables false
namespace Go.Proofs.YtmcefflgbliehaaDoor
open Go.RowKit Go.PlainAid Go.Sort
set_option maxHeartbeats 4000000 in
set_option maxRecDepth 20000 in
theorem line_new (W : World) (B N : Nat) (dv sv : Value) (F : Cf) (ss : List Sx) (h : RfAt W B dv sv F.dirs ss N) (hF : ss.map Sx.sc = F.secs) (hN : N ≤ 50000) (hB : B ≤ W.heap.size) (z : ByteArray) (hz : z.size ≤ 100000) (n : Int) (m : List UInt8) (hr : z.data.toList = 91 :: (m ++ [93])) (hm : nameC m = true) (hany : F.secs.any (isS m) = false) :
    Calls Tryd.prog 27 #[.agg #[dv, sv], .string z, .int .i64 n] W fun e w' => LineTo W B N dv sv (⟨F.dirs, F.secs ++ [⟨m, []⟩]⟩, 0) e w' := by
  have HLN := hide (LnAt.new W dv sv)
  have H := hide h
  have HF := hide hF
  obtain ⟨da, dc, rfl⟩ := row_form h.dirs
  obtain ⟨sa, sc, rfl⟩ := row_form h.secs
  obtain ⟨h0, hc⟩ := get_zero hr
  obtain ⟨K, hK, hK1, hKm, hex⟩ := open_text hr
  have hE := fun w => ref18_Ends z (tx [93]) w (by omega) (by decide)
  rw [hr, data_tx, suff1_cons 91 93 _ (by decide), (suff1_is m 93).1] at hE
  have hNm := fun w => ref18_Name ⟨m.toArray⟩ w (by rw [show (⟨m.toArray⟩ : ByteArray) = tx m from rfl, tx_size]; omega)
  simp only [hm] at hNm
  have hi : (0 : Int) < (z.size : Int) := by omega
  have hi2 : ¬ (z.size : Int) < 2 := by omega
  have hw : IntKind.i64.wrap ((z.size : Int) - 1) = (K : Int) := by rw [wrap_i64_is]; omega
  have hb1 : (1 : Int) ≤ (K : Int) := by omega
  have hb2 : (K : Int) ≤ (z.size : Int) := by omega
  unfold tx at hE
  have HANY := hide hany
  clear hany
  have HAX := hide (fun (wr : World) (hb : Below W.heap.size W wr) => (H.out.stay hb).argX (by omega))
  have HSL := hide (show ss.length ≤ 50000 from Nat.le_trans h.sm.2.1 hN)
  clear h hF hr hm hK hKm
  unfold zFl at HLN
  go_enter Tryd.func27, Tryd.ntmps27
  go_wp2_with fail
  generalize (W.alloc (.cells #[.slice da F.dirs.length dc, .slice sa ss.length sc] 32)).alloc (.cells #[.slice none 0 0, .slice none 0 0] 32) = W2 at *
  go_wp2_with (first
    | (go_at_call 20; refine (hE _).mono ?_; rintro e w1 ⟨rfl, rfl⟩)
    | (go_at_call 19; refine (hNm _).mono ?_; rintro e w1 ⟨rfl, rfl⟩))
  go_loopw [8] (fun vi wr => ∃ i : Nat, i ≤ ss.length ∧ vi = .int .i64 i ∧ Hid (LnAt W wr (.slice da F.dirs.length dc) (.slice sa ss.length sc)) ∧ Hid (∀ j (hj : j < ss.length), j < i → ss[j].name ≠ m)) (fun vi _ => ss.length - (intOf vi).toNat)
  case atStart => exact ⟨0, by omega, rfl, HLN.out, fun j hj h0 => by omega⟩
  case round =>
    obtain ⟨i, hi', rfl, HL, HJ⟩ := hrel
    clear HLN
    have HLN := HL
    clear HL
    by_cases hlt : i < ss.length
    · have hltI : (i : Int) < (ss.length : Int) := by omega
      have c1 := cells_of_block HLN.out.s3 1 _ rfl
      obtain ⟨g, o, rfl, q1, q2, q3, d0, d1⟩ := (HAX.out wr HLN.out.bw).at i hlt
      by_cases hn : ss[i].name = m
      · exfalso
        have := List.any_eq_false.1 HANY.out ss[i].sc (by rw [← HF.out]; exact List.mem_map.2 ⟨_, List.getElem_mem hlt, rfl⟩)
        exact this (by simpa [isS, Sx.sc] using hn)
      · have HJ2 : Hid (∀ j (hj : j < ss.length), j < i + 1 → ss[j].name ≠ m) := fun j hj h1 => by
          by_cases e : j = i
          · subst e; exact hn
          · exact HJ.out j hj (by omega)
        have hn2 : (ss[i].name == m) = false := by simpa using hn
        generalize ss[i].name = nm' at *
        unfold tx at d0
        go_wp2_with fail
        go_quiet (fail)
        go_wp2
        go_roundw
        case rel => exact ⟨i + 1, by omega, by go_num, HLN.out.stay (bel_drewN (Below.refl _ wr) _), HJ2⟩
        case measure => simp [intOf]; omega
    · have hltI : ¬ (i : Int) < (ss.length : Int) := by omega
      have hie : i = ss.length := by omega
      subst hie
      have HB1 := hide HLN.out.bw
      have a0 : wr.drew.cell? ⟨W.heap.size, 1, none⟩ = some (.slice sa ss.length sc) := cells_of_block (w := wr.drew) HLN.out.s3 1 _ rfl
      have a0' : wr.cell? ⟨W.heap.size, 1, none⟩ = some (.slice sa ss.length sc) := cells_of_block HLN.out.s3 1 _ rfl
      have HDA : Hid (∀ o, Below wr.heap.size wr (wr.drew.alloc o)) := fun o => (Below.refl _ wr).drew.alloc (Nat.le_refl _) o
      have HLA := hide (fun o => HLN.out.stay (HDA.out o))
      have HRA := hide (fun o => H.out.stay (HLA.out o).bw)
      have b0 : ∀ o, (wr.drew.alloc o).cell? ⟨W.heap.size, 1, none⟩ = some (.slice sa ss.length sc) := fun o => cells_of_block (HLA.out o).s3 1 _ rfl
      have b0' : ∀ o, (wr.alloc o).cell? ⟨W.heap.size, 1, none⟩ = some (.slice sa ss.length sc) := fun o => cells_of_block (HLN.out.stay (below_box wr o)).s3 1 _ rfl
      have HNX := hide (new_x wr.drew ⟨m, .slice none 0 0, []⟩ 40)
      unfold Sx.cells tx at HNX
      have HBL : Hid (∀ o, B ≤ (wr.drew.alloc o).heap.size) := fun o => Nat.le_trans hB (HLA.out o).bw.size
      go_wp2_with fail
      go_region_law (refine step_append_y rfl (.tmp 59) (.tmp 66) rfl B _ ss m (HRA.out _).secs rfl _ 1 rfl HNX.out (by have := HSL.out; omega) (HBL.out _) ?_; intro v6 W6 r6 g6 n6; have HP6 := hide ((HRA.out _).putSec r6 g6); have HT6 := hide ((Turn.of_below (HLA.out _).bw).trans (far_foot (W := W) HP6.out.2)); have b6 := (g6.block W.heap.size (Nat.lt_of_lt_of_le (Nat.lt_succ_self _) (Nat.le_of_lt (block_lt (HLA.out _).s6))) (fun e => by have := (World.ownsRow.lt H.out.secs _ e.symm).2; omega)).trans (HLA.out _).s3; have e6 := (g6.block (W.heap.size + 1) (block_lt (HLA.out _).s6) (fun e => by have := (World.ownsRow.lt H.out.secs _ e.symm).2; omega)).trans (HLA.out _).s6; have c6 := cells_of_block b6 1 _ rfl; have f6 := block_soft b6 1; have HB6 := hide b6; have HE6 := hide e6; obtain ⟨a6, k6, hv6⟩ := row_form r6; rw [List.length_append, List.length_singleton] at hv6; subst hv6; clear r6 g6 n6 b6 e6)
      all_goals
        have HP7 := hide (HP6.out.1.cell (j := 1) (u := .slice a6 (ss.length + 1) k6) HB6.out)
        have HT7 := hide (HT6.out.trans (far_cell (W := W) W.heap.size 1 (.slice a6 (ss.length + 1) k6) (Nat.le_refl _)))
        have h7 := block_set W6 W.heap.size 1 (.slice a6 (ss.length + 1) k6) _ _ _ HB6.out
        have HE7 : Hid ((W6.setCell ⟨W.heap.size, 1, none⟩ (.slice a6 (ss.length + 1) k6)).heap[W.heap.size + 1]? = some (.cells zFl.toArray 32 (0, 0))) := (Below.heap_setCell _ _ _ _ (show W.heap.size + 1 ≠ W.heap.size by omega)).trans HE6.out
        have y0 := cells_of_block h7 0 _ rfl
        have y1 := cells_of_block h7 1 _ rfl
        clear a0 a0' b0 b0' c6 f6 HDA HLA HRA HNX HBL h7
        go_wp2_with ((with_reducible refine at_storeQ (T := 32) ?_); refine store_part rfl _ _ _ rfl (W.heap.size + 1) 0 32 _ [.slice da F.dirs.length dc, .slice a6 (ss.length + 1) k6] [.slice da F.dirs.length dc, .slice a6 (ss.length + 1) k6].toArray HE7.out rfl rfl rf_size (fl_one _ _ ⟨_, _, _, rfl⟩ ⟨_, _, _, rfl⟩) (Nat.le_refl 2) (by rfl) ?_; intro w4 hg4 hb4; have HG4 := hide hg4; have HR4 := hide (HP7.out.store HE7.out hb4); have HT4 := hide (HT7.out.trans (far_store (W := W) hb4 (by omega))); clear hg4 hb4)
        refine bodyPost_ret (results_cell2 rfl _ _ (W.heap.size + 1) _ _ _ _ rfl HG4.out Tryd.underlying32 rfl (by kernel_rfl)) rfl ?_
        exact ⟨_, _, ss ++ [⟨m, .slice none 0 0, []⟩], rfl, by rw [List.map_append, HF.out]; rfl, HR4.out, far_end HT4.out⟩
end Go.Proofs.YtmcefflgbliehaaDoor
