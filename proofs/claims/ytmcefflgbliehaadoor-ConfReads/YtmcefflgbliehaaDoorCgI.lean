
/-
  Layer 18 (conf): the reference's line: a folder.
-/
import Derived.Test.YtmcefflgbliehaaDoorCgG
set_option linter.unusedVariables false
namespace Go.Proofs.YtmcefflgbliehaaDoor
open Go.RowKit Go.PlainAid Go.Sort
theorem RfAt.putDir' {w w' : World} {B N : Nat} {dv sv : Value} {ds : List Pr} {ss : List Sx} (hss : ss = []) (h : RfAt w B dv sv ds ss N) {p : Pr} {dv' : Value} (r : OwnP 73 w' B dv' (ds ++ [p])) (hg : w.grownBy w' dv.ownBlock) : RfAt w' B dv' sv (ds ++ [p]) ss (N + 1) ∧ Turn (foot2 dv sv) w w' := by
  subst hss
  exact h.putDir r hg
/-- Which folders' lines are wrong. -/
theorem fol_no {nm va : List UInt8} {ad : Bool} (h : folB ⟨nm, va, ad⟩ = false) : nm.length < 5 ∨ (5 ≤ nm.length ∧ (nm.take 4 == [100, 105, 114, 46]) = false) ∨ (5 ≤ nm.length ∧ nm.take 4 = [100, 105, 114, 46] ∧ (ad = true ∨ clE va = 40 ∨ (clE va = 0 ∧ (clT va == va) = false))) := by
  by_cases h5 : nm.length < 5
  · exact .inl h5
  · right
    by_cases h4 : nm.take 4 = [100, 105, 114, 46]
    · right
      refine ⟨by omega, h4, ?_⟩
      have hp : Lib.hasPrefix nm dirN = true := by
        unfold Lib.hasPrefix dirN
        rw [List.isPrefixOf_iff_prefix]
        exact ⟨nm.drop 4, by rw [← h4]; exact List.take_append_drop 4 nm⟩
      have ht : Lib.trimPrefix nm dirN = nm.drop 4 := by unfold Lib.trimPrefix; rw [if_pos hp]; rfl
      have hne : (nm.drop 4 != []) = true := by
        have : nm.drop 4 ≠ [] := fun e => by have := congrArg List.length e; simp at this; omega
        simpa using this
      unfold folB at h
      simp only [] at h
      rw [hp, ht, hne] at h
      cases ad with
      | true => exact .inl rfl
      | false =>
        right
        have h6 : isCl va = false := by simpa using h
        unfold isCl at h6
        unfold clE clT
        cases hc : can va with
        | false => exact .inl rfl
        | true =>
          rw [hc] at h6
          exact .inr ⟨rfl, by simpa using h6⟩
    · left
      exact ⟨by omega, by simpa using h4⟩
theorem fol_yes {nm va : List UInt8} {ad : Bool} (h : folB ⟨nm, va, ad⟩ = true) : 5 ≤ nm.length ∧ nm.take 4 = [100, 105, 114, 46] ∧ ad = false ∧ clE va = 0 ∧ clT va = va ∧ Lib.trimPrefix nm dirN = nm.drop 4 := by
  unfold folB at h
  simp only [Bool.and_eq_true, Bool.not_eq_true', bne_iff_ne, ne_eq] at h
  obtain ⟨⟨⟨hp, hne⟩, ha⟩, hc⟩ := h
  have ht : Lib.trimPrefix nm dirN = nm.drop 4 := by unfold Lib.trimPrefix; rw [if_pos hp]; rfl
  rw [ht] at hne
  unfold Lib.hasPrefix dirN at hp
  rw [List.isPrefixOf_iff_prefix] at hp
  obtain ⟨r, hr⟩ := hp
  unfold isCl at hc
  simp only [Bool.and_eq_true, beq_iff_eq] at hc
  refine ⟨?_, by rw [← hr]; rfl, ha, by unfold clE; rw [if_pos hc.1], by unfold clT; rw [if_pos hc.1, hc.2], ht⟩
  have : r ≠ [] := fun e => by subst e; apply hne; rw [← hr]; rfl
  rw [← hr]
  have := List.length_pos_iff.2 this
  simp; omega
theorem name_text (nm : List UInt8) : (⟨nm.toArray⟩ : ByteArray).extract 0 4 = ⟨(nm.take 4).toArray⟩ ∧ (⟨nm.toArray⟩ : ByteArray).extract 4 nm.length = ⟨(nm.drop 4).toArray⟩ := by
  refine ⟨?_, ?_⟩
  · rw [extract_mid]; rfl
  · have := extract_end (⟨nm.toArray⟩ : ByteArray) 4
    rw [show (⟨nm.toArray⟩ : ByteArray).size = nm.length from by rw [show (⟨nm.toArray⟩ : ByteArray) = tx nm from rfl, tx_size]] at this
    exact this
set_option maxHeartbeats 4000000 in
set_option maxRecDepth 20000 in
theorem line_dirno (W : World) (B N : Nat) (dv sv : Value) (F : Cf) (ss : List Sx) (h : RfAt W B dv sv F.dirs ss N) (hF : ss.map Sx.sc = F.secs) (hN : N ≤ 50000) (hB : B ≤ W.heap.size) (z : ByteArray) (hz : z.size ≤ 100000) (n : Int) (hn : z.data.toList ≠ []) (hp : Lib.hasPrefix z.data.toList [91] = false) (k : Nat) (hk : k < z.size) (hix : Lib.index z.data.toList [61] = (k : Int)) (nm va : List UInt8) (ad : Bool) (ht : readT z.data.toList = ⟨nm, va, ad⟩) (hb : nameC nm = true) (hss : ss = []) (hfo : folB ⟨nm, va, ad⟩ = false) :
    Calls Tryd.prog 27 #[.agg #[dv, sv], .string z, .int .i64 n] W fun e w' => LineTo W B N dv sv (F, 180) e w' := by
  have HLN := hide (LnAt.new W dv sv)
  have H := hide h
  have HF := hide hF
  obtain ⟨da, dc, rfl⟩ := row_form h.dirs
  obtain ⟨sa, sc, rfl⟩ := row_form h.secs
  obtain ⟨c, h0, hc, hc1, hc2⟩ := not_open hn hp
  have hi : (0 : Int) < (z.size : Int) := by omega
  have hFd : ∀ w, Calls Tryd.prog 25 #[.string z, .int .u8 61] w fun e w' => e = .returned (.int .i64 (k : Int)) ∧ w = w' := fun w => by
    have := ref18_find z 61 w (by omega)
    rw [hix] at this
    exact this
  obtain ⟨hxa, hxb, hla⟩ := sign_text z k hk
  have hcut := cut_at 61 z.data.toList k hix
  unfold readT at ht
  rw [hcut] at ht
  simp only [] at ht
  injection ht with ht1 ht2 ht3
  have hlb : (z.data.toList.drop (k + 1)).length ≤ z.size := by rw [List.length_drop, ← size_list]; omega
  generalize z.data.toList.take k = a at *
  generalize z.data.toList.drop (k + 1) = b at *
  obtain ⟨k1, hk1⟩ : ∃ k1, k + 1 = k1 := ⟨_, rfl⟩
  rw [hk1] at hxb
  have hk0 : ¬ (k : Int) < 0 := by omega
  have hk0' : (0 : Int) ≤ (k : Int) := by omega
  have hkz : (k : Int) ≤ (z.size : Int) := by omega
  have hwk : IntKind.i64.wrap ((k : Int) + 1) = (k1 : Int) := by rw [wrap_i64_is]; omega
  have hk1z : (k1 : Int) ≤ (z.size : Int) := by omega
  have hk10 : (0 : Int) ≤ (k1 : Int) := by omega
  have hE := fun w => ref18_Ends ⟨a.toArray⟩ ⟨#[43]⟩ w (by rw [show (⟨a.toArray⟩ : ByteArray) = tx a from rfl, tx_size]; omega) (by decide)
  simp only [ht3] at hE
  have hsl := suff_len a [43]
  have HT2 : Hid (TrimIs ⟨b.toArray⟩ ⟨va.toArray⟩) := ⟨by rw [show (⟨b.toArray⟩ : ByteArray) = tx b from rfl, tx_size]; omega, by rw [← ht2]; rfl⟩
  have HT1 : Hid (TrimIs ⟨(Lib.trimSuffix a [43]).toArray⟩ ⟨nm.toArray⟩) := ⟨by rw [show (⟨(Lib.trimSuffix a [43]).toArray⟩ : ByteArray) = tx (Lib.trimSuffix a [43]) from rfl, tx_size]; omega, by rw [← ht1]; rfl⟩
  have HNL : Hid (nm.length ≤ 100000) := by have := trim_len (Lib.trimSuffix a [43]); rw [ht1] at this; rw [Hid]; omega
  have HVL : Hid (va.length ≤ 100000) := by have := trim_len b; rw [ht2] at this; rw [Hid]; omega
  have hNm := fun w => ref18_Name ⟨nm.toArray⟩ w (by rw [show (⟨nm.toArray⟩ : ByteArray) = tx nm from rfl, tx_size]; have := HNL.out; omega)
  simp only [hb] at hNm
  have hCl := fun w => ref_Clean (tx va) w (by rw [tx_size]; have := HVL.out; omega)
  rw [data_tx] at hCl
  have hs0 : ¬ (0 : Int) < (ss.length : Int) := by rw [hss]; simp
  have HSS := hide hss
  obtain ⟨hx4, hx5⟩ := name_text nm
  have HCS := hide (fol_no hfo)
  clear hss hfo hx5
  generalize nm.take 4 = t4 at *
  generalize clT va = ct at *
  generalize clE va = ce at *
  unfold tx at hCl
  clear h hF hn hp hix hcut hk1 hk hlb
  cases ad with
  | true =>
    obtain ⟨K2, hK2, hxc⟩ := plus_text ht3
    have hw2 : IntKind.i64.wrap ((a.length : Int) - 1) = (K2 : Int) := by rw [wrap_i64_is]; omega
    have hK2a : (K2 : Int) ≤ (a.length : Int) := by omega
    have hK20 : (0 : Int) ≤ (K2 : Int) := by omega
    generalize Lib.trimSuffix a [43] = a' at *
    clear hK2 hla ht1 ht2 ht3 hsl
    unfold zFl at HLN
    go_enter Tryd.func27, Tryd.ntmps27
    go_wp2_with fail
    generalize (W.alloc (.cells #[.slice da F.dirs.length dc, .slice sa ss.length sc] 32)).alloc (.cells #[.slice none 0 0, .slice none 0 0] 32) = W2 at *
    go_wp2_with (first
      | (go_at_call 25; refine (hFd _).mono ?_; rintro e w1 ⟨rfl, rfl⟩)
      | (go_at_call 20; refine (hE _).mono ?_; rintro e w1 ⟨rfl, rfl⟩))
    go_region_law (go_simp; refine (call_trim (by first | exact HT1.out | exact HT2.out) _).mono ?_; rintro e w5 ⟨rfl, rfl⟩)
    all_goals
      have HLN3 := hide (HLN.out.stay ((below_box W2 (.cells #[.string ⟨nm.toArray⟩, .string ⟨va.toArray⟩, .int .i64 n] 73)).drew))
      have HP3 : Hid ((W2.alloc (.cells #[.string ⟨nm.toArray⟩, .string ⟨va.toArray⟩, .int .i64 n] 73)).drew.heap[W2.heap.size]? = some (.cells #[.string ⟨nm.toArray⟩, .string ⟨va.toArray⟩, .int .i64 n] 73 (0, 0))) := block_new W2 _
      have HW2 : Hid (W.heap.size + 2 ≤ W2.heap.size) := HLN.out.lt
      generalize (W2.alloc (.cells #[.string ⟨nm.toArray⟩, .string ⟨va.toArray⟩, .int .i64 n] 73)).drew = W3 at *
      have y0 := cells_of_block HP3.out 0 _ rfl
      have y1 := cells_of_block HP3.out 1 _ rfl
      have y2 := cells_of_block HP3.out 2 _ rfl
      clear HLN
      have HLN := HLN3
      clear HLN3
      have c0 := cells_of_block HLN.out.s3 0 _ rfl
      have c1 := cells_of_block HLN.out.s3 1 _ rfl
      rcases HCS.out with q1 | ⟨q1, q2⟩ | ⟨q1, q2, q3⟩
      · have i1 : (nm.length : Int) < 5 := by omega
        go_wp2_with (first
          | (go_at_call 19; refine (hNm _).mono ?_; rintro e w1 ⟨rfl, rfl⟩)
          | (go_at_call 31; refine (hCl _).mono ?_; rintro e w5 ⟨rfl, hb5⟩; have HL5 := hide (HLN.out.stay hb5); have HP5 := hide (block_stay HP3.out hb5); have z0 := cells_of_block HP5.out 0 _ rfl; have z1 := cells_of_block HP5.out 1 _ rfl; have c0' := cells_of_block HL5.out.s3 0 _ rfl; have c1' := cells_of_block HL5.out.s3 1 _ rfl; clear hb5)
          | ((with_reducible refine at_storeQ (T := 32) ?_); refine store_part rfl _ _ _ rfl (W.heap.size + 1) 0 32 _ [.slice da F.dirs.length dc, .slice sa ss.length sc] [.slice da F.dirs.length dc, .slice sa ss.length sc].toArray HL5.out.s6 rfl rfl rf_size (fl_one _ _ ⟨_, _, _, rfl⟩ ⟨_, _, _, rfl⟩) (Nat.le_refl 2) (by rfl) ?_; intro w4 hg4 hb4; have HG4 := hide hg4; have HB4 := hide (below_own HL5.out.bw hb4 (by omega) (Nat.le_refl _)); clear hg4 hb4))
        refine bodyPost_ret (results_cell2 rfl _ _ (W.heap.size + 1) _ _ _ _ rfl HG4.out Tryd.underlying32 rfl (by kernel_rfl)) rfl ?_
        exact ⟨_, _, ss, rfl, HF.out, (H.out.stay HB4.out).more (Nat.le_succ N), Turn.of_below HB4.out⟩
      · have i1 : ¬ (nm.length : Int) < 5 := by omega
        have i2 : (4 : Int) ≤ (nm.length : Int) := by omega
        go_wp2_with (first
          | (go_at_call 19; refine (hNm _).mono ?_; rintro e w1 ⟨rfl, rfl⟩)
          | (go_at_call 31; refine (hCl _).mono ?_; rintro e w5 ⟨rfl, hb5⟩; have HL5 := hide (HLN.out.stay hb5); have HP5 := hide (block_stay HP3.out hb5); have z0 := cells_of_block HP5.out 0 _ rfl; have z1 := cells_of_block HP5.out 1 _ rfl; have c0' := cells_of_block HL5.out.s3 0 _ rfl; have c1' := cells_of_block HL5.out.s3 1 _ rfl; clear hb5)
          | ((with_reducible refine at_storeQ (T := 32) ?_); refine store_part rfl _ _ _ rfl (W.heap.size + 1) 0 32 _ [.slice da F.dirs.length dc, .slice sa ss.length sc] [.slice da F.dirs.length dc, .slice sa ss.length sc].toArray HL5.out.s6 rfl rfl rf_size (fl_one _ _ ⟨_, _, _, rfl⟩ ⟨_, _, _, rfl⟩) (Nat.le_refl 2) (by rfl) ?_; intro w4 hg4 hb4; have HG4 := hide hg4; have HB4 := hide (below_own HL5.out.bw hb4 (by omega) (Nat.le_refl _)); clear hg4 hb4))
        refine bodyPost_ret (results_cell2 rfl _ _ (W.heap.size + 1) _ _ _ _ rfl HG4.out Tryd.underlying32 rfl (by kernel_rfl)) rfl ?_
        exact ⟨_, _, ss, rfl, HF.out, (H.out.stay HB4.out).more (Nat.le_succ N), Turn.of_below HB4.out⟩
      · have i1 : ¬ (nm.length : Int) < 5 := by omega
        have i2 : (4 : Int) ≤ (nm.length : Int) := by omega
        subst q2
        go_wp2_with (first
          | (go_at_call 19; refine (hNm _).mono ?_; rintro e w1 ⟨rfl, rfl⟩)
          | (go_at_call 31; refine (hCl _).mono ?_; rintro e w5 ⟨rfl, hb5⟩; have HL5 := hide (HLN.out.stay hb5); have HP5 := hide (block_stay HP3.out hb5); have z0 := cells_of_block HP5.out 0 _ rfl; have z1 := cells_of_block HP5.out 1 _ rfl; have c0' := cells_of_block HL5.out.s3 0 _ rfl; have c1' := cells_of_block HL5.out.s3 1 _ rfl; clear hb5)
          | ((with_reducible refine at_storeQ (T := 32) ?_); refine store_part rfl _ _ _ rfl (W.heap.size + 1) 0 32 _ [.slice da F.dirs.length dc, .slice sa ss.length sc] [.slice da F.dirs.length dc, .slice sa ss.length sc].toArray HL5.out.s6 rfl rfl rf_size (fl_one _ _ ⟨_, _, _, rfl⟩ ⟨_, _, _, rfl⟩) (Nat.le_refl 2) (by rfl) ?_; intro w4 hg4 hb4; have HG4 := hide hg4; have HB4 := hide (below_own HL5.out.bw hb4 (by omega) (Nat.le_refl _)); clear hg4 hb4))
        refine bodyPost_ret (results_cell2 rfl _ _ (W.heap.size + 1) _ _ _ _ rfl HG4.out Tryd.underlying32 rfl (by kernel_rfl)) rfl ?_
        exact ⟨_, _, ss, rfl, HF.out, (H.out.stay HB4.out).more (Nat.le_succ N), Turn.of_below HB4.out⟩
  | false =>
    have hta : Lib.trimSuffix a [43] = a := by unfold Lib.trimSuffix; rw [if_neg (by rw [ht3]; simp)]
    rw [hta] at HT1
    clear hta hla ht1 ht2 ht3 hsl
    unfold zFl at HLN
    go_enter Tryd.func27, Tryd.ntmps27
    go_wp2_with fail
    generalize (W.alloc (.cells #[.slice da F.dirs.length dc, .slice sa ss.length sc] 32)).alloc (.cells #[.slice none 0 0, .slice none 0 0] 32) = W2 at *
    go_wp2_with (first
      | (go_at_call 25; refine (hFd _).mono ?_; rintro e w1 ⟨rfl, rfl⟩)
      | (go_at_call 20; refine (hE _).mono ?_; rintro e w1 ⟨rfl, rfl⟩))
    go_region_law (go_simp; refine (call_trim (by first | exact HT1.out | exact HT2.out) _).mono ?_; rintro e w5 ⟨rfl, rfl⟩)
    all_goals
      have HLN3 := hide (HLN.out.stay ((below_box W2 (.cells #[.string ⟨nm.toArray⟩, .string ⟨va.toArray⟩, .int .i64 n] 73)).drew))
      have HP3 : Hid ((W2.alloc (.cells #[.string ⟨nm.toArray⟩, .string ⟨va.toArray⟩, .int .i64 n] 73)).drew.heap[W2.heap.size]? = some (.cells #[.string ⟨nm.toArray⟩, .string ⟨va.toArray⟩, .int .i64 n] 73 (0, 0))) := block_new W2 _
      have HW2 : Hid (W.heap.size + 2 ≤ W2.heap.size) := HLN.out.lt
      generalize (W2.alloc (.cells #[.string ⟨nm.toArray⟩, .string ⟨va.toArray⟩, .int .i64 n] 73)).drew = W3 at *
      have y0 := cells_of_block HP3.out 0 _ rfl
      have y1 := cells_of_block HP3.out 1 _ rfl
      have y2 := cells_of_block HP3.out 2 _ rfl
      clear HLN
      have HLN := HLN3
      clear HLN3
      have c0 := cells_of_block HLN.out.s3 0 _ rfl
      have c1 := cells_of_block HLN.out.s3 1 _ rfl
      rcases HCS.out with q1 | ⟨q1, q2⟩ | ⟨q1, q2, q3⟩
      · have i1 : (nm.length : Int) < 5 := by omega
        go_wp2_with (first
          | (go_at_call 19; refine (hNm _).mono ?_; rintro e w1 ⟨rfl, rfl⟩)
          | (go_at_call 31; refine (hCl _).mono ?_; rintro e w5 ⟨rfl, hb5⟩; have HL5 := hide (HLN.out.stay hb5); have HP5 := hide (block_stay HP3.out hb5); have z0 := cells_of_block HP5.out 0 _ rfl; have z1 := cells_of_block HP5.out 1 _ rfl; have c0' := cells_of_block HL5.out.s3 0 _ rfl; have c1' := cells_of_block HL5.out.s3 1 _ rfl; clear hb5)
          | ((with_reducible refine at_storeQ (T := 32) ?_); refine store_part rfl _ _ _ rfl (W.heap.size + 1) 0 32 _ [.slice da F.dirs.length dc, .slice sa ss.length sc] [.slice da F.dirs.length dc, .slice sa ss.length sc].toArray HL5.out.s6 rfl rfl rf_size (fl_one _ _ ⟨_, _, _, rfl⟩ ⟨_, _, _, rfl⟩) (Nat.le_refl 2) (by rfl) ?_; intro w4 hg4 hb4; have HG4 := hide hg4; have HB4 := hide (below_own HL5.out.bw hb4 (by omega) (Nat.le_refl _)); clear hg4 hb4))
        refine bodyPost_ret (results_cell2 rfl _ _ (W.heap.size + 1) _ _ _ _ rfl HG4.out Tryd.underlying32 rfl (by kernel_rfl)) rfl ?_
        exact ⟨_, _, ss, rfl, HF.out, (H.out.stay HB4.out).more (Nat.le_succ N), Turn.of_below HB4.out⟩
      · have i1 : ¬ (nm.length : Int) < 5 := by omega
        have i2 : (4 : Int) ≤ (nm.length : Int) := by omega
        go_wp2_with (first
          | (go_at_call 19; refine (hNm _).mono ?_; rintro e w1 ⟨rfl, rfl⟩)
          | (go_at_call 31; refine (hCl _).mono ?_; rintro e w5 ⟨rfl, hb5⟩; have HL5 := hide (HLN.out.stay hb5); have HP5 := hide (block_stay HP3.out hb5); have z0 := cells_of_block HP5.out 0 _ rfl; have z1 := cells_of_block HP5.out 1 _ rfl; have c0' := cells_of_block HL5.out.s3 0 _ rfl; have c1' := cells_of_block HL5.out.s3 1 _ rfl; clear hb5)
          | ((with_reducible refine at_storeQ (T := 32) ?_); refine store_part rfl _ _ _ rfl (W.heap.size + 1) 0 32 _ [.slice da F.dirs.length dc, .slice sa ss.length sc] [.slice da F.dirs.length dc, .slice sa ss.length sc].toArray HL5.out.s6 rfl rfl rf_size (fl_one _ _ ⟨_, _, _, rfl⟩ ⟨_, _, _, rfl⟩) (Nat.le_refl 2) (by rfl) ?_; intro w4 hg4 hb4; have HG4 := hide hg4; have HB4 := hide (below_own HL5.out.bw hb4 (by omega) (Nat.le_refl _)); clear hg4 hb4))
        refine bodyPost_ret (results_cell2 rfl _ _ (W.heap.size + 1) _ _ _ _ rfl HG4.out Tryd.underlying32 rfl (by kernel_rfl)) rfl ?_
        exact ⟨_, _, ss, rfl, HF.out, (H.out.stay HB4.out).more (Nat.le_succ N), Turn.of_below HB4.out⟩
      · have i1 : ¬ (nm.length : Int) < 5 := by omega
        have i2 : (4 : Int) ≤ (nm.length : Int) := by omega
        subst q2
        have q4 : ce = 40 ∨ (ce = 0 ∧ (ct == va) = false) := by
          rcases q3 with q3 | q3
          · cases q3
          · exact q3
        rcases q4 with q4 | ⟨q4, q5⟩
        · subst q4
          go_wp2_with (first
            | (go_at_call 19; refine (hNm _).mono ?_; rintro e w1 ⟨rfl, rfl⟩)
            | (go_at_call 31; refine (hCl _).mono ?_; rintro e w5 ⟨rfl, hb5⟩; have HL5 := hide (HLN.out.stay hb5); have HP5 := hide (block_stay HP3.out hb5); have z0 := cells_of_block HP5.out 0 _ rfl; have z1 := cells_of_block HP5.out 1 _ rfl; have c0' := cells_of_block HL5.out.s3 0 _ rfl; have c1' := cells_of_block HL5.out.s3 1 _ rfl; clear hb5)
            | ((with_reducible refine at_storeQ (T := 32) ?_); refine store_part rfl _ _ _ rfl (W.heap.size + 1) 0 32 _ [.slice da F.dirs.length dc, .slice sa ss.length sc] [.slice da F.dirs.length dc, .slice sa ss.length sc].toArray HL5.out.s6 rfl rfl rf_size (fl_one _ _ ⟨_, _, _, rfl⟩ ⟨_, _, _, rfl⟩) (Nat.le_refl 2) (by rfl) ?_; intro w4 hg4 hb4; have HG4 := hide hg4; have HB4 := hide (below_own HL5.out.bw hb4 (by omega) (Nat.le_refl _)); clear hg4 hb4))
          refine bodyPost_ret (results_cell2 rfl _ _ (W.heap.size + 1) _ _ _ _ rfl HG4.out Tryd.underlying32 rfl (by kernel_rfl)) rfl ?_
          exact ⟨_, _, ss, rfl, HF.out, (H.out.stay HB4.out).more (Nat.le_succ N), Turn.of_below HB4.out⟩
        · subst q4
          go_wp2_with (first
            | (go_at_call 19; refine (hNm _).mono ?_; rintro e w1 ⟨rfl, rfl⟩)
            | (go_at_call 31; refine (hCl _).mono ?_; rintro e w5 ⟨rfl, hb5⟩; have HL5 := hide (HLN.out.stay hb5); have HP5 := hide (block_stay HP3.out hb5); have z0 := cells_of_block HP5.out 0 _ rfl; have z1 := cells_of_block HP5.out 1 _ rfl; have c0' := cells_of_block HL5.out.s3 0 _ rfl; have c1' := cells_of_block HL5.out.s3 1 _ rfl; clear hb5)
            | ((with_reducible refine at_storeQ (T := 32) ?_); refine store_part rfl _ _ _ rfl (W.heap.size + 1) 0 32 _ [.slice da F.dirs.length dc, .slice sa ss.length sc] [.slice da F.dirs.length dc, .slice sa ss.length sc].toArray HL5.out.s6 rfl rfl rf_size (fl_one _ _ ⟨_, _, _, rfl⟩ ⟨_, _, _, rfl⟩) (Nat.le_refl 2) (by rfl) ?_; intro w4 hg4 hb4; have HG4 := hide hg4; have HB4 := hide (below_own HL5.out.bw hb4 (by omega) (Nat.le_refl _)); clear hg4 hb4))
          refine bodyPost_ret (results_cell2 rfl _ _ (W.heap.size + 1) _ _ _ _ rfl HG4.out Tryd.underlying32 rfl (by kernel_rfl)) rfl ?_
          exact ⟨_, _, ss, rfl, HF.out, (H.out.stay HB4.out).more (Nat.le_succ N), Turn.of_below HB4.out⟩
set_option maxHeartbeats 4000000 in
set_option maxRecDepth 20000 in
theorem line_dir (W : World) (B N : Nat) (dv sv : Value) (F : Cf) (ss : List Sx) (h : RfAt W B dv sv F.dirs ss N) (hF : ss.map Sx.sc = F.secs) (hN : N ≤ 50000) (hB : B ≤ W.heap.size) (z : ByteArray) (hz : z.size ≤ 100000) (n : Int) (hn : z.data.toList ≠ []) (hp : Lib.hasPrefix z.data.toList [91] = false) (k : Nat) (hk : k < z.size) (hix : Lib.index z.data.toList [61] = (k : Int)) (nm va : List UInt8) (ad : Bool) (ht : readT z.data.toList = ⟨nm, va, ad⟩) (hb : nameC nm = true) (hss : ss = []) (hfo : folB ⟨nm, va, ad⟩ = true) :
    Calls Tryd.prog 27 #[.agg #[dv, sv], .string z, .int .i64 n] W fun e w' => LineTo W B N dv sv (⟨F.dirs ++ [⟨Lib.trimPrefix nm dirN, va, n⟩], F.secs⟩, 0) e w' := by
  have HLN := hide (LnAt.new W dv sv)
  have H := hide h
  have HF := hide hF
  obtain ⟨da, dc, rfl⟩ := row_form h.dirs
  obtain ⟨sa, sc, rfl⟩ := row_form h.secs
  obtain ⟨c, h0, hc, hc1, hc2⟩ := not_open hn hp
  have hi : (0 : Int) < (z.size : Int) := by omega
  have hFd : ∀ w, Calls Tryd.prog 25 #[.string z, .int .u8 61] w fun e w' => e = .returned (.int .i64 (k : Int)) ∧ w = w' := fun w => by
    have := ref18_find z 61 w (by omega)
    rw [hix] at this
    exact this
  obtain ⟨hxa, hxb, hla⟩ := sign_text z k hk
  have hcut := cut_at 61 z.data.toList k hix
  unfold readT at ht
  rw [hcut] at ht
  simp only [] at ht
  injection ht with ht1 ht2 ht3
  have hlb : (z.data.toList.drop (k + 1)).length ≤ z.size := by rw [List.length_drop, ← size_list]; omega
  generalize z.data.toList.take k = a at *
  generalize z.data.toList.drop (k + 1) = b at *
  obtain ⟨k1, hk1⟩ : ∃ k1, k + 1 = k1 := ⟨_, rfl⟩
  rw [hk1] at hxb
  have hk0 : ¬ (k : Int) < 0 := by omega
  have hk0' : (0 : Int) ≤ (k : Int) := by omega
  have hkz : (k : Int) ≤ (z.size : Int) := by omega
  have hwk : IntKind.i64.wrap ((k : Int) + 1) = (k1 : Int) := by rw [wrap_i64_is]; omega
  have hk1z : (k1 : Int) ≤ (z.size : Int) := by omega
  have hk10 : (0 : Int) ≤ (k1 : Int) := by omega
  have hE := fun w => ref18_Ends ⟨a.toArray⟩ ⟨#[43]⟩ w (by rw [show (⟨a.toArray⟩ : ByteArray) = tx a from rfl, tx_size]; omega) (by decide)
  simp only [ht3] at hE
  have hsl := suff_len a [43]
  have HT2 : Hid (TrimIs ⟨b.toArray⟩ ⟨va.toArray⟩) := ⟨by rw [show (⟨b.toArray⟩ : ByteArray) = tx b from rfl, tx_size]; omega, by rw [← ht2]; rfl⟩
  have HT1 : Hid (TrimIs ⟨(Lib.trimSuffix a [43]).toArray⟩ ⟨nm.toArray⟩) := ⟨by rw [show (⟨(Lib.trimSuffix a [43]).toArray⟩ : ByteArray) = tx (Lib.trimSuffix a [43]) from rfl, tx_size]; omega, by rw [← ht1]; rfl⟩
  have HNL : Hid (nm.length ≤ 100000) := by have := trim_len (Lib.trimSuffix a [43]); rw [ht1] at this; rw [Hid]; omega
  have HVL : Hid (va.length ≤ 100000) := by have := trim_len b; rw [ht2] at this; rw [Hid]; omega
  have hNm := fun w => ref18_Name ⟨nm.toArray⟩ w (by rw [show (⟨nm.toArray⟩ : ByteArray) = tx nm from rfl, tx_size]; have := HNL.out; omega)
  simp only [hb] at hNm
  have hCl := fun w => ref_Clean (tx va) w (by rw [tx_size]; have := HVL.out; omega)
  rw [data_tx] at hCl
  have hs0 : ¬ (0 : Int) < (ss.length : Int) := by rw [hss]; simp
  have HSS := hide hss
  obtain ⟨hx4, hx5⟩ := name_text nm
  obtain ⟨q1, q2, q3, q4, q5, q6⟩ := fol_yes hfo
  have i1 : ¬ (nm.length : Int) < 5 := by omega
  have i2 : (4 : Int) ≤ (nm.length : Int) := by omega
  have i3 : (0 : Int) ≤ 4 := by omega
  have HDS : Hid (F.dirs.length ≤ 50000) := Nat.le_trans h.sm.1 hN
  rw [q2] at hx4
  rw [q4, q5] at hCl
  rw [q6]
  clear hss hfo q2 q4 q5 q6 q1
  generalize nm.drop 4 = nm' at *
  unfold tx at hCl
  clear h hF hn hp hix hcut hk1 hk hlb
  cases ad with
  | true =>
    obtain ⟨K2, hK2, hxc⟩ := plus_text ht3
    have hw2 : IntKind.i64.wrap ((a.length : Int) - 1) = (K2 : Int) := by rw [wrap_i64_is]; omega
    have hK2a : (K2 : Int) ≤ (a.length : Int) := by omega
    have hK20 : (0 : Int) ≤ (K2 : Int) := by omega
    generalize Lib.trimSuffix a [43] = a' at *
    clear hK2 hla ht1 ht2 ht3 hsl
    cases q3
  | false =>
    have hta : Lib.trimSuffix a [43] = a := by unfold Lib.trimSuffix; rw [if_neg (by rw [ht3]; simp)]
    rw [hta] at HT1
    clear hta hla ht1 ht2 ht3 hsl
    unfold zFl at HLN
    go_enter Tryd.func27, Tryd.ntmps27
    go_wp2_with fail
    generalize (W.alloc (.cells #[.slice da F.dirs.length dc, .slice sa ss.length sc] 32)).alloc (.cells #[.slice none 0 0, .slice none 0 0] 32) = W2 at *
    go_wp2_with (first
      | (go_at_call 25; refine (hFd _).mono ?_; rintro e w1 ⟨rfl, rfl⟩)
      | (go_at_call 20; refine (hE _).mono ?_; rintro e w1 ⟨rfl, rfl⟩))
    go_region_law (go_simp; refine (call_trim (by first | exact HT1.out | exact HT2.out) _).mono ?_; rintro e w5 ⟨rfl, rfl⟩)
    all_goals
      have HLN3 := hide (HLN.out.stay ((below_box W2 (.cells #[.string ⟨nm.toArray⟩, .string ⟨va.toArray⟩, .int .i64 n] 73)).drew))
      have HP3 : Hid ((W2.alloc (.cells #[.string ⟨nm.toArray⟩, .string ⟨va.toArray⟩, .int .i64 n] 73)).drew.heap[W2.heap.size]? = some (.cells #[.string ⟨nm.toArray⟩, .string ⟨va.toArray⟩, .int .i64 n] 73 (0, 0))) := block_new W2 _
      have HW2 : Hid (W.heap.size + 2 ≤ W2.heap.size) := HLN.out.lt
      generalize (W2.alloc (.cells #[.string ⟨nm.toArray⟩, .string ⟨va.toArray⟩, .int .i64 n] 73)).drew = W3 at *
      have y0 := cells_of_block HP3.out 0 _ rfl
      have y1 := cells_of_block HP3.out 1 _ rfl
      have y2 := cells_of_block HP3.out 2 _ rfl
      clear HLN
      have HLN := HLN3
      clear HLN3
      have c0 := cells_of_block HLN.out.s3 0 _ rfl
      have c1 := cells_of_block HLN.out.s3 1 _ rfl
      go_wp2_with (first
        | (go_at_call 19; refine (hNm _).mono ?_; rintro e w1 ⟨rfl, rfl⟩)
        | (go_at_call 31; refine (hCl _).mono ?_; rintro e w5 ⟨rfl, hb5⟩; have HL5 := hide (HLN.out.stay hb5); have HP5 := hide (block_stay HP3.out hb5); have y0' := cells_of_block HP5.out 0 _ rfl; have y1' := cells_of_block HP5.out 1 _ rfl; clear hb5))
      have z0 : w5.drew.cell? ⟨W2.heap.size, 0, none⟩ = some (.string ⟨nm.toArray⟩) := cells_of_block (w := w5.drew) HP5.out 0 _ rfl
      have z1 : w5.drew.cell? ⟨W2.heap.size, 1, none⟩ = some (.string ⟨va.toArray⟩) := cells_of_block (w := w5.drew) HP5.out 1 _ rfl
      have a0 : w5.drew.cell? ⟨W.heap.size, 0, none⟩ = some (.slice da F.dirs.length dc) := cells_of_block (w := w5.drew) HL5.out.s3 0 _ rfl
      have a0' : w5.cell? ⟨W.heap.size, 0, none⟩ = some (.slice da F.dirs.length dc) := cells_of_block HL5.out.s3 0 _ rfl
      have HDA : Hid (∀ o, Below w5.heap.size w5 (w5.drew.alloc o)) := fun o => (Below.refl _ w5).drew.alloc (Nat.le_refl _) o
      have HLA := hide (fun o => HL5.out.stay (HDA.out o))
      have HRA := hide (fun o => H.out.stay (HLA.out o).bw)
      have b0 : ∀ o, (w5.drew.alloc o).cell? ⟨W.heap.size, 0, none⟩ = some (.slice da F.dirs.length dc) := fun o => cells_of_block (HLA.out o).s3 0 _ rfl
      have b0' : ∀ o, (w5.alloc o).cell? ⟨W.heap.size, 0, none⟩ = some (.slice da F.dirs.length dc) := fun o => cells_of_block (HL5.out.stay (below_box w5 o)).s3 0 _ rfl
      have HNX := hide (new_p w5.drew ⟨nm', va, n⟩ 73)
      unfold Pr.cells tx at HNX
      have HBL : Hid (∀ o, B ≤ (w5.drew.alloc o).heap.size) := fun o => Nat.le_trans hB (HLA.out o).bw.size
      clear y0 y1 y2 c0 c1 y0' y1'
      go_region_law (refine step_append_q rfl (.tmp 155) (.tmp 163) rfl B _ F.dirs ⟨nm', va, n⟩ (HRA.out _).dirs rfl _ 1 rfl HNX.out (by have := HDS.out; omega) (HBL.out _) ?_; intro v6 W6 r6 g6 n6; have HP6 := hide ((HRA.out _).putDir' HSS.out r6 g6); have HT6 := hide ((Turn.of_below (HLA.out _).bw).trans (far_foot (W := W) HP6.out.2)); have b6 := (g6.block W.heap.size (Nat.lt_of_lt_of_le (Nat.lt_succ_self _) (Nat.le_of_lt (block_lt (HLA.out _).s6))) (fun e => by have := (World.ownsRow.lt H.out.dirs _ e.symm).2; omega)).trans (HLA.out _).s3; have e6 := (g6.block (W.heap.size + 1) (block_lt (HLA.out _).s6) (fun e => by have := (World.ownsRow.lt H.out.dirs _ e.symm).2; omega)).trans (HLA.out _).s6; have c6 := cells_of_block b6 0 _ rfl; have f6 := block_soft b6 0; have HB6 := hide b6; have HE6 := hide e6; obtain ⟨a6, k6, hv6⟩ := row_form r6; rw [List.length_append, List.length_singleton] at hv6; subst hv6; clear r6 g6 n6 b6 e6)
      all_goals
        have HP7 := hide (HP6.out.1.cell (j := 0) (u := .slice a6 (F.dirs.length + 1) k6) HB6.out)
        have HT7 := hide (HT6.out.trans (far_cell (W := W) W.heap.size 0 (.slice a6 (F.dirs.length + 1) k6) (Nat.le_refl _)))
        have h7 := block_set W6 W.heap.size 0 (.slice a6 (F.dirs.length + 1) k6) _ _ _ HB6.out
        have HE7 : Hid ((W6.setCell ⟨W.heap.size, 0, none⟩ (.slice a6 (F.dirs.length + 1) k6)).heap[W.heap.size + 1]? = some (.cells zFl.toArray 32 (0, 0))) := (Below.heap_setCell _ _ _ _ (show W.heap.size + 1 ≠ W.heap.size by omega)).trans HE6.out
        have y0 := cells_of_block h7 0 _ rfl
        have y1 := cells_of_block h7 1 _ rfl
        clear a0 a0' b0 b0' c6 f6 z0 z1 HDA HLA HRA HNX HBL h7
        go_wp2_with ((with_reducible refine at_storeQ (T := 32) ?_); refine store_part rfl _ _ _ rfl (W.heap.size + 1) 0 32 _ [.slice a6 (F.dirs.length + 1) k6, .slice sa ss.length sc] [.slice a6 (F.dirs.length + 1) k6, .slice sa ss.length sc].toArray HE7.out rfl rfl rf_size (fl_one _ _ ⟨_, _, _, rfl⟩ ⟨_, _, _, rfl⟩) (Nat.le_refl 2) (by rfl) ?_; intro w4 hg4 hb4; have HG4 := hide hg4; have HR4 := hide (HP7.out.store HE7.out hb4); have HT4 := hide (HT7.out.trans (far_store (W := W) hb4 (by omega))); clear hg4 hb4)
        refine bodyPost_ret (results_cell2 rfl _ _ (W.heap.size + 1) _ _ _ _ rfl HG4.out Tryd.underlying32 rfl (by kernel_rfl)) rfl ?_
        exact ⟨_, _, ss, rfl, HF.out, HR4.out, far_end HT4.out⟩
end Go.Proofs.YtmcefflgbliehaaDoor
