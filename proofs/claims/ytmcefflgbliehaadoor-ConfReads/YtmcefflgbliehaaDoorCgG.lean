
/-
  Layer 18 (conf): the reference's line: a property, or none.
-/
import Derived.Test.YtmcefflgbliehaaDoorCgF
set_option linter.unusedVariables false
namespace Go.Proofs.YtmcefflgbliehaaDoor
open Go.RowKit Go.PlainAid Go.Sort
/-- A text that says something, and doesn't begin a part. -/
theorem not_open {z : ByteArray} (h1 : z.data.toList ≠ []) (h2 : Lib.hasPrefix z.data.toList [91] = false) : ∃ (c : UInt8) (h0 : 0 < z.size), z[0]'h0 = c ∧ ((c.toNat : Int) == 91) = false ∧ ¬ (c.toNat : Int) = 91 := by
  cases h : z.data.toList with
  | nil => exact absurd h h1
  | cons c r =>
    obtain ⟨h0, hc⟩ := get_zero h
    have hne : c ≠ 91 := by
      rintro rfl
      rw [h, (pref_cons r).1] at h2; cases h2
    have h3 : ((c.toNat : Int) == 91) = false := by
      have := u8_int c 91
      rw [show (((91 : UInt8).toNat : Nat) : Int) = 91 from rfl] at this
      rw [← this]
      simpa using hne
    exact ⟨c, h0, hc, h3, by simpa using h3⟩
/-- The pieces of a text with a sign. -/
theorem sign_text (z : ByteArray) (k : Nat) (hk : k < z.size) : z.extract 0 k = ⟨(z.data.toList.take k).toArray⟩ ∧ z.extract (k + 1) z.size = ⟨(z.data.toList.drop (k + 1)).toArray⟩ ∧ (z.data.toList.take k).length = k := by
  refine ⟨?_, extract_end z (k + 1), ?_⟩
  · rw [extract_mid]; rfl
  · rw [List.length_take, Nat.min_eq_left (by rw [← size_list]; omega)]
/-- What Trim makes of a text. -/
structure TrimIs (s v : ByteArray) : Prop where
  le : s.size ≤ 1000000000
  eq : tx (trimC s.data.toList) = v
theorem call_trim {s v : ByteArray} (h : TrimIs s v) (w : World) : Calls Tryd.prog 26 #[.string s] w fun e w' => e = .returned (.string v) ∧ w = w' := by
  have := ref18_Trim s w h.le
  rwa [h.eq] at this
theorem plus_text {a : List UInt8} (h : Lib.hasSuffix a [43] = true) : ∃ K : Nat, a.length = K + 1 ∧ (⟨a.toArray⟩ : ByteArray).extract 0 K = ⟨(Lib.trimSuffix a [43]).toArray⟩ := by
  obtain ⟨m, rfl⟩ := suff1 h
  refine ⟨m.length, by simp, ?_⟩
  rw [(suff1_is m 43).2, extract_mid]
  simp [tx]
set_option maxHeartbeats 4000000 in
set_option maxRecDepth 20000 in
theorem line_noeq (W : World) (B N : Nat) (dv sv : Value) (F : Cf) (ss : List Sx) (h : RfAt W B dv sv F.dirs ss N) (hF : ss.map Sx.sc = F.secs) (hN : N ≤ 50000) (hB : B ≤ W.heap.size) (z : ByteArray) (hz : z.size ≤ 100000) (n : Int) (hn : z.data.toList ≠ []) (hp : Lib.hasPrefix z.data.toList [91] = false) (hix : Lib.index z.data.toList [61] = -1) :
    Calls Tryd.prog 27 #[.agg #[dv, sv], .string z, .int .i64 n] W fun e w' => LineTo W B N dv sv (F, 180) e w' := by
  have HLN := hide (LnAt.new W dv sv)
  have H := hide h
  have HF := hide hF
  obtain ⟨da, dc, rfl⟩ := row_form h.dirs
  obtain ⟨sa, sc, rfl⟩ := row_form h.secs
  obtain ⟨c, h0, hc, hc1, hc2⟩ := not_open hn hp
  have hi : (0 : Int) < (z.size : Int) := by omega
  have hFd : ∀ w, Calls Tryd.prog 25 #[.string z, .int .u8 61] w fun e w' => e = .returned (.int .i64 (-1)) ∧ w = w' := fun w => by
    have := ref18_find z 61 w (by omega)
    rw [hix] at this
    exact this
  clear h hF hn hp hix
  unfold zFl at HLN
  go_enter Tryd.func27, Tryd.ntmps27
  go_wp2_with fail
  generalize (W.alloc (.cells #[.slice da F.dirs.length dc, .slice sa ss.length sc] 32)).alloc (.cells #[.slice none 0 0, .slice none 0 0] 32) = W2 at *
  have c0 := cells_of_block HLN.out.s3 0 _ rfl
  have c1 := cells_of_block HLN.out.s3 1 _ rfl
  go_wp2_with (first
    | (go_at_call 25; refine (hFd _).mono ?_; rintro e w1 ⟨rfl, rfl⟩)
    | ((with_reducible refine at_storeQ (T := 32) ?_); refine store_part rfl _ _ _ rfl (W.heap.size + 1) 0 32 _ [.slice da F.dirs.length dc, .slice sa ss.length sc] [.slice da F.dirs.length dc, .slice sa ss.length sc].toArray HLN.out.s6 rfl rfl rf_size (fl_one _ _ ⟨_, _, _, rfl⟩ ⟨_, _, _, rfl⟩) (Nat.le_refl 2) (by rfl) ?_; intro w4 hg4 hb4; have HG4 := hide hg4; have HB4 := hide (below_own HLN.out.bw hb4 (by omega) (Nat.le_refl _)); clear hg4 hb4))
  refine bodyPost_ret (results_cell2 rfl _ _ (W.heap.size + 1) _ _ _ _ rfl HG4.out Tryd.underlying32 rfl (by kernel_rfl)) rfl ?_
  exact ⟨_, _, ss, rfl, HF.out, (H.out.stay HB4.out).more (Nat.le_succ N), Turn.of_below HB4.out⟩
set_option maxHeartbeats 4000000 in
set_option maxRecDepth 20000 in
theorem line_bad (W : World) (B N : Nat) (dv sv : Value) (F : Cf) (ss : List Sx) (h : RfAt W B dv sv F.dirs ss N) (hF : ss.map Sx.sc = F.secs) (hN : N ≤ 50000) (hB : B ≤ W.heap.size) (z : ByteArray) (hz : z.size ≤ 100000) (n : Int) (hn : z.data.toList ≠ []) (hp : Lib.hasPrefix z.data.toList [91] = false) (k : Nat) (hk : k < z.size) (hix : Lib.index z.data.toList [61] = (k : Int)) (nm va : List UInt8) (ad : Bool) (ht : readT z.data.toList = ⟨nm, va, ad⟩) (hb : nameC nm = false) :
    Calls Tryd.prog 27 #[.agg #[dv, sv], .string z, .int .i64 n] W fun e w' => LineTo W B N dv sv (F, 180) e w' := by
  have HLN := hide (LnAt.new W dv sv)
  have H := hide h
  have HF := hide hF
  obtain ⟨da, dc, rfl⟩ := row_form h.dirs
  obtain ⟨sa, sc, rfl⟩ := row_form h.secs
  obtain ⟨c, h0, hc, hc1, hc2⟩ := not_open hn hp
  have hi : (0 : Int) < (z.size : Int) := by omega
  have hFd : ∀ w, Calls Tryd.prog 25 #[.string z, .int .u8 61] w fun e w' => e = .returned (.int .i64 (k : Int)) ∧ w = w' := fun w => by
    have := ref18_find z 61 w (by omega)
    rw [hix] at this
    exact this
  obtain ⟨hxa, hxb, hla⟩ := sign_text z k hk
  have hcut := cut_at 61 z.data.toList k hix
  unfold readT at ht
  rw [hcut] at ht
  simp only [] at ht
  injection ht with ht1 ht2 ht3
  have hlb : (z.data.toList.drop (k + 1)).length ≤ z.size := by rw [List.length_drop, ← size_list]; omega
  generalize z.data.toList.take k = a at *
  generalize z.data.toList.drop (k + 1) = b at *
  obtain ⟨k1, hk1⟩ : ∃ k1, k + 1 = k1 := ⟨_, rfl⟩
  rw [hk1] at hxb
  have hk0 : ¬ (k : Int) < 0 := by omega
  have hk0' : (0 : Int) ≤ (k : Int) := by omega
  have hkz : (k : Int) ≤ (z.size : Int) := by omega
  have hwk : IntKind.i64.wrap ((k : Int) + 1) = (k1 : Int) := by rw [wrap_i64_is]; omega
  have hk1z : (k1 : Int) ≤ (z.size : Int) := by omega
  have hk10 : (0 : Int) ≤ (k1 : Int) := by omega
  have hE := fun w => ref18_Ends ⟨a.toArray⟩ ⟨#[43]⟩ w (by rw [show (⟨a.toArray⟩ : ByteArray) = tx a from rfl, tx_size]; omega) (by decide)
  simp only [ht3] at hE
  have hsl := suff_len a [43]
  have HT2 : Hid (TrimIs ⟨b.toArray⟩ ⟨va.toArray⟩) := ⟨by rw [show (⟨b.toArray⟩ : ByteArray) = tx b from rfl, tx_size]; omega, by rw [← ht2]; rfl⟩
  have HT1 : Hid (TrimIs ⟨(Lib.trimSuffix a [43]).toArray⟩ ⟨nm.toArray⟩) := ⟨by rw [show (⟨(Lib.trimSuffix a [43]).toArray⟩ : ByteArray) = tx (Lib.trimSuffix a [43]) from rfl, tx_size]; omega, by rw [← ht1]; rfl⟩
  have HNL : Hid (nm.length ≤ 100000) := by have := trim_len (Lib.trimSuffix a [43]); rw [ht1] at this; rw [Hid]; omega
  have HVL : Hid (va.length ≤ 100000) := by have := trim_len b; rw [ht2] at this; rw [Hid]; omega
  have hNm := fun w => ref18_Name ⟨nm.toArray⟩ w (by rw [show (⟨nm.toArray⟩ : ByteArray) = tx nm from rfl, tx_size]; have := HNL.out; omega)
  simp only [hb] at hNm
  clear h hF hn hp hix hcut hk1 hk hlb
  cases ad with
  | true =>
    obtain ⟨K2, hK2, hxc⟩ := plus_text ht3
    have hw2 : IntKind.i64.wrap ((a.length : Int) - 1) = (K2 : Int) := by rw [wrap_i64_is]; omega
    have hK2a : (K2 : Int) ≤ (a.length : Int) := by omega
    have hK20 : (0 : Int) ≤ (K2 : Int) := by omega
    generalize Lib.trimSuffix a [43] = a' at *
    clear hK2 hla ht1 ht2 ht3 hsl
    unfold zFl at HLN
    go_enter Tryd.func27, Tryd.ntmps27
    go_wp2_with fail
    generalize (W.alloc (.cells #[.slice da F.dirs.length dc, .slice sa ss.length sc] 32)).alloc (.cells #[.slice none 0 0, .slice none 0 0] 32) = W2 at *
    go_wp2_with (first
      | (go_at_call 25; refine (hFd _).mono ?_; rintro e w1 ⟨rfl, rfl⟩)
      | (go_at_call 20; refine (hE _).mono ?_; rintro e w1 ⟨rfl, rfl⟩))
    go_region_law (go_simp; refine (call_trim (by first | exact HT1.out | exact HT2.out) _).mono ?_; rintro e w5 ⟨rfl, rfl⟩)
    all_goals
      have HLN3 := hide (HLN.out.stay ((below_box W2 (.cells #[.string ⟨nm.toArray⟩, .string ⟨va.toArray⟩, .int .i64 n] 73)).drew))
      have HP3 : Hid ((W2.alloc (.cells #[.string ⟨nm.toArray⟩, .string ⟨va.toArray⟩, .int .i64 n] 73)).drew.heap[W2.heap.size]? = some (.cells #[.string ⟨nm.toArray⟩, .string ⟨va.toArray⟩, .int .i64 n] 73 (0, 0))) := block_new W2 _
      have HW2 : Hid (W.heap.size + 2 ≤ W2.heap.size) := HLN.out.lt
      generalize (W2.alloc (.cells #[.string ⟨nm.toArray⟩, .string ⟨va.toArray⟩, .int .i64 n] 73)).drew = W3 at *
      have y0 := cells_of_block HP3.out 0 _ rfl
      have y1 := cells_of_block HP3.out 1 _ rfl
      have y2 := cells_of_block HP3.out 2 _ rfl
      clear HLN
      have HLN := HLN3
      clear HLN3
      have c0 := cells_of_block HLN.out.s3 0 _ rfl
      have c1 := cells_of_block HLN.out.s3 1 _ rfl
      go_wp2_with (first
        | (go_at_call 19; refine (hNm _).mono ?_; rintro e w1 ⟨rfl, rfl⟩)
        | ((with_reducible refine at_storeQ (T := 32) ?_); refine store_part rfl _ _ _ rfl (W.heap.size + 1) 0 32 _ [.slice da F.dirs.length dc, .slice sa ss.length sc] [.slice da F.dirs.length dc, .slice sa ss.length sc].toArray HLN.out.s6 rfl rfl rf_size (fl_one _ _ ⟨_, _, _, rfl⟩ ⟨_, _, _, rfl⟩) (Nat.le_refl 2) (by rfl) ?_; intro w4 hg4 hb4; have HG4 := hide hg4; have HB4 := hide (below_own HLN.out.bw hb4 (by omega) (Nat.le_refl _)); clear hg4 hb4))
      refine bodyPost_ret (results_cell2 rfl _ _ (W.heap.size + 1) _ _ _ _ rfl HG4.out Tryd.underlying32 rfl (by kernel_rfl)) rfl ?_
      exact ⟨_, _, ss, rfl, HF.out, (H.out.stay HB4.out).more (Nat.le_succ N), Turn.of_below HB4.out⟩
  | false =>
    have hta : Lib.trimSuffix a [43] = a := by unfold Lib.trimSuffix; rw [if_neg (by rw [ht3]; simp)]
    rw [hta] at HT1
    clear hta hla ht1 ht2 ht3 hsl
    unfold zFl at HLN
    go_enter Tryd.func27, Tryd.ntmps27
    go_wp2_with fail
    generalize (W.alloc (.cells #[.slice da F.dirs.length dc, .slice sa ss.length sc] 32)).alloc (.cells #[.slice none 0 0, .slice none 0 0] 32) = W2 at *
    go_wp2_with (first
      | (go_at_call 25; refine (hFd _).mono ?_; rintro e w1 ⟨rfl, rfl⟩)
      | (go_at_call 20; refine (hE _).mono ?_; rintro e w1 ⟨rfl, rfl⟩))
    go_region_law (go_simp; refine (call_trim (by first | exact HT1.out | exact HT2.out) _).mono ?_; rintro e w5 ⟨rfl, rfl⟩)
    all_goals
      have HLN3 := hide (HLN.out.stay ((below_box W2 (.cells #[.string ⟨nm.toArray⟩, .string ⟨va.toArray⟩, .int .i64 n] 73)).drew))
      have HP3 : Hid ((W2.alloc (.cells #[.string ⟨nm.toArray⟩, .string ⟨va.toArray⟩, .int .i64 n] 73)).drew.heap[W2.heap.size]? = some (.cells #[.string ⟨nm.toArray⟩, .string ⟨va.toArray⟩, .int .i64 n] 73 (0, 0))) := block_new W2 _
      have HW2 : Hid (W.heap.size + 2 ≤ W2.heap.size) := HLN.out.lt
      generalize (W2.alloc (.cells #[.string ⟨nm.toArray⟩, .string ⟨va.toArray⟩, .int .i64 n] 73)).drew = W3 at *
      have y0 := cells_of_block HP3.out 0 _ rfl
      have y1 := cells_of_block HP3.out 1 _ rfl
      have y2 := cells_of_block HP3.out 2 _ rfl
      clear HLN
      have HLN := HLN3
      clear HLN3
      have c0 := cells_of_block HLN.out.s3 0 _ rfl
      have c1 := cells_of_block HLN.out.s3 1 _ rfl
      go_wp2_with (first
        | (go_at_call 19; refine (hNm _).mono ?_; rintro e w1 ⟨rfl, rfl⟩)
        | ((with_reducible refine at_storeQ (T := 32) ?_); refine store_part rfl _ _ _ rfl (W.heap.size + 1) 0 32 _ [.slice da F.dirs.length dc, .slice sa ss.length sc] [.slice da F.dirs.length dc, .slice sa ss.length sc].toArray HLN.out.s6 rfl rfl rf_size (fl_one _ _ ⟨_, _, _, rfl⟩ ⟨_, _, _, rfl⟩) (Nat.le_refl 2) (by rfl) ?_; intro w4 hg4 hb4; have HG4 := hide hg4; have HB4 := hide (below_own HLN.out.bw hb4 (by omega) (Nat.le_refl _)); clear hg4 hb4))
      refine bodyPost_ret (results_cell2 rfl _ _ (W.heap.size + 1) _ _ _ _ rfl HG4.out Tryd.underlying32 rfl (by kernel_rfl)) rfl ?_
      exact ⟨_, _, ss, rfl, HF.out, (H.out.stay HB4.out).more (Nat.le_succ N), Turn.of_below HB4.out⟩
end Go.Proofs.YtmcefflgbliehaaDoor
