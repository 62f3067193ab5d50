
/-
  Layer 18 (conf): the reference's line: a part.
-/
import Derived.Test.YtmcefflgbliehaaDoorCgD
set_option linter.unusedVariables false
namespace Go.Proofs.YtmcefflgbliehaaDoor
open Go.RowKit Go.PlainAid Go.Sort
theorem get_zero {z : ByteArray} {c : UInt8} {r : List UInt8} (h : z.data.toList = c :: r) : ∃ h0 : 0 < z.size, z[0]'h0 = c := by
  have h0 : 0 < z.size := by rw [size_list, h]; simp
  exact ⟨h0, by rw [get_list z 0 h0, h]; rfl⟩
/-- What the walks of a part's line need of its text. -/
theorem open_text {z : ByteArray} {m : List UInt8} (h : z.data.toList = 91 :: (m ++ [93])) : ∃ K : Nat, z.size = K + 1 ∧ 1 ≤ K ∧ K = m.length + 1 ∧ z.extract 1 K = ⟨m.toArray⟩ := by
  refine ⟨m.length + 1, by rw [size_list, h]; simp, by omega, rfl, ?_⟩
  rw [extract_mid, h]
  simp [tx]
theorem step_append_y {ops : Array Oper} {o : Oper} {a : Act} {W : World} {K : Act → World → Prop} {Q : Exit → Act → World → Prop} {E : Prop} (hgd : o.guard = none) (s x : Operand)
    (ho : o.op = .call { callee := .builtin .append, args := #[s, x], argTypes := #[30, 30] })
    (B : Nat) (v : Value) (l : List Sx) (nm : List UInt8) (hown : OwnX 40 W B v l) (hs : a.eval s = v) (q c : Nat)
    (hx : a.eval x = .slice (some ⟨q, 0, none⟩) 1 c) (hq : ∀ j u, (Sx.cells ⟨nm, .slice none 0 0, []⟩)[j]? = some u → W.cell? ⟨q, j, none⟩ = some u) (hlen : l.length ≤ 100000) (hB : B ≤ W.heap.size)
    (h : ∀ v' w', OwnX 40 w' B v' (l ++ [⟨nm, .slice none 0 0, []⟩]) → W.grownBy w' v.ownBlock → (v'.ownBlock = v.ownBlock ∨ v'.ownBlock = some W.heap.size) → K (a.put o.dst v') w') :
    if Region.wanted o (yielded ops a.tmps) = true then Oper.wp Tryd.prog o a W K Q else E := by
  have hw : Region.wanted o (yielded ops a.tmps) = true := by simp [Region.wanted, hgd]
  rw [if_pos hw]
  obtain ⟨i, hi, hz0, hz1, hz2⟩ := info_parts infoY
  obtain ⟨v', w', hr, h2, h3, h4, h5⟩ := run_append_own_at (P := Tryd.prog) W B 30 o.type 40 i _ 2 40 Tryd.underlying30 hi hz0 hz1 hz2 rfl (by decide) v l.length (flatX l) hown ⟨q, 0, none⟩ 1 c (Sx.cells ⟨nm, .slice none 0 0, []⟩) rfl
    (fun j u hj => by rw [add_at, Nat.zero_add]; exact hq j u hj) (fun u hu => by simp only [Sx.cells, List.mem_cons, List.not_mem_nil, or_false] at hu; rcases hu with rfl | rfl <;> rfl) (by unfold maxLen; omega) (by omega) hB
  unfold Oper.wp execOp
  simp only [ho, resolve, invoke, builtin, Sem.run_bind, Sem.run_pure, Result.andThen_ok, List.map_toArray, List.map_cons, List.map_nil, hs, hx, hr]
  refine h v' w' ?_ h3 h5
  unfold OwnX
  rw [List.length_append, flatX_app]
  simpa [flatX] using h2
set_option maxHeartbeats 4000000 in
set_option maxRecDepth 20000 in
theorem line_open (W : World) (B N : Nat) (dv sv : Value) (F : Cf) (ss : List Sx) (h : RfAt W B dv sv F.dirs ss N) (hF : ss.map Sx.sc = F.secs) (hN : N ≤ 50000) (hB : B ≤ W.heap.size) (z : ByteArray) (hz : z.size ≤ 100000) (n : Int) (r : List UInt8) (hr : z.data.toList = 91 :: r) (hs : Lib.hasSuffix r [93] = false) :
    Calls Tryd.prog 27 #[.agg #[dv, sv], .string z, .int .i64 n] W fun e w' => LineTo W B N dv sv (F, 181) e w' := by
  have HLN := hide (LnAt.new W dv sv)
  have H := hide h
  have HF := hide hF
  obtain ⟨da, dc, rfl⟩ := row_form h.dirs
  obtain ⟨sa, sc, rfl⟩ := row_form h.secs
  obtain ⟨h0, hc⟩ := get_zero hr
  have hE := fun w => ref18_Ends z (tx [93]) w (by omega) (by decide)
  rw [hr, data_tx, suff1_cons 91 93 r (by decide), hs] at hE
  have hi : (0 : Int) < (z.size : Int) := by omega
  unfold tx at hE
  clear h hF hr hs
  unfold zFl at HLN
  go_enter Tryd.func27, Tryd.ntmps27
  go_wp2_with fail
  generalize (W.alloc (.cells #[.slice da F.dirs.length dc, .slice sa ss.length sc] 32)).alloc (.cells #[.slice none 0 0, .slice none 0 0] 32) = W2 at *
  have c0 := cells_of_block HLN.out.s3 0 _ rfl
  have c1 := cells_of_block HLN.out.s3 1 _ rfl
  refine (hE _).mono ?_
  rintro e w1 ⟨rfl, rfl⟩
  go_wp2_with ((with_reducible refine at_storeQ (T := 32) ?_); refine store_part rfl _ _ _ rfl (W.heap.size + 1) 0 32 _ [.slice da F.dirs.length dc, .slice sa ss.length sc] [.slice da F.dirs.length dc, .slice sa ss.length sc].toArray HLN.out.s6 rfl rfl rf_size (fl_one _ _ ⟨_, _, _, rfl⟩ ⟨_, _, _, rfl⟩) (Nat.le_refl 2) (by rfl) ?_; intro w4 hg4 hb4; have HG4 := hide hg4; have HB4 := hide (below_own HLN.out.bw hb4 (by omega) (Nat.le_refl _)); clear hg4 hb4)
  refine bodyPost_ret (results_cell2 rfl _ _ (W.heap.size + 1) _ _ _ _ rfl HG4.out Tryd.underlying32 rfl (by kernel_rfl)) rfl ?_
  exact ⟨_, _, ss, rfl, HF.out, (H.out.stay HB4.out).more (Nat.le_succ N), Turn.of_below HB4.out⟩
set_option maxHeartbeats 4000000 in
set_option maxRecDepth 20000 in
theorem line_name (W : World) (B N : Nat) (dv sv : Value) (F : Cf) (ss : List Sx) (h : RfAt W B dv sv F.dirs ss N) (hF : ss.map Sx.sc = F.secs) (hN : N ≤ 50000) (hB : B ≤ W.heap.size) (z : ByteArray) (hz : z.size ≤ 100000) (n : Int) (m : List UInt8) (hr : z.data.toList = 91 :: (m ++ [93])) (hm : nameC m = false) :
    Calls Tryd.prog 27 #[.agg #[dv, sv], .string z, .int .i64 n] W fun e w' => LineTo W B N dv sv (F, 181) e w' := by
  have HLN := hide (LnAt.new W dv sv)
  have H := hide h
  have HF := hide hF
  obtain ⟨da, dc, rfl⟩ := row_form h.dirs
  obtain ⟨sa, sc, rfl⟩ := row_form h.secs
  obtain ⟨h0, hc⟩ := get_zero hr
  obtain ⟨K, hK, hK1, hKm, hex⟩ := open_text hr
  have hE := fun w => ref18_Ends z (tx [93]) w (by omega) (by decide)
  rw [hr, data_tx, suff1_cons 91 93 _ (by decide), (suff1_is m 93).1] at hE
  have hNm := fun w => ref18_Name ⟨m.toArray⟩ w (by rw [show (⟨m.toArray⟩ : ByteArray) = tx m from rfl, tx_size]; omega)
  simp only [hm] at hNm
  have hi : (0 : Int) < (z.size : Int) := by omega
  have hi2 : ¬ (z.size : Int) < 2 := by omega
  have hw : IntKind.i64.wrap ((z.size : Int) - 1) = (K : Int) := by rw [wrap_i64_is]; omega
  have hb1 : (1 : Int) ≤ (K : Int) := by omega
  have hb2 : (K : Int) ≤ (z.size : Int) := by omega
  unfold tx at hE
  clear h hF hr hm hK hKm
  unfold zFl at HLN
  go_enter Tryd.func27, Tryd.ntmps27
  go_wp2_with fail
  generalize (W.alloc (.cells #[.slice da F.dirs.length dc, .slice sa ss.length sc] 32)).alloc (.cells #[.slice none 0 0, .slice none 0 0] 32) = W2 at *
  have c0 := cells_of_block HLN.out.s3 0 _ rfl
  have c1 := cells_of_block HLN.out.s3 1 _ rfl
  go_wp2_with (first
    | (go_at_call 20; refine (hE _).mono ?_; rintro e w1 ⟨rfl, rfl⟩)
    | (go_at_call 19; refine (hNm _).mono ?_; rintro e w1 ⟨rfl, rfl⟩)
    | ((with_reducible refine at_storeQ (T := 32) ?_); refine store_part rfl _ _ _ rfl (W.heap.size + 1) 0 32 _ [.slice da F.dirs.length dc, .slice sa ss.length sc] [.slice da F.dirs.length dc, .slice sa ss.length sc].toArray HLN.out.s6 rfl rfl rf_size (fl_one _ _ ⟨_, _, _, rfl⟩ ⟨_, _, _, rfl⟩) (Nat.le_refl 2) (by rfl) ?_; intro w4 hg4 hb4; have HG4 := hide hg4; have HB4 := hide (below_own HLN.out.bw hb4 (by omega) (Nat.le_refl _)); clear hg4 hb4))
  refine bodyPost_ret (results_cell2 rfl _ _ (W.heap.size + 1) _ _ _ _ rfl HG4.out Tryd.underlying32 rfl (by kernel_rfl)) rfl ?_
  exact ⟨_, _, ss, rfl, HF.out, (H.out.stay HB4.out).more (Nat.le_succ N), Turn.of_below HB4.out⟩
set_option maxHeartbeats 4000000 in
set_option maxRecDepth 20000 in
theorem line_had (W : World) (B N : Nat) (dv sv : Value) (F : Cf) (ss : List Sx) (h : RfAt W B dv sv F.dirs ss N) (hF : ss.map Sx.sc = F.secs) (hN : N ≤ 50000) (hB : B ≤ W.heap.size) (z : ByteArray) (hz : z.size ≤ 100000) (n : Int) (m : List UInt8) (hr : z.data.toList = 91 :: (m ++ [93])) (hm : nameC m = true) (hany : F.secs.any (isS m) = true) :
    Calls Tryd.prog 27 #[.agg #[dv, sv], .string z, .int .i64 n] W fun e w' => LineTo W B N dv sv (F, 181) e w' := by
  have HLN := hide (LnAt.new W dv sv)
  have H := hide h
  have HF := hide hF
  obtain ⟨da, dc, rfl⟩ := row_form h.dirs
  obtain ⟨sa, sc, rfl⟩ := row_form h.secs
  obtain ⟨h0, hc⟩ := get_zero hr
  obtain ⟨K, hK, hK1, hKm, hex⟩ := open_text hr
  have hE := fun w => ref18_Ends z (tx [93]) w (by omega) (by decide)
  rw [hr, data_tx, suff1_cons 91 93 _ (by decide), (suff1_is m 93).1] at hE
  have hNm := fun w => ref18_Name ⟨m.toArray⟩ w (by rw [show (⟨m.toArray⟩ : ByteArray) = tx m from rfl, tx_size]; omega)
  simp only [hm] at hNm
  have hi : (0 : Int) < (z.size : Int) := by omega
  have hi2 : ¬ (z.size : Int) < 2 := by omega
  have hw : IntKind.i64.wrap ((z.size : Int) - 1) = (K : Int) := by rw [wrap_i64_is]; omega
  have hb1 : (1 : Int) ≤ (K : Int) := by omega
  have hb2 : (K : Int) ≤ (z.size : Int) := by omega
  unfold tx at hE
  have HANY := hide hany
  clear hany
  have HAX := hide (fun (wr : World) (hb : Below W.heap.size W wr) => (H.out.stay hb).argX (by omega))
  have HSL := hide (show ss.length ≤ 50000 from Nat.le_trans h.sm.2.1 hN)
  clear h hF hr hm hK hKm
  unfold zFl at HLN
  go_enter Tryd.func27, Tryd.ntmps27
  go_wp2_with fail
  generalize (W.alloc (.cells #[.slice da F.dirs.length dc, .slice sa ss.length sc] 32)).alloc (.cells #[.slice none 0 0, .slice none 0 0] 32) = W2 at *
  go_wp2_with (first
    | (go_at_call 20; refine (hE _).mono ?_; rintro e w1 ⟨rfl, rfl⟩)
    | (go_at_call 19; refine (hNm _).mono ?_; rintro e w1 ⟨rfl, rfl⟩))
  go_loopw [8] (fun vi wr => ∃ i : Nat, i ≤ ss.length ∧ vi = .int .i64 i ∧ Hid (LnAt W wr (.slice da F.dirs.length dc) (.slice sa ss.length sc)) ∧ Hid (∀ j (hj : j < ss.length), j < i → ss[j].name ≠ m)) (fun vi _ => ss.length - (intOf vi).toNat)
  case atStart => exact ⟨0, by omega, rfl, HLN.out, fun j hj h0 => by omega⟩
  case round =>
    obtain ⟨i, hi', rfl, HL, HJ⟩ := hrel
    clear HLN
    have HLN := HL
    clear HL
    by_cases hlt : i < ss.length
    · have hltI : (i : Int) < (ss.length : Int) := by omega
      have c1 := cells_of_block HLN.out.s3 1 _ rfl
      obtain ⟨g, o, rfl, q1, q2, q3, d0, d1⟩ := (HAX.out wr HLN.out.bw).at i hlt
      by_cases hn : ss[i].name = m
      · have hn2 : (ss[i].name == m) = true := by simpa using hn
        rw [hn] at d0
        unfold tx at d0
        clear hn hn2
        go_wp2_with fail
        go_quiet (fail)
        have HLQ := hide (HLN.out.stay (bel_drewN (Below.refl _ wr) nq))
        clear HLN c1 d0 d1
        have HLN := HLQ
        clear HLQ
        generalize wr.drewN nq = wq at *
        have c0 := cells_of_block HLN.out.s3 0 _ rfl
        have c1 := cells_of_block HLN.out.s3 1 _ rfl
        go_wp2_with ((with_reducible refine at_storeQ (T := 32) ?_); refine store_part rfl _ _ _ rfl (W.heap.size + 1) 0 32 _ [.slice da F.dirs.length dc, .slice (some ⟨g, o, none⟩) ss.length sc] [.slice da F.dirs.length dc, .slice (some ⟨g, o, none⟩) ss.length sc].toArray HLN.out.s6 rfl rfl rf_size (fl_one _ _ ⟨_, _, _, rfl⟩ ⟨_, _, _, rfl⟩) (Nat.le_refl 2) (by rfl) ?_; intro w4 hg4 hb4; have HG4 := hide hg4; have HB4 := hide (below_own HLN.out.bw hb4 (by omega) (Nat.le_refl _)); clear hg4 hb4)
        refine bodyPost_ret (results_cell2 rfl _ _ (W.heap.size + 1) _ _ _ _ rfl HG4.out Tryd.underlying32 rfl (by kernel_rfl)) rfl ?_
        exact ⟨_, _, ss, rfl, HF.out, (H.out.stay HB4.out).more (Nat.le_succ N), Turn.of_below HB4.out⟩
      · have HJ2 : Hid (∀ j (hj : j < ss.length), j < i + 1 → ss[j].name ≠ m) := fun j hj h1 => by
          by_cases e : j = i
          · subst e; exact hn
          · exact HJ.out j hj (by omega)
        have hn2 : (ss[i].name == m) = false := by simpa using hn
        generalize ss[i].name = nm' at *
        unfold tx at d0
        go_wp2_with fail
        go_quiet (fail)
        go_wp2
        go_roundw
        case rel => exact ⟨i + 1, by omega, by go_num, HLN.out.stay (bel_drewN (Below.refl _ wr) _), HJ2⟩
        case measure => simp [intOf]; omega
    · have hltI : ¬ (i : Int) < (ss.length : Int) := by omega
      have hie : i = ss.length := by omega
      subst hie
      exfalso
      obtain ⟨x, hx, hxm⟩ := List.any_eq_true.1 HANY.out
      rw [← HF.out] at hx
      obtain ⟨y, hy, rfl⟩ := List.mem_map.1 hx
      obtain ⟨j, hj, rfl⟩ := List.getElem_of_mem hy
      exact HJ.out j hj hj (by simpa [isS, Sx.sc] using hxm)
end Go.Proofs.YtmcefflgbliehaaDoor
