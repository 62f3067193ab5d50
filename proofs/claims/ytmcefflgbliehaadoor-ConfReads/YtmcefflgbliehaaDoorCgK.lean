
/-
  Layer 18 (conf): the reference's Parse.
-/
import Derived.Test.YtmcefflgbliehaaDoorCgJ
set_option linter.unusedVariables false
namespace Go.Proofs.YtmcefflgbliehaaDoor
open Go.RowKit Go.PlainAid Go.Sort
theorem rf_info (w : World) (g : Nat) (a b : Value) (h : w.heap[g]? = some (.cells #[a, b] 32 (0, 0))) : (loadVar 32 ⟨g, 0, none⟩).run Tryd.prog w = .ok (.agg #[a, b]) w :=
  run_loadVar_row (P := Tryd.prog) w g _ _ #[a, b] (0, 0) _ h Tryd.underlying32 rfl (by kernel_rfl)
theorem pl_cases (c : UInt8) : plB c = (bl c || (decide (32 ≤ c.toNat) && decide (c.toNat ≤ 126))) := rfl
/-- The text of a line without its note. -/
theorem note_text (z : ByteArray) (hz : z.size ≤ 100000) : (Lib.index z.data.toList [35] = -1 ∧ TrimIs z ⟨(saidC z.data.toList).toArray⟩) ∨ ∃ k : Nat, k < z.size ∧ Lib.index z.data.toList [35] = (k : Int) ∧ ∃ a : List UInt8, z.extract 0 k = ⟨a.toArray⟩ ∧ TrimIs ⟨a.toArray⟩ ⟨(saidC z.data.toList).toArray⟩ := by
  rcases index_cases 35 z.data.toList with h | ⟨k, hk, h⟩
  · refine .inl ⟨h, by omega, ?_⟩
    unfold saidC
    rw [cut_not 35 _ h]
    rfl
  · have hk2 : k < z.size := by rw [size_list]; exact hk
    obtain ⟨h1, h2, h3⟩ := sign_text z k hk2
    refine .inr ⟨k, hk2, h, _, h1, ?_, ?_⟩
    · rw [show (⟨(z.data.toList.take k).toArray⟩ : ByteArray) = tx (z.data.toList.take k) from rfl, tx_size]; omega
    · unfold saidC
      rw [cut_at 35 _ k h]
      rfl
set_option maxHeartbeats 8000000 in
set_option maxRecDepth 20000 in
theorem ref18_Parse (w : World) (l : List UInt8) (hl : l.length ≤ 100000000) :
    Calls Tryd.prog 9 #[.string (tx l)] w fun e w' => ParseTo w (parseC l) e w' := by
  have hb0 := below_box w (.cells zFl.toArray 32)
  have HB0 := hide hb0
  have HR0 := hide (block_new w (.cells zFl.toArray 32))
  by_cases hbig : 16384 < l.length
  · have hT : parseC l = (noCf, 0, 67) := by unfold parseC; rw [if_pos hbig]
    rw [hT]
    have hI : (16384 : Int) < (l.length : Int) := by omega
    clear hb0 hT hbig
    unfold tx
    unfold zFl at HR0 HB0
    go_enter Tryd.func9, Tryd.ntmps9
    go_wp2_with ((with_reducible refine at_storeQ (T := 32) ?_); refine store_part rfl _ _ _ rfl w.heap.size 0 32 _ zFl zFl.toArray HR0.out rfl rfl rf_size fl_one0 (Nat.le_refl 2) (by rfl) ?_; intro w4 hg4 hb4; have HG4 := hide hg4; have HB4 := hide (below_own HB0.out hb4 (Nat.le_refl _) (Nat.le_refl _)); clear hg4 hb4)
    refine bodyPost_ret (results_cell3 rfl _ _ w.heap.size _ _ _ _ rfl HG4.out Tryd.underlying32 rfl (by kernel_rfl)) rfl ?_
    exact ⟨⟨_, _, rfl, CfIs.no _⟩, HB4.out⟩
  · have hT : parseC l = goC noCf (sp 10 l) 1 := by unfold parseC; rw [if_neg hbig]
    rw [hT]
    have hl2 : l.length ≤ 16384 := by omega
    have hI : ¬ (16384 : Int) < (l.length : Int) := by omega
    have hsz : (w.alloc (.cells zFl.toArray 32)).heap.size = w.heap.size + 1 := by simp
    have hSp := ref_Split (tx l) 10 10 rfl (w.alloc (.cells zFl.toArray 32)) (by rw [tx_size]; omega)
    rw [data_tx, hsz] at hSp
    have HXN : Hid (0 < (sp 10 l).length ∧ (sp 10 l).length ≤ 16385) := ⟨List.length_pos_iff.2 (sp_ne 10 l), by have := sp_len 10 l; omega⟩
    have HXL : Hid (∀ x ∈ sp 10 l, x.length ≤ 100000) := fun x hx => by have := sp_le 10 l x hx; omega
    have HS2 := hide hsz
    generalize sp 10 l = xs at *
    obtain ⟨T, hTT⟩ : ∃ T, goC noCf xs 1 = T := ⟨_, rfl⟩
    rw [hTT]
    have HT := hide hTT
    clear hb0 hT hbig hl2 hsz hTT
    unfold tx at hSp ⊢
    unfold zFl at *
    go_enter Tryd.func9, Tryd.ntmps9
    go_wp2_with fail
    refine hSp.mono ?_
    rintro e w2 ⟨v, rfl, hown, hb2⟩
    obtain ⟨L, c, hv, hc1, hc2⟩ := row_pos hown (by rw [List.length_map]; exact HXN.out.1)
    rw [List.length_map] at hv hc1
    subst hv
    have hlt2 : w.heap.size < w2.heap.size := by have := hb2.size; rw [HS2.out] at this; omega
    have HP0 : Hid (RpAt w (w2.alloc (.cells #[.slice none 0 0, .slice none 0 0] 32)) w2.heap.size L xs.length c xs 0 noCf (.slice none 0 0) (.slice none 0 0) []) := by
      have hb12 : Below w.heap.size w w2 := HB0.out.trans (hb2.mono (Nat.le_succ _))
      have hb3 := below_box w2 (.cells #[.slice none 0 0, .slice none 0 0] 32)
      refine ⟨hb12.trans (hb3.mono hb12.size), block_stay (w := w2) ?_ hb3, block_new w2 _, hlt2, ⟨OwnP.nil _ _ _, OwnX.nil _ _ _, by simp, ⟨by simp [noCf], by simp, by simp⟩, by simp⟩, rfl, row_keep hown (fun g hg => hb3.block g (World.ownsRow.lt hown g hg).2)⟩
      rw [hb2.block _ (by omega)]; exact HR0.out
    have hcI : c ≤ 9223372036854775807 := by unfold maxLen at hc2; omega
    have hnI : xs.length ≤ 16385 := HXN.out.2
    clear hSp hown hb2 HR0 HB0 HS2 hc2 hlt2
    go_wp2_with fail
    go_loopw [7, 8, 9, 10, 11] (fun vi _ _ _ _ wr => ∃ (i : Nat) (F : Cf) (dv sv : Value) (ss : List Sx), i ≤ xs.length ∧ vi = .int .i64 i ∧ Hid (RpAt w wr w2.heap.size L xs.length c xs i F dv sv ss) ∧ Hid (goC F (xs.drop i) (i + 1) = T) ∧ Hid (NdF F)) (fun vi _ _ _ _ _ => xs.length - (intOf vi).toNat)
    case atStart => exact ⟨0, noCf, _, _, [], by omega, rfl, HP0.out, HT.out, fun s hs => by cases hs⟩
    case round =>
      obtain ⟨i, F, dv, sv, ss, hi, rfl, HP, HG, HN⟩ := hrel
      by_cases hlt : i < xs.length
      · have hltI : (i : Int) < (xs.length : Int) := by omega
        have hiw : IntKind.i64.wrap ((i : Int) + 1) = (i : Int) + 1 := by rw [wrap_i64_is]; omega
        obtain ⟨g, he, _, _, _, _, hcell⟩ := HP.out.l.cells (by rw [List.length_map]; omega)
        injection he with he; injection he with he
        subst he
        have d0 := hcell i (tx xs[i]) (by rw [List.getElem?_map, List.getElem?_eq_getElem hlt]; rfl)
        have hxl := HXL.out _ (List.getElem_mem hlt)
        have hG := HG.out
        rw [List.drop_eq_getElem_cons hlt, goC] at hG
        generalize xs[i] = x at *
        obtain ⟨z, hz⟩ : ∃ z, tx x = z := ⟨_, rfl⟩
        have hzx : z.data.toList = x := by rw [← hz, data_tx]
        have hzs : z.size ≤ 100000 := by rw [← hz, tx_size]; exact hxl
        rw [hz] at d0
        have HZ := hide hzx
        have HGT := hide hG
        clear hcell HG hG hz hzx hxl
        go_wp2_with fail
        go_loop [9] (fun vk => ∃ k : Nat, vk = .int .i64 k ∧ k ≤ z.size ∧ Hid ((x.take k).all plB = true)) (fun vk => z.size - (intOf vk).toNat)
        case atStart => exact ⟨0, rfl, by omega, by simp [Hid]⟩
        case round =>
          obtain ⟨k, rfl, hk, HA⟩ := hrel
          have hkI0 : (0 : Int) ≤ (k : Int) := by omega
          by_cases hkl : k < z.size
          · have hkI : (k : Int) < (z.size : Int) := by omega
            obtain ⟨ch, hch⟩ : ∃ ch, z[k]'hkl = ch := ⟨_, rfl⟩
            have HC : Hid (x.getD k 0 = ch) := by rw [Hid, ← HZ.out, ← get_list z k hkl, hch]
            have HKX : Hid (k < x.length) := by rw [Hid, ← HZ.out, ← size_list]; exact hkl
            have hbk := ref18_blank ch wr
            have hcl := ch.toNat_lt
            have hpl := pl_cases ch
            cases hb : bl ch with
            | true =>
              rw [hb] at hbk hpl
              have HNX : Hid ((x.take (k + 1)).all plB = true) := by rw [Hid, all_take_snoc plB x k HKX.out, HA.out, HC.out, hpl]; rfl
              clear hb hpl
              go_wp2_with (go_at_call 24; refine hbk.mono ?_; rintro e w5 ⟨rfl, rfl⟩)
              go_round
              case rel => exact ⟨k + 1, by go_num, by omega, HNX⟩
              case measure => simp [intOf]; omega
            | false =>
              rw [hb, Bool.false_or] at hpl
              rw [hb] at hbk
              by_cases h32 : 32 ≤ ch.toNat ∧ ch.toNat ≤ 126
              · have h1 : ¬ (ch.toNat : Int) < 32 := by omega
                have h2 : ¬ (126 : Int) < (ch.toNat : Int) := by omega
                have HNX : Hid ((x.take (k + 1)).all plB = true) := by rw [Hid, all_take_snoc plB x k HKX.out, HA.out, HC.out, hpl]; simp [h32.1, h32.2]
                clear hb hpl h32
                go_wp2_with (go_at_call 24; refine hbk.mono ?_; rintro e w5 ⟨rfl, rfl⟩)
                go_round
                case rel => exact ⟨k + 1, by go_num, by omega, HNX⟩
                case measure => simp [intOf]; omega
              · have hbad : plB ch = false := by
                  rw [hpl]
                  rw [Bool.eq_false_iff]
                  intro h
                  simp only [Bool.and_eq_true, decide_eq_true_eq] at h
                  exact h32 h
                have hpc : plainC x = false := by unfold plainC; exact all_bad plB x k HKX.out (by rw [HC.out]; exact hbad)
                have hG := HGT.out
                rw [take_1 hpc] at hG
                rw [if_neg (by simp)] at hG
                have HG2 := hide hG
                have h3 : (ch.toNat : Int) < 32 ∨ (¬ (ch.toNat : Int) < 32 ∧ (126 : Int) < (ch.toNat : Int)) := by omega
                clear hb hpl h32 hbad hpc hG
                rcases h3 with h3 | ⟨h3, h4⟩
                all_goals
                  go_wp2_with (first
                    | (go_at_call 24; refine hbk.mono ?_; rintro e w5 ⟨rfl, rfl⟩)
                    | ((with_reducible refine at_storeQ (T := 32) ?_); refine store_part rfl _ _ _ rfl w.heap.size 0 32 _ zFl zFl.toArray HP.out.r rfl rfl rf_size fl_one0 (Nat.le_refl 2) (by rfl) ?_; intro w4 hg4 hb4; have HG4 := hide hg4; have HB4 := hide (below_own HP.out.bw hb4 (Nat.le_refl _) (Nat.le_refl _)); clear hg4 hb4))
                  refine bodyPost_ret (results_cell3 rfl _ _ w.heap.size _ _ _ _ rfl HG4.out Tryd.underlying32 rfl (by kernel_rfl)) rfl ?_
                  rw [← HG2.out]
                  exact ⟨⟨_, _, rfl, CfIs.no _⟩, HB4.out⟩
          · have hkI : ¬ (k : Int) < (z.size : Int) := by omega
            have hpc : plainC x = true := by
              have := HA.out
              rw [show k = x.length by rw [← HZ.out, ← size_list]; omega, List.take_length] at this
              exact this
            have hNt := note_text z hzs
            rw [HZ.out] at hNt
            have HNN : Hid (NdF (takeC F x ((i : Int) + 1)).1) := take_nd HN.out x _
            by_cases hs0 : saidC x = []
            · have hG := HGT.out
              rw [take_2 hpc hs0] at hG
              rw [if_pos rfl] at hG
              have HG2 := hide hG
              rw [hs0] at hNt
              clear hG hs0 hpc HNN
              rcases hNt with ⟨hix, hTr⟩ | ⟨kn, hkn, hix, a, hxa, hTr⟩
              · have HTR := hide hTr
                have hFd : ∀ w, Calls Tryd.prog 25 #[.string z, .int .u8 35] w fun e w' => e = .returned (.int .i64 (-1)) ∧ w = w' := fun w => by
                  have := ref18_find z 35 w (by omega)
                  rw [HZ.out, hix] at this
                  exact this
                clear hTr hix
                go_wp2_with (first
                  | (go_at_call 25; refine (hFd _).mono ?_; rintro e w5 ⟨rfl, rfl⟩)
                  | (go_at_call 26; refine (call_trim HTR.out _).mono ?_; rintro e w5 ⟨rfl, rfl⟩))
                go_roundw
                case rel => exact ⟨i + 1, F, dv, sv, ss, by omega, by go_num, HP.out.more, by have := HG2.out; rw [Hid]; exact_mod_cast this, HN.out⟩
                case measure => simp [intOf]; omega
              · have HTR := hide hTr
                have hFd : ∀ w, Calls Tryd.prog 25 #[.string z, .int .u8 35] w fun e w' => e = .returned (.int .i64 (kn : Int)) ∧ w = w' := fun w => by
                  have := ref18_find z 35 w (by omega)
                  rw [HZ.out, hix] at this
                  exact this
                have hn0 : (0 : Int) ≤ (kn : Int) := by omega
                have hn1 : (kn : Int) ≤ (z.size : Int) := by omega
                clear hTr hix hkn
                go_wp2_with (first
                  | (go_at_call 25; refine (hFd _).mono ?_; rintro e w5 ⟨rfl, rfl⟩)
                  | (go_at_call 26; refine (call_trim HTR.out _).mono ?_; rintro e w5 ⟨rfl, rfl⟩))
                go_roundw
                case rel => exact ⟨i + 1, F, dv, sv, ss, by omega, by go_num, HP.out.more, by have := HG2.out; rw [Hid]; exact_mod_cast this, HN.out⟩
                case measure => simp [intOf]; omega
            · have hG := HGT.out
              have hTL := take_lineC (F := F) (n := (i : Int) + 1) hpc hs0
              have hss := said_len x
              have hxl9 : x.length ≤ 100000 := by rw [← HZ.out, ← size_list]; exact hzs
              have hLn := ref18_line wr (w2.heap.size + 1) i dv sv F ss HP.out.a HP.out.s (by omega) HP.out.lt ⟨(saidC x).toArray⟩ (by rw [show (⟨(saidC x).toArray⟩ : ByteArray) = tx (saidC x) from rfl, tx_size]; omega) ((i : Int) + 1) (by rw [show (⟨(saidC x).toArray⟩ : ByteArray) = tx (saidC x) from rfl, data_tx]; exact hs0) HN.out
              rw [show (⟨(saidC x).toArray⟩ : ByteArray).data.toList = saidC x from data_tx (saidC x)] at hLn
              rw [← hTL] at hLn
              have hse := empty_of hs0
              obtain ⟨da, dc, hdv⟩ := row_form HP.out.a.dirs
              obtain ⟨sa, sc, hsv⟩ := row_form HP.out.a.secs
              subst hdv hsv
              have HLD := hide (rf_info _ _ _ _ HP.out.fx)
              generalize saidC x = s at *
              generalize takeC F x ((i : Int) + 1) = Tk at *
              obtain ⟨F', E⟩ := Tk
              simp only [] at hG HNN
              clear hTL hss hpc hxl9
              by_cases he0 : E = 0
              · subst he0
                rw [if_pos rfl] at hG
                have HG2 := hide hG
                clear hG
                rcases hNt with ⟨hix, hTr⟩ | ⟨kn, hkn, hix, a, hxa, hTr⟩
                · have HTR := hide hTr
                  have hFd : ∀ w, Calls Tryd.prog 25 #[.string z, .int .u8 35] w fun e w' => e = .returned (.int .i64 (-1)) ∧ w = w' := fun w => by
                    have := ref18_find z 35 w (by omega)
                    rw [HZ.out, hix] at this
                    exact this
                  clear hTr hix
                  go_wp2_with (first
                    | (go_at_call 25; refine (hFd _).mono ?_; rintro e w5 ⟨rfl, rfl⟩)
                    | (go_at_call 26; refine (call_trim HTR.out _).mono ?_; rintro e w5 ⟨rfl, rfl⟩)
                    | ((with_reducible refine at_loadQ (T := 32) ?_); refine load_row rfl _ _ rfl w2.heap.size _ HLD.out rfl ?_)
                    | (go_at_call 27; refine hLn.mono ?_; rintro e w3 ⟨dv', sv', ss', rfl, hm', ha', ht'⟩; obtain ⟨a1, c1, e1⟩ := row_form ha'.dirs; obtain ⟨a2, c2, e2⟩ := row_form ha'.secs; subst e1 e2; have HM3 := hide (HP.out.mid ht'); have HA3 := hide ha'; have HT3 := hide ht'; have HS3 := hide hm'; clear ha' ht' hm')
                    | ((with_reducible refine at_storeQ (T := 32) ?_); refine store_part rfl _ _ _ rfl w2.heap.size 0 32 _ [.slice a1 F'.dirs.length c1, .slice a2 ss'.length c2] [.slice a1 F'.dirs.length c1, .slice a2 ss'.length c2].toArray HM3.out.1 rfl rfl rf_size (fl_one _ _ ⟨_, _, _, rfl⟩ ⟨_, _, _, rfl⟩) (Nat.le_refl 2) (by rfl) ?_; intro w4 hg4 hb4; have HP4 := hide (HP.out.next HT3.out HS3.out HA3.out hg4 hb4); clear hg4 hb4))
                  go_roundw
                  case rel => exact ⟨i + 1, F', _, _, ss', by omega, by go_num, HP4.out, by have := HG2.out; rw [Hid]; exact_mod_cast this, HNN.out⟩
                  case measure => simp [intOf]; omega
                · have HTR := hide hTr
                  have hFd : ∀ w, Calls Tryd.prog 25 #[.string z, .int .u8 35] w fun e w' => e = .returned (.int .i64 (kn : Int)) ∧ w = w' := fun w => by
                    have := ref18_find z 35 w (by omega)
                    rw [HZ.out, hix] at this
                    exact this
                  have hn0 : (0 : Int) ≤ (kn : Int) := by omega
                  have hn1 : (kn : Int) ≤ (z.size : Int) := by omega
                  clear hTr hix hkn
                  go_wp2_with (first
                    | (go_at_call 25; refine (hFd _).mono ?_; rintro e w5 ⟨rfl, rfl⟩)
                    | (go_at_call 26; refine (call_trim HTR.out _).mono ?_; rintro e w5 ⟨rfl, rfl⟩)
                    | ((with_reducible refine at_loadQ (T := 32) ?_); refine load_row rfl _ _ rfl w2.heap.size _ HLD.out rfl ?_)
                    | (go_at_call 27; refine hLn.mono ?_; rintro e w3 ⟨dv', sv', ss', rfl, hm', ha', ht'⟩; obtain ⟨a1, c1, e1⟩ := row_form ha'.dirs; obtain ⟨a2, c2, e2⟩ := row_form ha'.secs; subst e1 e2; have HM3 := hide (HP.out.mid ht'); have HA3 := hide ha'; have HT3 := hide ht'; have HS3 := hide hm'; clear ha' ht' hm')
                    | ((with_reducible refine at_storeQ (T := 32) ?_); refine store_part rfl _ _ _ rfl w2.heap.size 0 32 _ [.slice a1 F'.dirs.length c1, .slice a2 ss'.length c2] [.slice a1 F'.dirs.length c1, .slice a2 ss'.length c2].toArray HM3.out.1 rfl rfl rf_size (fl_one _ _ ⟨_, _, _, rfl⟩ ⟨_, _, _, rfl⟩) (Nat.le_refl 2) (by rfl) ?_; intro w4 hg4 hb4; have HP4 := hide (HP.out.next HT3.out HS3.out HA3.out hg4 hb4); clear hg4 hb4))
                  go_roundw
                  case rel => exact ⟨i + 1, F', _, _, ss', by omega, by go_num, HP4.out, by have := HG2.out; rw [Hid]; exact_mod_cast this, HNN.out⟩
                  case measure => simp [intOf]; omega
              · rw [if_neg he0] at hG
                have HG2 := hide hG
                have hne : (E != 0) = true := by simpa using he0
                have hne2 : (E == 0) = false := by simpa using he0
                clear hG HNN
                rcases hNt with ⟨hix, hTr⟩ | ⟨kn, hkn, hix, a, hxa, hTr⟩
                · have HTR := hide hTr
                  have hFd : ∀ w, Calls Tryd.prog 25 #[.string z, .int .u8 35] w fun e w' => e = .returned (.int .i64 (-1)) ∧ w = w' := fun w => by
                    have := ref18_find z 35 w (by omega)
                    rw [HZ.out, hix] at this
                    exact this
                  clear hTr hix
                  go_wp2_with (first
                    | (go_at_call 25; refine (hFd _).mono ?_; rintro e w5 ⟨rfl, rfl⟩)
                    | (go_at_call 26; refine (call_trim HTR.out _).mono ?_; rintro e w5 ⟨rfl, rfl⟩)
                    | ((with_reducible refine at_loadQ (T := 32) ?_); refine load_row rfl _ _ rfl w2.heap.size _ HLD.out rfl ?_)
                    | (go_at_call 27; refine hLn.mono ?_; rintro e w3 ⟨dv', sv', ss', rfl, hm', ha', ht'⟩; obtain ⟨a1, c1, e1⟩ := row_form ha'.dirs; obtain ⟨a2, c2, e2⟩ := row_form ha'.secs; subst e1 e2; have HM3 := hide (HP.out.mid ht'); have HA3 := hide ha'; have HT3 := hide ht'; have HS3 := hide hm'; clear ha' ht' hm')
                    | ((with_reducible refine at_storeQ (T := 32) ?_); refine store_part rfl _ _ _ rfl w2.heap.size 0 32 _ [.slice a1 F'.dirs.length c1, .slice a2 ss'.length c2] [.slice a1 F'.dirs.length c1, .slice a2 ss'.length c2].toArray HM3.out.1 rfl rfl rf_size (fl_one _ _ ⟨_, _, _, rfl⟩ ⟨_, _, _, rfl⟩) (Nat.le_refl 2) (by rfl) ?_; intro w4 hg4 hb4; have HP4 := hide (HP.out.next HT3.out HS3.out HA3.out hg4 hb4); clear hg4 hb4)
                    | ((with_reducible refine at_storeQ (T := 32) ?_); refine store_part rfl _ _ _ rfl w.heap.size 0 32 _ zFl zFl.toArray HP4.out.r rfl rfl rf_size fl_one0 (Nat.le_refl 2) (by rfl) ?_; intro w9 hg9 hb9; have HG9 := hide hg9; have HB9 := hide (below_own HP4.out.bw hb9 (Nat.le_refl _) (Nat.le_refl _)); clear hg9 hb9))
                  refine bodyPost_ret (results_cell3 rfl _ _ w.heap.size _ _ _ _ rfl HG9.out Tryd.underlying32 rfl (by kernel_rfl)) rfl ?_
                  rw [← HG2.out]
                  exact ⟨⟨_, _, rfl, CfIs.no _⟩, HB9.out⟩
                · have HTR := hide hTr
                  have hFd : ∀ w, Calls Tryd.prog 25 #[.string z, .int .u8 35] w fun e w' => e = .returned (.int .i64 (kn : Int)) ∧ w = w' := fun w => by
                    have := ref18_find z 35 w (by omega)
                    rw [HZ.out, hix] at this
                    exact this
                  have hn0 : (0 : Int) ≤ (kn : Int) := by omega
                  have hn1 : (kn : Int) ≤ (z.size : Int) := by omega
                  clear hTr hix hkn
                  go_wp2_with (first
                    | (go_at_call 25; refine (hFd _).mono ?_; rintro e w5 ⟨rfl, rfl⟩)
                    | (go_at_call 26; refine (call_trim HTR.out _).mono ?_; rintro e w5 ⟨rfl, rfl⟩)
                    | ((with_reducible refine at_loadQ (T := 32) ?_); refine load_row rfl _ _ rfl w2.heap.size _ HLD.out rfl ?_)
                    | (go_at_call 27; refine hLn.mono ?_; rintro e w3 ⟨dv', sv', ss', rfl, hm', ha', ht'⟩; obtain ⟨a1, c1, e1⟩ := row_form ha'.dirs; obtain ⟨a2, c2, e2⟩ := row_form ha'.secs; subst e1 e2; have HM3 := hide (HP.out.mid ht'); have HA3 := hide ha'; have HT3 := hide ht'; have HS3 := hide hm'; clear ha' ht' hm')
                    | ((with_reducible refine at_storeQ (T := 32) ?_); refine store_part rfl _ _ _ rfl w2.heap.size 0 32 _ [.slice a1 F'.dirs.length c1, .slice a2 ss'.length c2] [.slice a1 F'.dirs.length c1, .slice a2 ss'.length c2].toArray HM3.out.1 rfl rfl rf_size (fl_one _ _ ⟨_, _, _, rfl⟩ ⟨_, _, _, rfl⟩) (Nat.le_refl 2) (by rfl) ?_; intro w4 hg4 hb4; have HP4 := hide (HP.out.next HT3.out HS3.out HA3.out hg4 hb4); clear hg4 hb4)
                    | ((with_reducible refine at_storeQ (T := 32) ?_); refine store_part rfl _ _ _ rfl w.heap.size 0 32 _ zFl zFl.toArray HP4.out.r rfl rfl rf_size fl_one0 (Nat.le_refl 2) (by rfl) ?_; intro w9 hg9 hb9; have HG9 := hide hg9; have HB9 := hide (below_own HP4.out.bw hb9 (Nat.le_refl _) (Nat.le_refl _)); clear hg9 hb9))
                  refine bodyPost_ret (results_cell3 rfl _ _ w.heap.size _ _ _ _ rfl HG9.out Tryd.underlying32 rfl (by kernel_rfl)) rfl ?_
                  rw [← HG2.out]
                  exact ⟨⟨_, _, rfl, CfIs.no _⟩, HB9.out⟩
      · have hltI : ¬ (i : Int) < (xs.length : Int) := by omega
        have hie : i = xs.length := by omega
        subst hie
        have hG := HG.out
        rw [List.drop_length, goC] at hG
        have HG2 := hide hG
        obtain ⟨da, dc, hdv⟩ := row_form HP.out.a.dirs
        obtain ⟨sa, sc, hsv⟩ := row_form HP.out.a.secs
        subst hdv hsv
        have HLD := hide (rf_info _ _ _ _ HP.out.fx)
        clear hG HG
        go_wp2_with (first
          | ((with_reducible refine at_loadQ (T := 32) ?_); refine load_row rfl _ _ rfl w2.heap.size _ HLD.out rfl ?_)
          | ((with_reducible refine at_storeQ (T := 32) ?_); refine store_part rfl _ _ _ rfl w.heap.size 0 32 _ [.slice da F.dirs.length dc, .slice sa ss.length sc] [.slice da F.dirs.length dc, .slice sa ss.length sc].toArray HP.out.r rfl rfl rf_size (fl_one _ _ ⟨_, _, _, rfl⟩ ⟨_, _, _, rfl⟩) (Nat.le_refl 2) (by rfl) ?_; intro w4 hg4 hb4; have HG4 := hide hg4; have HB4 := hide (below_own HP.out.bw hb4 (Nat.le_refl _) (Nat.le_refl _)); have HF4 := hide (HP.out.a.store HP.out.r hb4); clear hg4 hb4))
        refine bodyPost_ret (results_cell3 rfl _ _ w.heap.size _ _ _ _ rfl HG4.out Tryd.underlying32 rfl (by kernel_rfl)) rfl ?_
        rw [← HG2.out]
        exact ⟨⟨_, _, rfl, HF4.out.argD (by have := HXN.out.2; omega), ss, HP.out.s, HF4.out.argX (by have := HXN.out.2; omega)⟩, HB4.out⟩
end Go.Proofs.YtmcefflgbliehaaDoor
