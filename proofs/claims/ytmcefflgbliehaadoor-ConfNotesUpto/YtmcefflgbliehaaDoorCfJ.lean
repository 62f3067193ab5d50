
/-
  Layer 18 (conf): Parse.
-/
import Derived.Test.YtmcefflgbliehaaDoorCfI
set_option linter.unusedVariables false
namespace Go.Proofs.YtmcefflgbliehaaDoor
open Go.RowKit Go.PlainAid Go.Sort
theorem sp_le (c : UInt8) : ∀ (l x : List UInt8), x ∈ sp c l → x.length ≤ l.length
  | [], x, h => by simp [sp] at h; subst h; simp
  | b :: l, x, h => by
    have hf := sp_form c l
    unfold sp at h
    split at h
    · rcases List.mem_cons.1 h with rfl | h
      · simp
      · exact Nat.le_succ_of_le (sp_le c l x h)
    · rcases List.mem_cons.1 h with rfl | h
      · have : (sp c l).headD [] ∈ sp c l := by rw [hf]; simp
        have := sp_le c l _ this
        rw [List.length_cons, List.length_cons]; omega
      · have : x ∈ sp c l := by rw [hf]; exact List.mem_cons_of_mem _ h
        exact Nat.le_succ_of_le (sp_le c l x this)
def noCf : Cf := ⟨[], []⟩
/-- What the lines from the k-th on do. -/
def goC : Cf → List (List UInt8) → Int → Cf × Int × Int
  | F, [], _ => (F, 0, 0)
  | F, x :: r, k => if (takeC F x k).2 = 0 then goC (takeC F x k).1 r (k + 1) else (noCf, k, (takeC F x k).2)
def parseC (l : List UInt8) : Cf × Int × Int := if 16384 < l.length then (noCf, 0, 67) else goC noCf (sp 10 l) 1
/-- Two slices are a configuration that can be read. -/
def CfIs (w : World) (dv sv : Value) (F : Cf) : Prop := ArgP w dv F.dirs ∧ ∃ ss : List Sx, ss.map Sx.sc = F.secs ∧ ArgX w sv ss
theorem CfIs.below {w w' : World} {dv sv : Value} {F : Cf} (h : CfIs w dv sv F) (hb : Below w.heap.size w w') : CfIs w' dv sv F := by
  obtain ⟨h1, ss, h2, h3⟩ := h
  exact ⟨h1.below hb, ss, h2, h3.below hb⟩
theorem ArgP.nilA (w : World) : ArgP w (.slice none 0 0) [] := ⟨by simp, .inl ⟨rfl, _, _, rfl⟩⟩
theorem ArgX.nilA (w : World) : ArgX w (.slice none 0 0) [] := ⟨by simp, by simp, .inl ⟨rfl, _, _, rfl⟩⟩
theorem CfIs.no (w : World) : CfIs w (.slice none 0 0) (.slice none 0 0) noCf := ⟨ArgP.nilA w, [], rfl, ArgX.nilA w⟩
/-- What Parse answers. -/
def ParseTo (w : World) (T : Cf × Int × Int) (e : Ending) (w' : World) : Prop :=
  (∃ dv sv, e = .returned (.tuple #[.agg #[dv, sv], .int .i64 T.2.1, .int .i64 T.2.2]) ∧ CfIs w' dv sv T.1) ∧ Below w.heap.size w w'
def zFl : List Value := [.slice none 0 0, .slice none 0 0]
theorem fl_size : ∀ w, (Go.sizeOf 25).run Tryd.prog w = .ok 2 w := Tryd.sizeOf25
theorem fl_one (a b : Value) (ha : ∃ x n c, a = .slice x n c) (hb : ∃ x n c, b = .slice x n c) : ∀ u ∈ [a, b], u.oneCell' = true := by
  obtain ⟨_, _, _, rfl⟩ := ha
  obtain ⟨_, _, _, rfl⟩ := hb
  intro u hu
  simp only [List.mem_cons, List.not_mem_nil, or_false] at hu
  rcases hu with rfl | rfl <;> rfl
theorem fl_one0 : ∀ u ∈ zFl, u.oneCell' = true := fl_one _ _ ⟨_, _, _, rfl⟩ ⟨_, _, _, rfl⟩
theorem load_fl {w : World} {g : Nat} {cs : Array Value} (h : w.heap[g]? = some (.cells cs 25 (0, 0))) (hs : cs.size = 2) : (loadVar 25 ⟨g, 0, none⟩).run Tryd.prog w = .ok (.agg cs) w :=
  run_loadVar_row (P := Tryd.prog) w g _ _ cs (0, 0) _ h Tryd.underlying25 rfl (by rw [hs]; kernel_rfl)
/-- What holds at each line. -/
structure PaAt (w wr : World) (L : Nat) (n c : Nat) (xs : List (List UInt8)) (i : Nat) (F : Cf) (dv sv : Value) (ss : List Sx) : Prop where
  b : Below w.heap.size w wr
  r : wr.heap[w.heap.size]? = some (.cells zFl.toArray 25 (0, 0))
  f : FileAt wr (w.heap.size + 1) (w.heap.size + 1) dv sv F.dirs ss i
  s : ss.map Sx.sc = F.secs
  l : OwnS wr (w.heap.size + 1) (.slice (some ⟨L, 0, none⟩) n c) (xs.map tx)
  k : ¬ foot (w.heap.size + 1) dv sv ss L
theorem PaAt.lt {w wr : World} {L n c : Nat} {xs : List (List UInt8)} {i : Nat} {F : Cf} {dv sv : Value} {ss : List Sx} (h : PaAt w wr L n c xs i F dv sv ss) : L < wr.heap.size ∧ w.heap.size + 1 ≤ wr.heap.size := ⟨(World.ownsRow.lt h.l L rfl).2, Nat.le_of_lt (block_lt h.f.head)⟩
theorem PaAt.next {w wr w' : World} {L n c : Nat} {xs : List (List UInt8)} {i : Nat} {F F' : Cf} {dv sv : Value} {ss : List Sx} (h : PaAt w wr L n c xs i F dv sv ss) (ht : TakeTo wr w' (w.heap.size + 1) (w.heap.size + 1) i dv sv ss F') :
    ∃ dv' sv' ss', PaAt w w' L n c xs (i + 1) F' dv' sv' ss' := by
  obtain ⟨ss', h1, dv', sv', h2, h3, h4⟩ := ht
  have hlt := h.lt
  have hfar : ∀ k, k < w.heap.size + 1 → ¬ foot (w.heap.size + 1) dv sv ss k := fun k hk e => by have := (h.f.foot e).1; omega
  refine ⟨dv', sv', ss', ⟨?_, ?_, h2, h1, row_keep h.l (fun g hg => ?_), fun e => ?_⟩⟩
  · exact h.b.trans (h3.below (by omega) (fun k hk => by have := (h.f.foot hk).1; omega))
  · rw [h3.block _ (by omega) (hfar _ (by omega))]; exact h.r
  · injection hg with hg; subst hg; exact h3.block _ hlt.1 h.k
  · rcases h4 L e with e | e
    · exact h.k e
    · omega
set_option maxHeartbeats 4000000 in
set_option maxRecDepth 20000 in
theorem conf_Parse (w : World) (hm : Mx w) (l : List UInt8) (hl : l.length ≤ 100000000) :
    Calls Tryd.prog 8 #[.string (tx l)] w fun e w' => ParseTo w (parseC l) e w' := by
  have hb0 := below_box w (.cells zFl.toArray 25)
  have HB0 := hide hb0
  have HR0 := hide (block_new w (.cells zFl.toArray 25))
  by_cases hbig : 16384 < l.length
  · have hT : parseC l = (noCf, 0, 67) := by unfold parseC; rw [if_pos hbig]
    rw [hT]
    have hI : (16384 : Int) < (l.length : Int) := by omega
    clear hb0 hT hbig
    unfold tx
    go_enter Tryd.func8, Tryd.ntmps8
    go_wp2_with fail
    refine bodyPost_ret (results_cell3 rfl _ _ w.heap.size _ _ _ _ rfl HR0.out Tryd.underlying25 rfl (by kernel_rfl)) rfl ?_
    exact ⟨⟨_, _, rfl, CfIs.no _⟩, HB0.out⟩
  · have hT : parseC l = goC noCf (sp 10 l) 1 := by unfold parseC; rw [if_neg hbig]
    rw [hT]
    have hl2 : l.length ≤ 16384 := by omega
    have hI : ¬ (16384 : Int) < (l.length : Int) := by omega
    have hb1 := HB0.out.alloc HB0.out.size (.cells zFl.toArray 25)
    have hsz : (w.alloc (.cells zFl.toArray 25)).heap.size = w.heap.size + 1 := by simp
    have HF1 : Hid (((w.alloc (.cells zFl.toArray 25)).alloc (.cells zFl.toArray 25)).heap[w.heap.size + 1]? = some (.cells zFl.toArray 25 (0, 0))) := by
      have := block_new (w.alloc (.cells zFl.toArray 25)) (.cells zFl.toArray 25)
      rwa [hsz] at this
    have HR1 := hide (block_stay HR0.out (below_box (w.alloc (.cells zFl.toArray 25)) (.cells zFl.toArray 25)))
    have HB1 := hide hb1
    have hsz2 : ((w.alloc (.cells zFl.toArray 25)).alloc (.cells zFl.toArray 25)).heap.size = w.heap.size + 2 := by simp
    have hSp := lib_Split (tx l) 10 ((w.alloc (.cells zFl.toArray 25)).alloc (.cells zFl.toArray 25)) (hm.below hb1) (by rw [tx_size]; omega)
    rw [data_tx] at hSp
    have HXN : Hid (0 < (sp 10 l).length ∧ (sp 10 l).length ≤ 16385) := ⟨List.length_pos_iff.2 (sp_ne 10 l), by have := sp_len 10 l; omega⟩
    have HXL : Hid (∀ x ∈ sp 10 l, x.length ≤ 100000) := fun x hx => by have := sp_le 10 l x hx; omega
    have HMX := hide hm
    have HS2 := hide hsz2
    generalize sp 10 l = xs at *
    obtain ⟨T, hTT⟩ : ∃ T, goC noCf xs 1 = T := ⟨_, rfl⟩
    rw [hTT]
    have HT := hide hTT
    clear hb0 hT hbig hl2 hb1 hsz hsz2 hTT hm
    unfold tx at hSp ⊢
    unfold zFl at *
    go_enter Tryd.func8, Tryd.ntmps8
    go_wp2_with fail
    refine hSp.mono ?_
    rintro e w2 ⟨v, rfl, hown, hb2⟩
    rw [HS2.out] at hown hb2
    obtain ⟨L, c, hv, hc1, hc2⟩ := row_pos hown (by rw [List.length_map]; exact HXN.out.1)
    rw [List.length_map] at hv hc1
    subst hv
    have HP0 : Hid (PaAt w w2 L xs.length c xs 0 noCf (.slice none 0 0) (.slice none 0 0) []) := by
      refine ⟨HB1.out.trans (hb2.mono (by omega)), ?_, ⟨?_, by omega, OwnP.nil _ _ _, OwnX.nil _ _ _, by simp, by simp, by simp, ⟨by simp [noCf], by simp, by simp⟩, by simp⟩, rfl, row_low hown (by omega), ?_⟩
      · rw [hb2.block _ (by omega)]; exact HR1.out
      · rw [hb2.block _ (by omega)]; exact HF1.out
      · rintro (e | e | e | ⟨s, hs, _⟩)
        · have := (World.ownsRow.lt hown L rfl).1; omega
        · cases e
        · cases e
        · cases hs
    have hcI : c ≤ 9223372036854775807 := by unfold maxLen at hc2; omega
    have hnI : xs.length ≤ 16385 := HXN.out.2
    clear hSp hown hb2 HF1 HR1 HB1 HR0 HB0 HS2 hc2
    go_wp2
    go_loopw [6, 7, 8, 16] (fun _ _ _ vi wr => ∃ (i : Nat) (F : Cf) (dv sv : Value) (ss : List Sx), i ≤ xs.length ∧ vi = .int .i64 i ∧ Hid (PaAt w wr L xs.length c xs i F dv sv ss) ∧ Hid (goC F (xs.drop i) (i + 1) = T)) (fun _ _ _ vi _ => xs.length - (intOf vi).toNat)
    case atStart => exact ⟨0, noCf, _, _, [], by omega, rfl, HP0.out, HT.out⟩
    case round =>
      obtain ⟨i, F, dv, sv, ss, hi, rfl, HP, HG⟩ := hrel
      by_cases hlt : i < xs.length
      · have hltI : (i : Int) < (xs.length : Int) := by omega
        have hiw : IntKind.i64.wrap ((i : Int) + 1) = (i : Int) + 1 := by rw [wrap_i64_is]; omega
        obtain ⟨g, he, _, _, _, _, hcell⟩ := HP.out.l.cells (by rw [List.length_map]; omega)
        injection he with he; injection he with he
        subst he
        have d0 := hcell i (tx xs[i]) (by rw [List.getElem?_map, List.getElem?_eq_getElem hlt]; rfl)
        have hTk := conf_take wr (HMX.out.below HP.out.b) (w.heap.size + 1) (w.heap.size + 1) i dv sv F ss HP.out.f HP.out.s (by omega) HP.out.lt.2 xs[i] (HXL.out _ (List.getElem_mem hlt)) ((i : Int) + 1)
        have hG := HG.out
        rw [List.drop_eq_getElem_cons hlt, goC] at hG
        unfold tx at d0 hTk
        clear hcell HG
        by_cases he0 : (takeC F xs[i] ((i : Int) + 1)).2 = 0
        · rw [if_pos he0] at hG
          rw [he0] at hTk
          have HG2 := hide hG
          generalize (takeC F xs[i] ((i : Int) + 1)).1 = F' at *
          clear hG he0
          go_wp2_with (go_at_call 23; refine hTk.mono ?_; rintro e w3 ⟨rfl, hto⟩; have HTO := hide hto; clear hto)
          go_roundw
          case rel =>
            obtain ⟨dv', sv', ss', hP'⟩ := HP.out.next HTO.out
            exact ⟨i + 1, F', dv', sv', ss', by omega, by go_num, hP', by have := HG2.out; rw [Hid]; exact_mod_cast this⟩
          case measure => simp [intOf]; omega
        · rw [if_neg he0] at hG
          have HG2 := hide hG
          generalize (takeC F xs[i] ((i : Int) + 1)).2 = E at *
          generalize (takeC F xs[i] ((i : Int) + 1)).1 = F' at *
          have hne : (E != 0) = true := by simpa using he0
          have hne2 : (E == 0) = false := by simpa using he0
          clear hG
          go_wp2_with (first
            | (go_at_call 23; refine hTk.mono ?_; rintro e w3 ⟨rfl, hto⟩; have HTO := hide hto; clear hto)
            | ((with_reducible refine at_storeQ (T := 25) ?_); refine store_part rfl _ _ _ rfl w.heap.size 0 25 _ zFl zFl.toArray (HP.out.next HTO.out).choose_spec.choose_spec.choose_spec.r rfl rfl fl_size fl_one0 (Nat.le_refl 2) (by rfl) ?_; intro w4 hg4 hb4; have HG4 := hide hg4; have HB4 := hide (below_own (HP.out.next HTO.out).choose_spec.choose_spec.choose_spec.b hb4 (Nat.le_refl _) (Nat.le_refl _)); clear hg4 hb4))
          refine bodyPost_ret (results_cell3 rfl _ _ w.heap.size _ _ _ _ rfl HG4.out Tryd.underlying25 rfl (by kernel_rfl)) rfl ?_
          rw [← HG2.out]
          exact ⟨⟨_, _, rfl, CfIs.no _⟩, HB4.out⟩
      · have hltI : ¬ (i : Int) < (xs.length : Int) := by omega
        have hie : i = xs.length := by omega
        subst hie
        have hG := HG.out
        rw [List.drop_length, goC] at hG
        have HG2 := hide hG
        obtain ⟨da, dc, hdv⟩ := row_form HP.out.f.dirs
        obtain ⟨sa, sc, hsv⟩ := row_form HP.out.f.secs
        subst hdv hsv
        have HLD := hide (load_fl HP.out.f.head rfl)
        clear hG HG
        go_wp2_with (first
          | ((with_reducible refine at_loadQ (T := 25) ?_); refine load_row rfl _ _ rfl (w.heap.size + 1) _ HLD.out rfl ?_)
          | ((with_reducible refine at_storeQ (T := 25) ?_); refine store_part rfl _ _ _ rfl w.heap.size 0 25 _ [.slice da F.dirs.length dc, .slice sa ss.length sc] [.slice da F.dirs.length dc, .slice sa ss.length sc].toArray HP.out.r rfl rfl fl_size (fl_one _ _ ⟨_, _, _, rfl⟩ ⟨_, _, _, rfl⟩) (Nat.le_refl 2) (by rfl) ?_; intro w4 hg4 hb4; have HG4 := hide hg4; have HB4 := hide (below_own HP.out.b hb4 (Nat.le_refl _) (Nat.le_refl _)); have HF4 := hide (HP.out.f.keep (w' := w4) (fun k hk => hb4.block k (HP.out.f.foot hk).2 (fun e => by injection e with e; have := (HP.out.f.foot hk).1; omega))); clear hg4 hb4))
        refine bodyPost_ret (results_cell3 rfl _ _ w.heap.size _ _ _ _ rfl HG4.out Tryd.underlying25 rfl (by kernel_rfl)) rfl ?_
        rw [← HG2.out]
        exact ⟨⟨_, _, rfl, HF4.out.argD (by have := HXN.out.2; omega), ss, HP.out.s, HF4.out.argX (by have := HXN.out.2; omega)⟩, HB4.out⟩
end Go.Proofs.YtmcefflgbliehaaDoor
