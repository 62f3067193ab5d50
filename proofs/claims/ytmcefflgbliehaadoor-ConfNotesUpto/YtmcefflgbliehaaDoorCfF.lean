
/-
  Layer 18 (conf): begin and folder.
-/
import Derived.Test.YtmcefflgbliehaaDoorCfD
import Derived.Test.YtmcefflgbliehaaDoorCfE
set_option linter.unusedVariables false
namespace Go.Proofs.YtmcefflgbliehaaDoor
open Go.RowKit Go.PlainAid Go.Sort
def begB (ss : List Sx) (l : List UInt8) : Bool := Lib.hasSuffix l [93] && nameC (Lib.trimSuffix l [93]) && !(ss.any (isSx (Lib.trimSuffix l [93])))
def begS (ss : List Sx) (l : List UInt8) : List Sx := if begB ss l then ss ++ [⟨Lib.trimSuffix l [93], .slice none 0 0, []⟩] else ss
theorem begin_no (ss : List Sx) (l : List UInt8) (h : begB ss l = false) : begS ss l = ss := by unfold begS; rw [h]; rfl
theorem begin_yes (ss : List Sx) (l : List UInt8) (h : begB ss l = true) : begS ss l = ss ++ [⟨Lib.trimSuffix l [93], .slice none 0 0, []⟩] := by unfold begS; rw [h]; rfl
set_option maxHeartbeats 4000000 in
set_option maxRecDepth 20000 in
theorem conf_begin (W : World) (B f N : Nat) (dv sv : Value) (ds : List Pr) (ss : List Sx) (h : FileAt W B f dv sv ds ss N) (hN : N ≤ 50000) (hB : B ≤ W.heap.size) (l : List UInt8) (hl : l.length ≤ 100000) :
    Calls Tryd.prog 43 #[.pointer (some ⟨f, 0, none⟩), .string (tx l)] W fun e w' => e = .returned (.int .i64 (if begB ss l then 0 else 181)) ∧ StepF W w' B f dv sv ss ds (begS ss l) (N + 1) := by
  have hS := fun w => lib_CutSuffix l [93] w (by omega)
  have hsl := suff_len l [93]
  have hN1 := fun w => tn_isName (Lib.trimSuffix l [93]) w (by omega)
  have hX := conf_section W sv ss (h.argX (by omega)) (Lib.trimSuffix l [93])
  have H := hide h
  have c1 := h.c1
  obtain ⟨sa, sc, hsv⟩ := row_form h.secs
  subst hsv
  have hfs := fstI_is (isSx (Lib.trimSuffix l [93])) ss 0
  have hbb : begB ss l = (Lib.hasSuffix l [93] && nameC (Lib.trimSuffix l [93]) && !(ss.any (isSx (Lib.trimSuffix l [93])))) := rfl
  by_cases hb : begB ss l = false
  · rw [begin_no ss l hb, hb]
    rw [hb] at hbb
    have HI := hide (fun W1 hb => h.idle (W1 := W1) hb)
    cases h1 : Lib.hasSuffix l [93] with
    | false =>
      rw [h1] at hS
      generalize Lib.trimSuffix l [93] = nm at *
      unfold tx at *
      clear hX hN1 hbb hfs hb h1 h c1
      go_enter Tryd.func43, Tryd.ntmps43
      go_wp2_with (go_at_call 74; refine (hS _).mono ?_; rintro e w1 ⟨rfl, rfl⟩)
      go_ret
      exact ⟨rfl, HI.out _ (Below.refl _ _)⟩
    | true =>
      rw [h1] at hS hbb
      cases h2 : nameC (Lib.trimSuffix l [93]) with
      | false =>
        rw [h2] at hN1
        generalize Lib.trimSuffix l [93] = nm at *
        unfold tx at *
        clear hX hbb hfs hb h1 h2 h c1
        go_enter Tryd.func43, Tryd.ntmps43
        go_wp2_with (first
          | (go_at_call 74; refine (hS _).mono ?_; rintro e w1 ⟨rfl, rfl⟩)
          | (go_at_call 75; refine (hN1 _).mono ?_; rintro e w1 ⟨rfl, rfl⟩))
        go_ret
        exact ⟨rfl, HI.out _ (Below.refl _ _)⟩
      | true =>
        rw [h2] at hN1 hbb
        rcases hfs with ⟨e1, e2, e3⟩ | ⟨k, hk, e1, _⟩
        · rw [e3] at hbb; cases hbb
        · rw [e1, Nat.zero_add] at hX
          generalize Lib.trimSuffix l [93] = nm at *
          unfold tx at *
          clear hbb hb h1 h2 h e1
          have hk0 : (0 : Int) ≤ (k : Int) := by omega
          go_enter Tryd.func43, Tryd.ntmps43
          go_wp2_with (first
            | (go_at_call 74; refine (hS _).mono ?_; rintro e w1 ⟨rfl, rfl⟩)
            | (go_at_call 75; refine (hN1 _).mono ?_; rintro e w1 ⟨rfl, rfl⟩)
            | (go_at_call 52; refine hX.mono ?_; rintro e w1 ⟨rfl, hb1⟩))
          go_ret
          exact ⟨rfl, HI.out _ hb1⟩
  · have hb' : begB ss l = true := by simpa using hb
    rw [begin_yes ss l hb', hb']
    rw [hb'] at hbb
    have h1 : Lib.hasSuffix l [93] = true := by
      cases e : Lib.hasSuffix l [93]
      · rw [e] at hbb; cases hbb
      · rfl
    have h2 : nameC (Lib.trimSuffix l [93]) = true := by
      cases e : nameC (Lib.trimSuffix l [93])
      · rw [e, h1] at hbb; cases hbb
      · rfl
    have h3 : ss.any (isSx (Lib.trimSuffix l [93])) = false := by
      cases e : ss.any (isSx (Lib.trimSuffix l [93]))
      · rfl
      · rw [e, h1, h2] at hbb; cases hbb
    rcases hfs with ⟨e1, _⟩ | ⟨k, hk, _, _, e3, _⟩
    · rw [e1] at hX
      rw [h1] at hS
      rw [h2] at hN1
      generalize Lib.trimSuffix l [93] = nm at *
      unfold tx at *
      clear hbb hb h1 h2 h e1 h3
      have hssl : ss.length ≤ 50000 := Nat.le_trans H.out.sm.2.1 hN
      have HSL := hide hssl
      have HNB : Hid ((Value.slice sa ss.length sc).ownBlock ≠ some f) := fun e => (H.out.sT e).2.2.1 rfl
      clear hssl
      go_enter Tryd.func43, Tryd.ntmps43
      go_wp2_with (first
        | (go_at_call 74; refine (hS _).mono ?_; rintro e w1 ⟨rfl, rfl⟩)
        | (go_at_call 75; refine (hN1 _).mono ?_; rintro e w1 ⟨rfl, rfl⟩)
        | (go_at_call 52; refine hX.mono ?_; rintro e w1 ⟨rfl, hb1⟩; have H1 := hide (H.out.stay hb1); have d1 := H1.out.c1; have HB1 := hide hb1; have HNX := hide (new_x w1 ⟨nm, .slice none 0 0, []⟩ 38); unfold Sx.cells tx at HNX; clear hb1)
        | (refine append_x rfl (.tmp 32) (.tmp 35) rfl B _ _ ss (H1.out.stay (below_box w1 _)).secs nm rfl _ 1 rfl HNX.out (by have := HSL.out; omega) (by have := HB1.out.size; simp; omega) ?_; intro v' W3 r3 g3 n3; have HP := hide (H.out.putSec (HB1.out.trans ((below_box w1 _).mono HB1.out.size)) r3 n3 g3);
            have b3 := (g3.block f (Nat.lt_of_lt_of_le (block_lt H1.out.head) (below_box w1 _).size) (fun e => HNB.out e.symm)).trans (H1.out.stay (below_box w1 _)).head; have c3 := cells_of_block b3 1 _ rfl; have f3 := block_soft b3 1; obtain ⟨a3, cap3, hv3⟩ := row_form r3; rw [List.length_append, List.length_singleton] at hv3; subst hv3; clear r3 g3 n3 b3))
      go_ret
      exact ⟨rfl, HP.out⟩
    · rw [e3] at h3; cases h3
/-- Is a folder's line right? -/
def folB (t : Td) : Bool := Lib.hasPrefix t.name dirN && (Lib.trimPrefix t.name dirN != []) && !t.added && isCl t.value
def folD (ds : List Pr) (t : Td) (n : Int) : List Pr := if folB t then ds ++ [⟨Lib.trimPrefix t.name dirN, t.value, n⟩] else ds
theorem tn_IsClean (l : List UInt8) (w : World) (hm : Mx w) (hl : l.length ≤ 100000) : Calls Tryd.prog 76 #[.string (tx l)] w fun e w' => e = .returned (.bool (isCl l)) ∧ Below w.heap.size w w' := by
  have := path_IsClean (tx l) w hm (by rw [tx_size]; exact hl)
  rw [data_tx] at this
  exact this
set_option maxHeartbeats 4000000 in
set_option maxRecDepth 20000 in
theorem conf_folder (W : World) (hm : Mx W) (B f N : Nat) (dv sv : Value) (ds : List Pr) (ss : List Sx) (h : FileAt W B f dv sv ds ss N) (hN : N ≤ 50000) (hB : B ≤ W.heap.size) (t : Td) (ht : t.name.length ≤ 100000 ∧ t.value.length ≤ 100000) (n : Int) :
    Calls Tryd.prog 45 #[.pointer (some ⟨f, 0, none⟩), .agg t.cells.toArray, .int .i64 n] W fun e w' => e = .returned (.int .i64 (if folB t then 0 else 180)) ∧ StepF W w' B f dv sv ss (folD ds t n) ss (N + 1) := by
  have hb0 := below_box W (.cells t.cells.toArray 97)
  have hP := fun w => lib_CutPrefix t.name dirN w
  have hC := fun w hm => tn_IsClean t.value w hm ht.2
  have HX := hide (block_new W (.cells t.cells.toArray 97))
  have H0 := hide h
  have H := hide (h.stay hb0)
  have HB0 := hide hb0
  have HM := hide (hm.below hb0)
  obtain ⟨da, dc, hdv⟩ := row_form h.dirs
  subst hdv
  have hbb : folB t = (Lib.hasPrefix t.name dirN && (Lib.trimPrefix t.name dirN != []) && !t.added && isCl t.value) := rfl
  have HY0 := hide (cells_of_block HX.out 0 (.string (tx t.name)) rfl)
  have HY1 := hide (cells_of_block HX.out 1 (.string (tx t.value)) rfl)
  have HY2 := hide (cells_of_block HX.out 2 (.bool t.added) rfl)
  clear h hm hb0 ht
  unfold folD
  unfold Td.cells at *
  obtain ⟨nm, va, ad⟩ := t
  simp only [] at *
  generalize Lib.trimPrefix nm dirN = nm' at *
  generalize Lib.hasPrefix nm dirN = hp at *
  have HI := hide (fun W1 hb => H0.out.idle (W1 := W1) hb)
  by_cases hb : folB ⟨nm, va, ad⟩ = false
  · rw [hb] at hbb ⊢
    rw [if_neg (by simp), if_neg (by simp)]
    have hcs : hp = false ∨ (hp = true ∧ nm' = []) ∨ (hp = true ∧ nm' ≠ [] ∧ ad = true) ∨ (hp = true ∧ nm' ≠ [] ∧ ad = false ∧ isCl va = false) := by
      cases hp with
      | false => exact .inl rfl
      | true =>
        by_cases e : nm' = []
        · exact .inr (.inl ⟨rfl, e⟩)
        · cases ad with
          | true => exact .inr (.inr (.inl ⟨rfl, e, rfl⟩))
          | false =>
            cases hc : isCl va with
            | false => exact .inr (.inr (.inr ⟨rfl, e, rfl, rfl⟩))
            | true =>
              rw [hc] at hbb
              have : (nm' != []) = true := by simpa using e
              rw [this] at hbb
              cases hbb
    clear hbb hb
    unfold dirN tx at *
    rcases hcs with rfl | ⟨rfl, rfl⟩ | ⟨rfl, hne, rfl⟩ | ⟨rfl, hne, rfl, hcl⟩
    · go_enter Tryd.func45, Tryd.ntmps45
      go_wp2_with fail
      generalize W.alloc (.cells #[.string ⟨nm.toArray⟩, .string ⟨va.toArray⟩, .bool ad] 97) = W0 at *
      refine (hP W0).mono ?_
      rintro e w1 ⟨rfl, rfl⟩
      have y0 := HY0.out
      have y1 := HY1.out
      have y2 := HY2.out
      go_wp2
      go_ret
      exact ⟨rfl, HI.out _ HB0.out⟩
    · go_enter Tryd.func45, Tryd.ntmps45
      go_wp2_with fail
      generalize W.alloc (.cells #[.string ⟨nm.toArray⟩, .string ⟨va.toArray⟩, .bool ad] 97) = W0 at *
      refine (hP W0).mono ?_
      rintro e w1 ⟨rfl, rfl⟩
      have y0 := HY0.out
      have y1 := HY1.out
      have y2 := HY2.out
      go_wp2
      go_ret
      exact ⟨rfl, HI.out _ HB0.out⟩
    · go_enter Tryd.func45, Tryd.ntmps45
      go_wp2_with fail
      generalize W.alloc (.cells #[.string ⟨nm.toArray⟩, .string ⟨va.toArray⟩, .bool true] 97) = W0 at *
      refine (hP W0).mono ?_
      rintro e w1 ⟨rfl, rfl⟩
      have y0 := HY0.out
      have y1 := HY1.out
      have y2 := HY2.out
      go_wp2
      go_ret
      exact ⟨rfl, HI.out _ HB0.out⟩
    · go_enter Tryd.func45, Tryd.ntmps45
      go_wp2_with fail
      generalize W.alloc (.cells #[.string ⟨nm.toArray⟩, .string ⟨va.toArray⟩, .bool false] 97) = W0 at *
      refine (hP W0).mono ?_
      rintro e w1 ⟨rfl, rfl⟩
      have y0 := HY0.out
      have y1 := HY1.out
      have y2 := HY2.out
      have hC0 := hC W0 HM.out
      rw [hcl] at hC0
      go_wp2_with (go_at_call 76; refine hC0.mono ?_; rintro e w2 ⟨rfl, hb2⟩)
      go_ret
      exact ⟨rfl, HI.out _ (HB0.out.trans (hb2.mono HB0.out.size))⟩
  · have hb' : folB ⟨nm, va, ad⟩ = true := by simpa using hb
    rw [hb'] at hbb ⊢
    rw [if_pos rfl, if_pos rfl]
    have hcs : hp = true ∧ nm' ≠ [] ∧ ad = false ∧ isCl va = true := by
      have := hbb.symm
      simpa [and_assoc] using this
    obtain ⟨rfl, hne, rfl, hcl⟩ := hcs
    have hne2 : nm'.isEmpty = false := by
      cases e : nm' with
      | nil => exact absurd e hne
      | cons a b => rfl
    clear hbb hb hb'
    have hdl : ds.length ≤ 50000 := Nat.le_trans H.out.sm.1 hN
    have HDL := hide hdl
    have HNB : Hid ((Value.slice da ds.length dc).ownBlock ≠ some f) := fun e => (H0.out.dT e).2.2.1 rfl
    clear hdl
    unfold dirN tx at *
    go_enter Tryd.func45, Tryd.ntmps45
    go_wp2_with fail
    generalize W.alloc (.cells #[.string ⟨nm.toArray⟩, .string ⟨va.toArray⟩, .bool false] 97) = W0 at *
    refine (hP W0).mono ?_
    rintro e w1 ⟨rfl, rfl⟩
    have y0 := HY0.out
    have y1 := HY1.out
    have y2 := HY2.out
    have hC0 := hC W0 HM.out
    rw [hcl] at hC0
    go_wp2_with fail
    refine hC0.mono ?_
    rintro e w2 ⟨rfl, hb2⟩
    have hlt : W.heap.size < W0.heap.size := World.block_lt_of_cell? _ _ HY0.out
    have z1 := (hb2.cell (p := ⟨W.heap.size, 1, none⟩) hlt).trans HY1.out
    have H2 := hide (H.out.stay hb2)
    have HB2 := hide (HB0.out.trans (hb2.mono HB0.out.size))
    have HZ1 := hide z1
    clear hb2 hC0 y0 y1 y2 hC hP HY0 HY1 HY2 HX z1
    go_wp2_with fail
    have z1 : w2.drew.cell? ⟨W.heap.size, 1, none⟩ = some (.string ⟨va.toArray⟩) := HZ1.out
    have z1' : w2.cell? ⟨W.heap.size, 1, none⟩ = some (.string ⟨va.toArray⟩) := HZ1.out
    have a0 : w2.drew.cell? ⟨f, 0, none⟩ = some (.slice da ds.length dc) := H2.out.c0
    have a0' : w2.cell? ⟨f, 0, none⟩ = some (.slice da ds.length dc) := H2.out.c0
    have HDA : Hid (∀ o, Below w2.heap.size w2 (w2.drew.alloc o)) := fun o => (Below.refl _ w2).drew.alloc (Nat.le_refl _) o
    have b0 : ∀ o, (w2.drew.alloc o).cell? ⟨f, 0, none⟩ = some (.slice da ds.length dc) := fun o => (H2.out.stay (HDA.out o)).c0
    have b0' : ∀ o, (w2.alloc o).cell? ⟨f, 0, none⟩ = some (.slice da ds.length dc) := fun o => (H2.out.stay (below_box w2 o)).c0
    have HOA : Hid (∀ o, OwnP 60 (w2.drew.alloc o) B (.slice da ds.length dc) ds) := fun o => (H2.out.stay (HDA.out o)).dirs
    have HBK : Hid (∀ o, (w2.drew.alloc o).heap[f]? = some (.cells #[.slice da ds.length dc, sv] 25 (0, 0))) := fun o => (H2.out.stay (HDA.out o)).head
    have HBS : Hid (∀ o, f < (w2.drew.alloc o).heap.size) := fun o => block_lt (HBK.out o)
    have HBL : Hid (∀ o, B ≤ (w2.drew.alloc o).heap.size) := fun o => Nat.le_trans hB (Nat.le_trans HB2.out.size (HDA.out o).size)
    have HNX := hide (new_p w2.drew ⟨nm', va, n⟩ 60)
    unfold Pr.cells tx at HNX
    go_region_law (refine step_append_p rfl (.tmp 35) (.tmp 41) rfl B _ ds ⟨nm', va, n⟩ (HOA.out _) rfl _ 1 rfl HNX.out (by have := HDL.out; omega) (HBL.out _) ?_; intro v6 W6 r6 g6 n6; have HR6 := hide r6; have HG6 := hide g6; have HN6 := hide n6; have b6 := (g6.block f (HBS.out _) (fun e => HNB.out e.symm)).trans (HBK.out _); have c6 := cells_of_block b6 0 _ rfl; have f6 := block_soft b6 0; obtain ⟨fa6, fc6, hv6⟩ := row_form r6; rw [List.length_append, List.length_singleton] at hv6; subst hv6; clear r6 g6 n6 b6)
    all_goals
      have HP := hide (H0.out.putDir (HB2.out.trans ((HDA.out _).mono HB2.out.size)) HR6.out HN6.out HG6.out)
      clear a0 a0' b0 b0' z1 z1' HDA HOA HBK HBS HNB HNX c6 f6 HR6 HG6 HN6 HBL
      go_wp2
      go_ret
      exact ⟨rfl, HP.out⟩
end Go.Proofs.YtmcefflgbliehaaDoor
