
/-
  Layer 14 (aps), the program: takeGroup keeps its contract (the relocations of the next group, or that there is none such), over takeRel's.
-/
import Derived.Test.YtiicmakeoidiaaaApB
import Derived.Deep.RegionHeldLaw
set_option linter.unusedVariables false
namespace Go.Proofs.Ytiicmakeoidiaaa
open Go.RowKit Go.PlainAid
/-- What takeRel keeps. -/
def RelSpec : Prop := ∀ (w : World) (B T R : Nat) (v : Value) (s : Ts) (rela fine : Bool), Td w B T R v s rela fine → ∀ (m f st inf : Int), 0 ≤ f → f ≤ 15 → s.out.length ≤ 1000 →
    Calls Try.prog 39 #[.pointer (some ⟨T, 0, none⟩), .agg #[.int .i64 m, .int .i64 f, .int .i64 st, .int .i64 inf]] w fun e w' => e = .returned (.tuple #[]) ∧ ∃ v', Td w' B T R v' (relT rela f st inf s) rela fine ∧ Fp w w' R T v v'
theorem below1 (W : World) (o : Obj) : Below W.heap.size W (W.alloc o) := (Below.refl _ W).alloc (Nat.le_refl _) o
theorem below1d (W : World) (o : Obj) : Below W.heap.size W (W.alloc o).drew := (below1 W o).drew
def zeroG : Obj := .cells #[.int .i64 0, .int .i64 0, .int .i64 0, .int .i64 0] 86
theorem Tq.made {w W : World} {B T R : Nat} {v : Value} {s : Ts} {rela fine : Bool} (h : Td W B T R v s rela fine) (hf : Fp w W R T v v) (hT : T < w.heap.size) (m f st inf : Int) :
    Tq w (W.alloc (.cells #[.int .i64 m, .int .i64 f, .int .i64 st, .int .i64 inf] 86)) B T R v v s rela fine W.heap.size m f st inf :=
  ⟨h.below (below1 _ _), heap_alloc_new _ _, hf.trans (Fp.of_below (below1 _ _) _ _ _), hf.size, hT, fun e => by have := (h.far e).2; omega⟩
theorem Tq.filled {w W : World} {B T R : Nat} {v : Value} {s : Ts} {rela fine : Bool} (h : Td W B T R v s rela fine) (hf : Fp w W R T v v) (hT : T < w.heap.size) {G : Nat} (hG : W.heap[G]? = some zeroG) (hge : w.heap.size ≤ G) (hfar : v.ownBlock ≠ some G) (m f st inf : Int) :
    Tq w ((((W.setCell ⟨G, 0, none⟩ (.int .i64 m)).setCell ⟨G, 1, none⟩ (.int .i64 f)).setCell ⟨G, 2, none⟩ (.int .i64 st)).setCell ⟨G, 3, none⟩ (.int .i64 inf)) B T R v v s rela fine G m f st inf := by
  have h0 : Tq w W B T R v v s rela fine G 0 0 0 0 := ⟨h, hG, hf, hge, hT, hfar⟩
  exact (((h0.setG 0 (.int .i64 m) rfl).setG 1 (.int .i64 f) rfl).setG 2 (.int .i64 st) rfl).setG 3 (.int .i64 inf) rfl
theorem G4 {W : World} {G : Nat} (h : W.heap[G]? = some zeroG) : (W.cell? ⟨G, 0, none⟩ = some (.int .i64 0) ∧ W.cell? ⟨G, 1, none⟩ = some (.int .i64 0) ∧ W.cell? ⟨G, 2, none⟩ = some (.int .i64 0) ∧ W.cell? ⟨G, 3, none⟩ = some (.int .i64 0)) ∧ (W.frozen? ⟨G, 0, none⟩ = false ∧ W.frozen? ⟨G, 1, none⟩ = false ∧ W.frozen? ⟨G, 2, none⟩ = false ∧ W.frozen? ⟨G, 3, none⟩ = false) :=
  ⟨⟨cells_of_block h 0 _ rfl, cells_of_block h 1 _ rfl, cells_of_block h 2 _ rfl, cells_of_block h 3 _ rfl⟩, ⟨frozen_bk h 0, frozen_bk h 1, frozen_bk h 2, frozen_bk h 3⟩⟩
theorem g_stay {W W' : World} {R T G : Nat} {v : Value} (h : W.heap[G]? = some zeroG) (hf : Fp W W' R T v v) (hR : R < G) (hT : T < G) (hv : v.ownBlock ≠ some G) : W'.heap[G]? = some zeroG := by
  rw [hf.block G (bk_lt h) (by omega) (by omega) hv]; exact h
theorem c0_set {W : World} {T G : Nat} {x a b c d : Value} (h : W.cell? ⟨T, 0, none⟩ = some x) (hne : T ≠ G) : ((((W.setCell ⟨G, 0, none⟩ a).setCell ⟨G, 1, none⟩ b).setCell ⟨G, 2, none⟩ c).setCell ⟨G, 3, none⟩ d).cell? ⟨T, 0, none⟩ = some x := by
  rw [World.cell?_setCell_other _ _ _ _ (by first | (simp; done) | (simp; omega)), World.cell?_setCell_other _ _ _ _ (by first | (simp; done) | (simp; omega)), World.cell?_setCell_other _ _ _ _ (by first | (simp; done) | (simp; omega)), World.cell?_setCell_other _ _ _ _ (by first | (simp; done) | (simp; omega))]; exact h
/-- What takeGroup answers. -/
def GrpIs (B T R : Nat) (rela fine : Bool) (left : Int) (w : World) (v : Value) (s : Ts) (e : Ending) (w' : World) : Prop :=
  if grpNoB rela left s.hd s.tl.hd = true then e = .returned (.bool false) ∧ Below B w w' else e = .returned (.bool true) ∧ ∃ v', Td w' B T R v' (grpIn rela s.tl.hd s.hd.toNat s.tl.tl) rela fine ∧ Fp w w' R T v v'
set_option maxHeartbeats 4000000 in
set_option maxRecDepth 20000 in
theorem ap_takeGroup (HTR : RelSpec) (w : World) (B T R : Nat) (v : Value) (s : Ts) (rela fine : Bool) (h : Td w B T R v s rela fine) (left : Int) (hl : s.out.length ≤ 512) (hleft : left + (s.out.length : Int) ≤ 512) :
    Calls Try.prog 31 #[.pointer (some ⟨T, 0, none⟩), .int .i64 left] w fun e w' => GrpIs B T R rela fine left w v s e w' := by
  have HTD := hide h
  have HS := hide (fun W s (hW : Td W B T R v s rela fine) => td_S W B T R v s rela fine hW)
  have hD := h.below ((Below.refl _ _).drew)
  have t0 := cells_of_block hD.block 0 (.pointer (some ⟨R, 0, none⟩)) rfl
  have HD := hide hD
  clear hD h
  go_enter Try.func31, Try.ntmps31
  go_upto_region 1 with fail
  go_cut [5] from 6 (fun v5 wx => ∃ G, v5 = .pointer (some ⟨G, 0, none⟩) ∧ Hid (Tq w wx B T R v v s.tl.tl rela fine G s.hd s.tl.hd 0 0))
  case first =>
    have HTS : Hid (T < w.heap.size) := HTD.out.size
    have HAL : Hid (Td (w.alloc zeroG).drew B T R v s rela fine) := HTD.out.below (below1d w zeroG)
    have a0 := cells_of_block HAL.out.block 0 (.pointer (some ⟨R, 0, none⟩)) rfl
    have HAG : Hid ((w.alloc zeroG).drew.heap[w.heap.size]? = some zeroG) := heap_alloc_new w zeroG
    have HFD : Hid (Fp w w.drew R T v v) := Fp.of_below ((Below.refl _ _).drew) _ _ _
    have HFA : Hid (Fp w (w.alloc zeroG).drew R T v v) := Fp.of_below (below1d w zeroG) _ _ _
    have HVF : Hid (v.ownBlock ≠ some w.heap.size) := fun e => by have := (HTD.out.far e).2; omega
    have HRT : Hid (R < T) := HTD.out.lt
    unfold zeroG at a0
    go_wp2_with fail
    go_region_held_law (fun w' => w'.cell? ⟨T, 0, none⟩ = some (.pointer (some ⟨R, 0, none⟩)))
      (first | with_reducible assumption | with_reducible exact x0a _ | with_reducible exact y0a _ | with_reducible exact y0s _ _ _ _)
      (first
        | (go_at_call 30; refine (HS.out _ s.tl (by first | exact HX1.out | exact HX1.out.below (below1 _ _))).mono ?_; rintro e X2 ⟨rfl, hT2, hF2⟩; have HX2 := hide hT2; have HG2 := hide hF2; have y0 := cells_of_block hT2.block 0 (.pointer (some ⟨R, 0, none⟩)) rfl; have y0a := fun o => cells_of_block (hT2.below (below1 X2 o)).block 0 (.pointer (some ⟨R, 0, none⟩)) rfl;
            (first
              | (have HZ2 := hide (g_stay HZ1.out hF2 (by have := HTS.out; have := HRT.out; omega) HTS.out HVF.out); obtain ⟨⟨p0, p1, p2, p3⟩, ⟨q0, q1, q2, q3⟩⟩ := G4 HZ2.out; have y0s := fun a b c d => c0_set (a := a) (b := b) (c := c) (d := d) y0 (Nat.ne_of_lt HTS.out))
              | (have HZ2 : Hid (X2.heap[X1.heap.size]? = some zeroG) := g_stay (heap_alloc_new X1 zeroG) hF2 (by have := HX1.out.size; have := HRT.out; omega) HX1.out.size (fun e => by have := (HX1.out.far e).2; omega); obtain ⟨⟨p0, p1, p2, p3⟩, ⟨q0, q1, q2, q3⟩⟩ := G4 HZ2.out; have y0s := fun a b c d => c0_set (a := a) (b := b) (c := c) (d := d) y0 (Nat.ne_of_lt HX1.out.size))
              | skip);
            clear hT2 hF2)
        | (go_at_call 30; refine (HS.out _ s (by first | exact HD.out | exact HAL.out)).mono ?_; rintro e X1 ⟨rfl, hT1, hF1⟩; have HX1 := hide hT1; have HG1 := hide (by first | exact HFD.out.trans hF1 | exact HFA.out.trans hF1); have x0 := cells_of_block hT1.block 0 (.pointer (some ⟨R, 0, none⟩)) rfl; have x0a := fun o => cells_of_block (hT1.below (below1 X1 o)).block 0 (.pointer (some ⟨R, 0, none⟩)) rfl;
            (first
              | (have HZ1 := hide (g_stay HAG.out hF1 (by have := HTS.out; have := HRT.out; omega) HTS.out HVF.out))
              | skip);
            clear hT1 hF1))
    · go_wp2_with fail
      go_meet
      exact ⟨_, rfl, Tq.made HX2.out (HG1.out.trans HG2.out) HTS.out _ _ _ _⟩
    · go_wp2_with fail
      go_meet
      exact ⟨_, rfl, Tq.filled HX2.out (HG1.out.trans ((Fp.of_below (below1 _ _) _ _ _).trans HG2.out)) HTS.out HZ2.out HG1.out.size (fun e => by have := (HX1.out.far e).2; omega) _ _ _ _⟩
    · go_wp2_with fail
      go_meet
      exact ⟨_, rfl, Tq.filled HX2.out (HG1.out.trans HG2.out) HTS.out HZ2.out (Nat.le_refl _) HVF.out _ _ _ _⟩
  case rest =>
    obtain ⟨G, rfl, HQ1⟩ := hcut
    clear HS t0 HD
    have HS := hide (fun W s (hW : Td W B T R v s rela fine) => td_S W B T R v s rela fine hW)
    obtain ⟨m, hm⟩ : ∃ x, s.hd = x := ⟨_, rfl⟩
    obtain ⟨f, hf⟩ : ∃ x, s.tl.hd = x := ⟨_, rfl⟩
    obtain ⟨s2, hs2⟩ : ∃ x, s.tl.tl = x := ⟨_, rfl⟩
    have HO2 : Hid (left + (s2.out.length : Int) ≤ 512) := by rw [Hid, ← hs2]; exact hleft
    rw [hm, hf, hs2] at HQ1
    have HNO : Hid (∀ w', grpNo rela left m f → Below B w w' → GrpIs B T R rela fine left w v s (.returned (.bool false)) w') := fun w' hn hb => by
      unfold GrpIs; rw [hm, hf, if_pos ((grpNoB_iff _ _ _ _).2 hn)]; exact ⟨rfl, hb⟩
    have HYES : Hid (∀ w' v', ¬ grpNo rela left m f → Td w' B T R v' (grpIn rela f m.toNat s2) rela fine → Fp w w' R T v v' → GrpIs B T R rela fine left w v s (.returned (.bool true)) w') := fun w' v' hn ht hfp => by
      unfold GrpIs; rw [hm, hf, hs2, if_neg (fun e => hn ((grpNoB_iff _ _ _ _).1 e))]; exact ⟨rfl, v', ht, hfp⟩
    have HLO : Hid (∀ w', Fp w w' R T v v → Below B w w') := fun w' hfp => Fp.low HTD.out hfp
    clear hm hf hs2 hl hleft HTD
    have HNT : Hid (∀ b, grpNo rela left m f → b = true → Value.bool b = .bool (grpNoB rela left m f)) := fun b hn e => by rw [e, (grpNoB_iff _ _ _ _).2 hn]
    have HNF : Hid (∀ b, ¬ grpNo rela left m f → b = false → Value.bool b = .bool (grpNoB rela left m f)) := fun b hn e => by
      have : grpNoB rela left m f = false := by
        cases hh : grpNoB rela left m f with
        | false => rfl
        | true => exact absurd ((grpNoB_iff _ _ _ _).1 hh) hn
      rw [e, this]
    go_upto_region 2 with fail
    go_cut [46] from 6 (fun v46 wx => v46 = .bool (grpNoB rela left m f) ∧ Hid (Tq w wx B T R v v s2 rela fine G m f 0 0))
    case first =>
      obtain ⟨t0, t1, t2, t3, t4, g0, g1, g2, g3, f2, f3, f4, k2, k3⟩ := HQ1.out.cells
      by_cases c1 : m < 1
      · have d1 : decide (m < 1) = true := decide_eq_true c1
        have HF := hide (HNT.out true (.inl c1) rfl)
        go_wp2
        go_meet
        exact ⟨HF.out, HQ1⟩
      have d1 : decide (m < 1) = false := decide_eq_false c1
      by_cases c2 : left < m
      · have d2 : decide (left < m) = true := decide_eq_true c2
        have HF := hide (HNT.out true (.inr (.inl c2)) rfl)
        clear c1
        go_wp2
        go_meet
        exact ⟨HF.out, HQ1⟩
      have d2 : decide (left < m) = false := decide_eq_false c2
      by_cases c3 : f < 0
      · have d3 : decide (f < 0) = true := decide_eq_true c3
        have HF := hide (HNT.out true (.inr (.inr (.inl c3))) rfl)
        clear c1 c2
        go_wp2
        go_meet
        exact ⟨HF.out, HQ1⟩
      have d3 : decide (f < 0) = false := decide_eq_false c3
      by_cases c4 : 15 < f
      · have d4 : decide (15 < f) = true := decide_eq_true c4
        have HF := hide (HNT.out true (.inr (.inr (.inr (.inl c4)))) rfl)
        clear c1 c2 c3
        go_wp2
        go_meet
        exact ⟨HF.out, HQ1⟩
      have d4 : decide (15 < f) = false := decide_eq_false c4
      have HH := hide (fun W a b c => ap_has W a f b c 8 (by omega) (by omega) (by simp))
      have HCC : Hid (¬ (fb f 8 = true ∧ rela = false) → ¬ grpNo rela left m f) := fun hn e => by
        rcases e with e | e | e | e | e
        · exact c1 e
        · exact c2 e
        · exact c3 e
        · exact c4 e
        · exact hn e
      clear c1 c2 c3 c4
      obtain ⟨b8, hb8⟩ : ∃ b, fb f 8 = b := ⟨_, rfl⟩
      rw [hb8] at HH HCC
      have HE8 := hide hb8
      clear hb8
      go_wp2_with fail
      refine (HH.out _ _ _ _).mono ?_
      rintro e w1 ⟨rfl, hb⟩
      have HQ2 := hide (HQ1.out.below hb)
      clear HQ1 hb t0 t1 t2 t3 t4 g0 g1 g2 g3 f2 f3 f4 k2 k3
      obtain ⟨t0, t1, t2, t3, t4, g0, g1, g2, g3, f2, f3, f4, k2, k3⟩ := HQ2.out.cells
      cases b8 with
      | false =>
        have HF := hide (HNF.out false (HCC.out (fun e => by cases e.1)) rfl)
        go_wp2
        go_meet
        exact ⟨HF.out, HQ2⟩
      | true =>
        cases hr : rela with
        | false =>
          have HF := hide (HNT.out true (.inr (.inr (.inr (.inr ⟨HE8.out, hr⟩)))) rfl)
          rw [hr] at t1
          subst hr
          go_wp2
          go_meet
          exact ⟨HF.out, HQ2⟩
        | true =>
          have HF := hide (HNF.out false (HCC.out (fun e => by have := e.2; rw [hr] at this; cases this)) rfl)
          subst hr
          go_wp2
          go_meet
          exact ⟨HF.out, HQ2⟩
    case rest =>
      obtain ⟨rfl, HQ2⟩ := hcut
      clear HNT HNF
      by_cases hN : grpNo rela left m f
      · have hN2 := (grpNoB_iff _ _ _ _).2 hN
        have HF := hide (HNO.out _ hN (HLO.out _ HQ2.out.fp))
        rw [hN2]
        clear hN hN2
        go_wp2
        go_ret
        exact HF.out
      · have hN2 : grpNoB rela left m f = false := by
          cases hh : grpNoB rela left m f with
          | false => rfl
          | true => exact absurd ((grpNoB_iff _ _ _ _).1 hh) hN
        rw [hN2]
        have hf0 : 0 ≤ f := Classical.byContradiction fun c => hN (.inr (.inr (.inl (by omega))))
        have hf1 : f ≤ 15 := Classical.byContradiction fun c => hN (.inr (.inr (.inr (.inl (by omega)))))
        have hm1 : 1 ≤ m := Classical.byContradiction fun c => hN (.inl (by omega))
        have hml : m ≤ left := Classical.byContradiction fun c => hN (.inr (.inl (by omega)))
        have HHN := hide hN
        clear hN hN2
        obtain ⟨b8, hb8⟩ : ∃ b, fb f 8 = b := ⟨_, rfl⟩
        obtain ⟨b2, hb2⟩ : ∃ b, fb f 2 = b := ⟨_, rfl⟩
        obtain ⟨b1, hb1⟩ : ∃ b, fb f 1 = b := ⟨_, rfl⟩
        obtain ⟨b4, hb4⟩ : ∃ b, fb f 4 = b := ⟨_, rfl⟩
        have H8 := hide (fun W a b c => ap_has W a f b c 8 hf0 hf1 (by simp))
        have H2 := hide (fun W a b c => ap_has W a f b c 2 hf0 hf1 (by simp))
        have H1 := hide (fun W a b c => ap_has W a f b c 1 hf0 hf1 (by simp))
        have H4 := hide (fun W a b c => ap_has W a f b c 4 hf0 hf1 (by simp))
        rw [hb8] at H8
        rw [hb2] at H2
        rw [hb1] at H1
        rw [hb4] at H4
        have HG4 : Hid (grpIn rela f m.toNat s2 = relN rela f (tkN b2 0 s2) (tkN b1 0 (tkS b2 s2)) m.toNat (if b8 = true then tkA b4 (tkS b1 (tkS b2 s2)) else (tkS b1 (tkS b2 s2)).setAdd 0)) := by
          unfold Hid grpIn grpC; rw [hb8, hb2, hb1, hb4]
        clear hb8 hb2 hb1 hb4
        have HF0 := hide hf0
        have HF1 := hide hf1
        have HM1 := hide hm1
        have HML := hide hml
        clear hf0 hf1 hm1 hml
        obtain ⟨t0, t1, t2, t3, t4, g0, g1, g2, g3, f2, f3, f4, k2, k3⟩ := HQ2.out.cells
        go_wp2_with fail
        refine (H2.out _ _ _ _).mono ?_
        rintro e w1 ⟨rfl, hb⟩
        have HQ3 := hide (HQ2.out.below hb)
        clear HQ2 hb t0 t1 t2 t3 t4 g0 g1 g2 g3 f2 f3 f4 k2 k3
        go_upto_if 48 with fail
        go_cut [] from 6 (fun wx => Hid (Tq w wx B T R v v (tkS b2 s2) rela fine G m f (tkN b2 0 s2) 0))
        case first =>
          cases b2 with
          | false =>
            go_wp2
            go_meet
            case rel => exact HQ3
          | true =>
            obtain ⟨t0, t1, t2, t3, t4, g0, g1, g2, g3, f2, f3, f4, k2, k3⟩ := HQ3.out.cells
            go_wp2_with fail
            refine (HS.out _ _ HQ3.out.td).mono ?_
            rintro e w2 ⟨rfl, hT, hF⟩
            have HQ4 := hide (HQ3.out.step hT hF)
            clear hT hF t0 t1 t2 t3 t4 g0 g1 g2 g3 f2 f3 f4 k2 k3
            obtain ⟨t0, t1, t2, t3, t4, g0, g1, g2, g3, f2, f3, f4, k2, k3⟩ := HQ4.out.cells
            go_wp2
            go_meet
            case rel => exact HQ4.out.setG 2 _ rfl
        case rest =>
          have HQ1 := hcut
          clear hcut HQ3
          obtain ⟨s3, hs3⟩ : ∃ x, tkS b2 s2 = x := ⟨_, rfl⟩
          obtain ⟨n1, hn1⟩ : ∃ x, tkN b2 0 s2 = x := ⟨_, rfl⟩
          rw [hs3, hn1] at HQ1 HG4
          have HO3 : Hid (left + (s3.out.length : Int) ≤ 512) := by rw [Hid, ← hs3, tkS_out]; exact HO2.out
          clear hs3 hn1
          obtain ⟨t0, t1, t2, t3, t4, g0, g1, g2, g3, f2, f3, f4, k2, k3⟩ := HQ1.out.cells
          go_wp2_with fail
          refine (H1.out _ _ _ _).mono ?_
          rintro e w1 ⟨rfl, hb⟩
          have HQ2 := hide (HQ1.out.below hb)
          clear HQ1 hb t0 t1 t2 t3 t4 g0 g1 g2 g3 f2 f3 f4 k2 k3
          go_upto_if 56 with fail
          go_cut [] from 6 (fun wx => Hid (Tq w wx B T R v v (tkS b1 s3) rela fine G m f n1 (tkN b1 0 s3)))
          case first =>
            cases b1 with
            | false =>
              go_wp2
              go_meet
              case rel => exact HQ2
            | true =>
              obtain ⟨t0, t1, t2, t3, t4, g0, g1, g2, g3, f2, f3, f4, k2, k3⟩ := HQ2.out.cells
              go_wp2_with fail
              refine (HS.out _ _ HQ2.out.td).mono ?_
              rintro e w2 ⟨rfl, hT, hF⟩
              have HQ4 := hide (HQ2.out.step hT hF)
              clear hT hF t0 t1 t2 t3 t4 g0 g1 g2 g3 f2 f3 f4 k2 k3
              obtain ⟨t0, t1, t2, t3, t4, g0, g1, g2, g3, f2, f3, f4, k2, k3⟩ := HQ4.out.cells
              go_wp2
              go_meet
              case rel => exact HQ4.out.setG 3 _ rfl
          case rest =>
            have HQ1 := hcut
            clear hcut HQ2
            obtain ⟨s4, hs4⟩ : ∃ x, tkS b1 s3 = x := ⟨_, rfl⟩
            obtain ⟨n2, hn2⟩ : ∃ x, tkN b1 0 s3 = x := ⟨_, rfl⟩
            rw [hs4, hn2] at HQ1 HG4
            have HO4 : Hid (left + (s4.out.length : Int) ≤ 512) := by rw [Hid, ← hs4, tkS_out]; exact HO3.out
            clear hs4 hn2
            obtain ⟨t0, t1, t2, t3, t4, g0, g1, g2, g3, f2, f3, f4, k2, k3⟩ := HQ1.out.cells
            go_wp2_with fail
            refine (H8.out _ _ _ _).mono ?_
            rintro e w1 ⟨rfl, hb⟩
            have HQ2 := hide (HQ1.out.below hb)
            clear HQ1 hb t0 t1 t2 t3 t4 g0 g1 g2 g3 f2 f3 f4 k2 k3
            go_upto_if 65 with fail
            go_cut [] from 6 (fun wx => Hid (Tq w wx B T R v v (if b8 = true then tkA b4 s4 else s4.setAdd 0) rela fine G m f n1 n2))
            case first =>
              obtain ⟨t0, t1, t2, t3, t4, g0, g1, g2, g3, f2, f3, f4, k2, k3⟩ := HQ2.out.cells
              cases b8 with
              | false =>
                go_wp2
                go_meet
                case rel => exact HQ2.out.step (HQ2.out.td.setT (s' := s4.setAdd 0) 4 _ rfl rfl rfl rfl) (Fp.set _ _ _ _ _ _)
              | true =>
                go_wp2_with fail
                refine (H4.out _ _ _ _).mono ?_
                rintro e w2 ⟨rfl, hb⟩
                have HQ3 := hide (HQ2.out.below hb)
                clear HQ2 hb t0 t1 t2 t3 t4 g0 g1 g2 g3 f2 f3 f4 k2 k3
                cases b4 with
                | false =>
                  go_wp2
                  go_meet
                  case rel => exact HQ3
                | true =>
                  have HQD := hide (HQ3.out.below ((Below.refl _ _).drew))
                  obtain ⟨t0, t1, t2, t3, t4, g0, g1, g2, g3, f2, f3, f4, k2, k3⟩ := HQD.out.cells
                  clear HQ3
                  go_wp2_with fail
                  go_region_law (first | (go_simp; refine (HS.out _ _ HQD.out.td).mono ?_; rintro e w2 ⟨rfl, hT, hF⟩; have HQ2 := hide (HQD.out.step hT hF); obtain ⟨u0, u1, u2, u3, u4, v0, v1, v2, v3, y2, y3, y4, z2, z3⟩ := HQ2.out.cells; clear hT hF))
                  all_goals
                    go_wp2
                    go_meet
                    exact HQ2.out.step (HQ2.out.td.setT (s' := tkA true s4) 4 _ (by simp only [i64_w64]; rfl) rfl rfl rfl) (Fp.set _ _ _ _ _ _)
            case rest =>
              have HQ1 := hcut
              clear hcut HQ2
              obtain ⟨s5, hs5⟩ : ∃ x, (if b8 = true then tkA b4 s4 else s4.setAdd 0) = x := ⟨_, rfl⟩
              rw [hs5] at HQ1 HG4
              have HO5 : Hid (left + (s5.out.length : Int) ≤ 512) := by
                rw [Hid, ← hs5]
                split
                · rw [tkA_out]; exact HO4.out
                · exact HO4.out
              clear hs5 HS H1 H2 H4 H8
              have HTR' := hide HTR
              obtain ⟨M, hM⟩ : ∃ M : Nat, m = M := ⟨m.toNat, by have := HM1.out; omega⟩
              have hMl : M ≤ 512 := by have := HML.out; have := HO5.out; omega
              have HML2 := hide hMl
              subst hM
              clear hMl HTR
              obtain ⟨t0, t1, t2, t3, t4, g0, g1, g2, g3, f2, f3, f4, k2, k3⟩ := HQ1.out.cells
              go_wp2_with fail
              clear t0 t1 t2 t3 t4 g0 g1 g2 g3 f2 f3 f4 k2 k3
              go_loopw [85] (fun vi wr => ∃ (i : Nat) (v' : Value), i ≤ M ∧ vi = .int .i64 (i : Int) ∧ Hid (Tq w wr B T R v v' (relN rela f n1 n2 i s5) rela fine G M f n1 n2)) (fun vi _ => M - (intOf vi).toNat)
              case atStart => exact ⟨0, v, by omega, rfl, HQ1⟩
              case round =>
                obtain ⟨i, v', hi, rfl, HQ2⟩ := hrel
                by_cases hlt : i < M
                · have hltI : (i : Int) < (M : Int) := by omega
                  have hi5 : (i : Int) ≤ 512 := by have := HML2.out; omega
                  have hT := HTR'.out _ B T R v' _ rela fine HQ2.out.td M f n1 n2 HF0.out HF1.out (by rw [relN_len]; have := HO5.out; have := HML.out; omega)
                  obtain ⟨t0, t1, t2, t3, t4, g0, g1, g2, g3, f2, f3, f4, k2, k3⟩ := HQ2.out.cells
                  go_wp2_with fail
                  refine hT.mono ?_
                  rintro e w2 ⟨rfl, v2, hT2, hF2⟩
                  have HQ3 := hide (HQ2.out.step hT2 hF2)
                  clear hT hT2 hF2 t0 t1 t2 t3 t4 g0 g1 g2 g3 f2 f3 f4 k2 k3
                  go_wp2
                  go_roundw
                  case rel => exact ⟨i + 1, v2, by omega, by go_num, HQ3⟩
                  case measure => simp [intOf]; omega
                · have hltI : decide ((i : Int) < (M : Int)) = false := decide_eq_false (by omega)
                  have hiM : i = M := by omega
                  subst hiM
                  have HFIN := hide (HYES.out wr v' HHN.out (by rw [HG4.out]; exact HQ2.out.td) HQ2.out.fp)
                  clear hlt
                  go_wp2
                  go_ret
                  exact HFIN.out
end Go.Proofs.Ytiicmakeoidiaaa
