
/-
  Layer 14 (aps), the program: putGroup keeps its contract.
-/
import Derived.Test.YtiicmakeoidiaaaApH
import Derived.Deep.RegionHeldLaw
import Derived.Deep.CutRange
set_option linter.unusedVariables false
namespace Go.Proofs.Ytiicmakeoidiaaa
open Go.RowKit Go.PlainAid
theorem ints1 (w : World) (a : Int) : IntsAt (w.alloc (.cells #[.int .i64 a] 2)) w.heap.size [a] := by
  intro j hj
  match j, hj with
  | 0, _ => exact cells_of_block (heap_alloc_new w _) 0 _ rfl
theorem ints2 (w : World) (a b : Int) : IntsAt (w.alloc (.cells #[.int .i64 a, .int .i64 b] 2)) w.heap.size [a, b] := by
  intro j hj
  match j, hj with
  | 0, _ => exact cells_of_block (heap_alloc_new w _) 0 _ rfl
  | 1, _ => exact cells_of_block (heap_alloc_new w _) 1 _ rfl
theorem ints3 (w : World) (a b c : Int) : IntsAt (w.alloc (.cells #[.int .i64 a, .int .i64 b, .int .i64 c] 2)) w.heap.size [a, b, c] := by
  intro j hj
  match j, hj with
  | 0, _ => exact cells_of_block (heap_alloc_new w _) 0 _ rfl
  | 1, _ => exact cells_of_block (heap_alloc_new w _) 1 _ rfl
  | 2, _ => exact cells_of_block (heap_alloc_new w _) 2 _ rfl
/-- put of numbers that are built on the spot. -/
theorem put_new (w : World) (B T : Nat) (v : Value) (l : List UInt8) (rela : Bool) (pl : Nat) (ad : Int) (h : Wt w B T v l rela pl ad) (o : Obj) (ns : List Int) (n : Nat) (hn : ns.length = n) (hi : IntsAt (w.alloc o) w.heap.size ns) (hn4 : n ≤ 4) (hr : ∀ n ∈ ns, i64r n) (hl : l.length ≤ 900000) :
    Calls Try.prog 22 #[.pointer (some ⟨T, 0, none⟩), .slice (some ⟨w.heap.size, 0, none⟩) n n] (w.alloc o) fun e w' => e = .returned (.tuple #[]) ∧ ∃ v', Wt w' B T v' (l ++ lebs ns) rela pl ad ∧ Fp w w' T T v v' := by
  have hT := h.size
  refine (ap_put (w.alloc o) B T v l rela pl ad (h.below (below1 w o)) (by have := h.lo; have := (below1 w o).size; omega) w.heap.size n n ns hn (Nat.le_refl _) (by omega) hi (by simp) (by omega) (fun e => by have := (h.row.base _ e).2; omega) hr (by omega)).mono ?_
  rintro e w' ⟨rfl, v', h1, h2⟩
  exact ⟨rfl, v', h1, (Fp.of_below (below1 w o) _ _ _).trans h2⟩
theorem info_is (s t : Nat) (hs : (s : Int) ≤ 4294967295) (ht : (t : Int) ≤ 4294967295) : bits .or .u64 ((s : Int) * 4294967296) (t : Int) = ((s * 4294967296 + t : Nat) : Int) := by
  have e : (s : Int) * 4294967296 = ((s * 4294967296 : Nat) : Int) := by omega
  have h32 : (2 : Nat) ^ 32 = 4294967296 := by decide
  have ho := or_add t s 32 (by rw [h32]; omega)
  rw [h32] at ho
  rw [e, bits_or_u64_nat _ _ (by omega) (by omega), Nat.or_comm, ho, Nat.add_comm]
/-- Beside it the relocation p, which the round has in a variable of its own (X). -/
structure Wq (w0 wx : World) (B T : Nat) (v0 v : Value) (l : List UInt8) (rela : Bool) (pl : Nat) (ad : Int) (X : Nat) (p : Rl) : Prop where
  wt : Wt wx B T v l rela pl ad
  fp : Fp w0 wx T T v0 v
  box : wx.heap[X]? = some (.cells p.cells.toArray 59 (0, 0))
  ne : X ≠ T
  far : v.ownBlock ≠ some X
theorem Wq.start {w0 w : World} {B T : Nat} {v0 v : Value} {l : List UInt8} {rela : Bool} {pl : Nat} {ad : Int} (h : Wt w B T v l rela pl ad) (hf : Fp w0 w T T v0 v) (p : Rl) : Wq w0 (w.alloc (.cells p.cells.toArray 59)) B T v0 v l rela pl ad w.heap.size p :=
  ⟨h.below (below1 _ _), hf.trans (Fp.of_below (below1 _ _) _ _ _), heap_alloc_new _ _, by have := h.size; omega, fun e => by have := (h.row.base _ e).2; omega⟩
theorem Wq.below {w0 wx wy : World} {B T : Nat} {v0 v : Value} {l : List UInt8} {rela : Bool} {pl : Nat} {ad : Int} {X : Nat} {p : Rl} (h : Wq w0 wx B T v0 v l rela pl ad X p) (hb : Below wx.heap.size wx wy) : Wq w0 wy B T v0 v l rela pl ad X p :=
  ⟨h.wt.below hb, h.fp.trans (Fp.of_below hb _ _ _), block_stay h.box hb, h.ne, h.far⟩
theorem Wq.step {w0 wx wy : World} {B T : Nat} {v0 v v' : Value} {l l' : List UInt8} {rela : Bool} {pl pl' : Nat} {ad ad' : Int} {X : Nat} {p : Rl} (h : Wq w0 wx B T v0 v l rela pl ad X p) (ht : Wt wy B T v' l' rela pl' ad') (hf : Fp wx wy T T v v') : Wq w0 wy B T v0 v' l' rela pl' ad' X p := by
  have hX := bk_lt h.box
  refine ⟨ht, h.fp.trans hf, ?_, h.ne, fun e => ?_⟩
  · rw [hf.block X hX h.ne h.ne h.far]; exact h.box
  · rcases hf.next X e with e2 | e2
    · exact h.far e2
    · omega
theorem Wt.setT {w : World} {B T : Nat} {v : Value} {l : List UInt8} {rela : Bool} {pl pl' : Nat} {ad ad' : Int} (h : Wt w B T v l rela pl ad) (j : Nat) (x : Value) (hx : #[v, Value.bool rela, .int .u64 (pl : Nat), .int .i64 ad].setIfInBounds j x = #[v, Value.bool rela, .int .u64 (pl' : Nat), .int .i64 ad']) :
    Wt (w.setCell ⟨T, j, none⟩ x) B T v l rela pl' ad' :=
  ⟨by rw [set_bk _ _ _ _ _ _ _ h.block, hx], h.row.move (fun k hk => set_bother _ _ _ _ _ (fun e => h.far (by rw [← e]; exact hk))), h.lo, h.far⟩
structure WqC (wx : World) (T X : Nat) (v : Value) (rela : Bool) (pl : Nat) (ad : Int) (n0 : Nat) (n3 : Int) : Prop where
  t0 : wx.cell? ⟨T, 0, none⟩ = some v
  t1 : wx.cell? ⟨T, 1, none⟩ = some (.bool rela)
  t2 : wx.cell? ⟨T, 2, none⟩ = some (.int .u64 (pl : Nat))
  t3 : wx.cell? ⟨T, 3, none⟩ = some (.int .i64 ad)
  x0 : wx.cell? ⟨X, 0, none⟩ = some (.int .u64 (n0 : Nat))
  x3 : wx.cell? ⟨X, 3, none⟩ = some (.int .i64 n3)
  f2 : wx.frozen? ⟨T, 2, none⟩ = false
  f3 : wx.frozen? ⟨T, 3, none⟩ = false
theorem Wq.cells {w0 wx : World} {B T : Nat} {v0 v : Value} {l : List UInt8} {rela : Bool} {pl : Nat} {ad : Int} {X : Nat} {p : Rl} (h : Wq w0 wx B T v0 v l rela pl ad X p) : WqC wx T X v rela pl ad p.pl p.add :=
  have b := h.wt.block
  ⟨cells_of_block b 0 _ rfl, cells_of_block b 1 _ rfl, cells_of_block b 2 _ rfl, cells_of_block b 3 _ rfl, cells_of_block h.box 0 _ rfl, cells_of_block h.box 3 _ rfl, frozen_bk b 2, frozen_bk b 3⟩
theorem u_step (q p : Nat) : IntKind.i64.wrap (IntKind.u64.wrap ((q : Int) - (p : Int))) = sg (us ((q : Int) - (p : Int))) := by unfold sg; rw [us_is]
set_option maxHeartbeats 4000000 in
set_option maxRecDepth 20000 in
theorem ap_putGroup (w : World) (B T : Nat) (v : Value) (l : List UInt8) (rela : Bool) (pl : Nat) (ad : Int) (h : Wt w B T v l rela pl ad) (vr : Value) (r : Rl) (t : List Rl) (hA : ∀ W, Below B w W → ArgR W vr (r :: t)) (hL : (r :: t).length ≤ 512) (hl : l.length + 20 * (r :: t).length ≤ 800000) (hpl : pl < 18446744073709551616) (had : i64r ad) :
    Calls Try.prog 24 #[.pointer (some ⟨T, 0, none⟩), vr] w fun e w' => e = .returned (.tuple #[]) ∧ ∃ v', Wt w' B T v' (l ++ lebs (headN rela (r :: t).length r ++ rowE rela pl ad (r :: t))) rela (lastP pl (r :: t)) (lastA ad (r :: t)) ∧ Fp w w' T T v v' := by
  have HA := hide hA
  have HW := hide h
  have hok := (hA w (Below.refl _ _)).1 r (by simp)
  have hIn := info_is r.sym r.type hok.sym hok.type
  have hInf : wrap64 ((r.sym : Int) * 4294967296 + (r.type : Int)) = infoR r := by
    unfold infoR sg; rw [i64_w64]; unfold w64; congr 1
  have HHR : Hid (∀ n ∈ headN rela (r :: t).length r, i64r n) := by
    intro n hn
    simp only [headN, List.mem_cons, List.not_mem_nil, or_false] at hn
    rcases hn with rfl | rfl | rfl
    · unfold i64r; simp only [List.length_cons] at hL ⊢; omega
    · unfold flagN i64r; split <;> omega
    · exact sg_r _
  have hSy := hok.sym
  have hTy := hok.type
  obtain ⟨a, cap, rfl, p1, p2⟩ := (hA w (Below.refl _ _)).form
  obtain ⟨g1, o1, hga, x0, x1, x2, x3, x4⟩ := (hA w (Below.refl _ _)).at 0 (by simp)
  subst hga
  have hb := h.block
  have t1 := cells_of_block hb 1 (.bool rela) rfl
  obtain ⟨L, hLe⟩ : ∃ L, (r :: t).length = L := ⟨_, rfl⟩
  have h0L : 0 < L := by rw [← hLe]; simp
  have h0I : (0 : Int) < (L : Int) := by omega
  have HLE := hide hLe
  rw [hLe] at hL hl p1 HHR ⊢
  simp only [List.getElem_cons_zero, Nat.zero_mul, Nat.add_zero] at x0 x1 x2 x3 x4
  have hx1 : w.drew.cell? ⟨g1, o1 + 1, none⟩ = some (.int .u32 r.type) := x1
  have hx2 : w.drew.cell? ⟨g1, o1 + 2, none⟩ = some (.int .u32 r.sym) := x2
  clear hLe hA h hb hok
  go_enter Try.func24, Try.ntmps24
  go_upto_if 11 with fail
  go_cut [4] from 8 (fun v4 wx => v4 = .int .i64 (flagN rela) ∧ Hid (wx = w))
  case first =>
    cases rela with
    | true =>
      have h9 : bits .or .i64 1 8 = 9 := by decide +kernel
      go_wp2
      go_meet
      case rel => exact ⟨rfl, rfl⟩
    | false =>
      go_wp2
      go_meet
      case rel => exact ⟨rfl, rfl⟩
  case rest =>
    obtain ⟨rfl, hww⟩ := hcut
    have hww2 : w = wc := hww.out.symm
    subst hww2
    go_wp2_with fail
    go_quiet (fail)
    have HW1 : Hid (Wt (w.drewN nq) B T v l rela pl ad) := HW.out.below (bel_drewN (Below.refl _ _) _)
    have HP := hide (put_new (w.drewN nq) B T v l rela pl ad HW1.out (.cells #[.int .i64 (L : Nat), .int .i64 (flagN rela), .int .i64 (infoR r)] 2) (headN rela L r) 3 rfl (ints3 _ _ _ _) (by omega) HHR.out (by omega))
    clear t1 x0 x1 x2 x3 x4 hx1 hx2 hIn
    go_wp2_with fail
    refine HP.out.mono ?_
    rintro e w2 ⟨rfl, v2, hT2, hF2⟩
    have HW2 := hide hT2
    have HF2 : Hid (Fp w w2 T T v v2) := (Fp.of_below (bel_drewN (Below.refl _ _) _) _ _ _).trans hF2
    clear hT2 hF2 HP HW1 hInf hSy hTy
    have HLO := hide (fun W v' (hf : Fp w W T T v v') => Fp.lowW HW.out hf)
    have HRL : Hid (∀ W v', Fp w W T T v v' → ∀ j (hj : j < (r :: t).length), W.cell? ⟨g1, o1 + j * 5, none⟩ = some (.int .u64 (r :: t)[j].pl) ∧ W.cell? ⟨g1, o1 + j * 5 + 1, none⟩ = some (.int .u32 (r :: t)[j].type) ∧
        W.cell? ⟨g1, o1 + j * 5 + 2, none⟩ = some (.int .u32 (r :: t)[j].sym) ∧ W.cell? ⟨g1, o1 + j * 5 + 3, none⟩ = some (.int .i64 (r :: t)[j].add) ∧ W.cell? ⟨g1, o1 + j * 5 + 4, none⟩ = some (.bool (r :: t)[j].has)) := fun W v' hf j hj => by
      obtain ⟨g2, o2, e, q⟩ := (HA.out W (HLO.out W v' hf)).at j hj
      injection e with e
      injection e with e1 e2
      subst e1 e2
      exact q
    have HOK : Hid (∀ x ∈ r :: t, x.ok) := (HA.out w (Below.refl _ _)).1
    clear HA HHR hpl had h0I
    go_wp2_with fail
    go_loopw [7, 36] (fun _ vi wr => ∃ (i : Nat) (v' : Value), i ≤ L ∧ vi = .int .i64 (i : Int) ∧ Hid (Wt wr B T v' (l ++ lebs (headN rela L r ++ rowE rela pl ad ((r :: t).take i))) rela (lastP pl ((r :: t).take i)) (lastA ad ((r :: t).take i))) ∧ Hid (Fp w wr T T v v')) (fun _ vi _ => L - (intOf vi).toNat)
    case atStart => exact ⟨0, v2, by omega, rfl, by simpa [rowE, lastP, lastA] using HW2, HF2⟩
    case round =>
      obtain ⟨i, v3, hi, rfl, HW3, HF3⟩ := hrel
      by_cases hlt : i < L
      · have hltI : (i : Int) < (L : Int) := by omega
        have hil : i < (r :: t).length := by rw [HLE.out]; exact hlt
        obtain ⟨y0, y1, y2, y3, y4⟩ := HRL.out wr v3 HF3.out i hil
        have hok := HOK.out (r :: t)[i] (List.getElem_mem hil)
        have HNX : Hid (∀ X, l ++ lebs (headN rela L r ++ rowE rela pl ad ((r :: t).take i)) ++ (lebs [stepR (lastP pl ((r :: t).take i)) (r :: t)[i]] ++ lebs (addR rela (lastA ad ((r :: t).take i)) (r :: t)[i])) = X → l ++ lebs (headN rela L r ++ rowE rela pl ad ((r :: t).take (i + 1))) = X ∧ lastP pl ((r :: t).take (i + 1)) = (r :: t)[i].pl ∧ lastA ad ((r :: t).take (i + 1)) = (r :: t)[i].add) := fun X e => by
          rw [List.take_succ_eq_append_getElem hil, rowE_snoc, lastP_snoc, lastA_snoc, ← e]
          refine ⟨?_, rfl, rfl⟩
          rw [← lebs_app, List.append_assoc, ← lebs_app, List.append_assoc]
          rfl
        have hbl : (l ++ lebs (headN rela L r ++ rowE rela pl ad ((r :: t).take i))).length ≤ 890000 := by
          have h1 := lebs_len (headN rela L r ++ rowE rela pl ad ((r :: t).take i))
          have h2 := rowE_len rela ((r :: t).take i) pl ad
          rw [List.length_take] at h2
          rw [List.length_append] at h1
          have h3 : (headN rela L r).length = 3 := rfl
          rw [List.length_append]
          omega
        generalize l ++ lebs (headN rela L r ++ rowE rela pl ad ((r :: t).take i)) = l3 at *
        generalize lastP pl ((r :: t).take i) = pl3 at *
        generalize lastA ad ((r :: t).take i) = ad3 at *
        generalize (r :: t)[i] = p at *
        have HQ := hide (Wq.start HW3.out HF3.out p)
        have hU := u_step p.pl pl3
        have HUS := hide hU
        have HOP := hide hok
        have HBL := hide hbl
        have hi5 : (i : Int) ≤ 512 := by omega
        clear hok hbl hlt hil hU
        obtain ⟨n0, n1, n2, n3, b⟩ := p
        simp only at y0 y1 y2 y3 y4
        go_upto_region 8 with fail
        go_cut [] from 37 to 75 (fun wx => ∃ v4, Hid (Wq w wx B T v v4 (l3 ++ lebs [stepR pl3 ⟨n0, n1, n2, n3, b⟩]) rela pl3 ad3 wr.heap.size ⟨n0, n1, n2, n3, b⟩))
        case first =>
          have HQ1 : Hid (Wq w (wr.alloc (.cells #[.int .u64 (n0 : Nat), .int .u32 (n1 : Nat), .int .u32 (n2 : Nat), .int .i64 n3, .bool b] 59)) B T v v3 l3 rela pl3 ad3 wr.heap.size ⟨n0, n1, n2, n3, b⟩) := HQ.out
          clear HQ y0 y1 y2 y3 y4
          generalize wr.alloc (.cells #[.int .u64 (n0 : Nat), .int .u32 (n1 : Nat), .int .u32 (n2 : Nat), .int .i64 n3, .bool b] 59) = w5 at *
          have HQD := hide (HQ1.out.below ((Below.refl _ _).drew))
          obtain ⟨t0, t1, t2, t3, x0, x3, f2, f3⟩ := HQD.out.cells
          have hU1 : IntKind.i64.wrap (IntKind.u64.wrap ((n0 : Int) - (pl3 : Int))) = stepR pl3 ⟨n0, n1, n2, n3, b⟩ := HUS.out
          have hU2 : wrap64 (IntKind.u64.wrap ((n0 : Int) - (pl3 : Int))) = stepR pl3 ⟨n0, n1, n2, n3, b⟩ := by rw [← hU1, i64_w64]; rfl
          have HSR : Hid (i64r (stepR pl3 ⟨n0, n1, n2, n3, b⟩)) := sg_r _
          generalize stepR pl3 ⟨n0, n1, n2, n3, b⟩ = st at *
          have HP := hide (put_new w5.drew B T v3 l3 rela pl3 ad3 HQD.out.wt (.cells #[.int .i64 st] 2) [st] 1 rfl (ints1 _ _) (by omega) (fun n hn => by simp at hn; rw [hn]; exact HSR.out) (by have := HBL.out; omega))
          go_wp2_with fail
          go_region_law (first | (go_simp; refine HP.out.mono ?_; rintro e w6 ⟨rfl, v4, hT, hF⟩; have HQ2 := hide (HQD.out.step hT hF); clear hT hF))
          all_goals
            go_wp2
            go_meet
            case rel => exact ⟨v4, HQ2⟩
        case rest =>
          obtain ⟨v4, HQ2⟩ := hcut
          clear HQ y0 y1 y2 y3 y4 HUS HW3 HF3
          obtain ⟨X, hX⟩ : ∃ X, wr.heap.size = X := ⟨_, rfl⟩
          rw [hX] at HQ2 ⊢
          clear hX
          obtain ⟨t0, t1, t2, t3, x0, x3, f2, f3⟩ := HQ2.out.cells
          have hl4 : (l3 ++ lebs [stepR pl3 ⟨n0, n1, n2, n3, b⟩]).length ≤ 900000 := by
            have h1 := lebs_len [stepR pl3 ⟨n0, n1, n2, n3, b⟩]
            have h2 := HBL.out
            rw [List.length_append]; simp only [List.length_singleton] at h1; omega
          have HNY : Hid (∀ W v5, Wq w W B T v v5 (l3 ++ lebs [stepR pl3 ⟨n0, n1, n2, n3, b⟩] ++ lebs (addR rela ad3 ⟨n0, n1, n2, n3, b⟩)) rela n0 n3 X ⟨n0, n1, n2, n3, b⟩ → Wt W B T v5 (l ++ lebs (headN rela L r ++ rowE rela pl ad ((r :: t).take (i + 1)))) rela (lastP pl ((r :: t).take (i + 1))) (lastA ad ((r :: t).take (i + 1))) ∧ Fp w W T T v v5) := fun W v5 hh => by
            obtain ⟨q1, q2, q3⟩ := HNX.out _ rfl
            rw [q1, q2, q3, ← List.append_assoc]
            exact ⟨hh.wt, hh.fp⟩
          generalize l3 ++ lebs [stepR pl3 ⟨n0, n1, n2, n3, b⟩] = l4 at *
          have HL4 := hide hl4
          clear hl4 HNX HBL
          go_upto_if 54 with fail
          go_cut [] from 37 to 75 (fun wx => ∃ v5, Hid (Wq w wx B T v v5 (l4 ++ lebs (addR rela ad3 ⟨n0, n1, n2, n3, b⟩)) rela pl3 ad3 X ⟨n0, n1, n2, n3, b⟩))
          case first =>
            cases rela with
            | false =>
              go_wp2
              go_meet
              case rel => exact ⟨v4, by simpa [addR, lebs] using HQ2⟩
            | true =>
              have HQD := hide (HQ2.out.below ((Below.refl _ _).drew))
              clear t0 t1 t2 t3 x0 x3 f2 f3
              obtain ⟨t0, t1, t2, t3, x0, x3, f2, f3⟩ := HQD.out.cells
              have HE : Hid (addR true ad3 ⟨n0, n1, n2, n3, b⟩ = [w64 (n3 - ad3)]) := rfl
              have hU1 : IntKind.i64.wrap (n3 - ad3) = w64 (n3 - ad3) := i64_w64 _
              have hU2 : wrap64 (n3 - ad3) = w64 (n3 - ad3) := rfl
              have HSR : Hid (i64r (w64 (n3 - ad3))) := w64_bd _
              generalize w64 (n3 - ad3) = st at *
              have HP := hide (put_new wc.drew B T v4 l4 true pl3 ad3 HQD.out.wt (.cells #[.int .i64 st] 2) [st] 1 rfl (ints1 _ _) (by omega) (fun n hn => by simp at hn; rw [hn]; exact HSR.out) HL4.out)
              go_wp2_with fail
              go_region_law (first | (go_simp; refine HP.out.mono ?_; rintro e w6 ⟨rfl, v5, hT, hF⟩; have HQ3 := hide (HQD.out.step hT hF); clear hT hF))
              all_goals
                go_wp2
                go_meet
                case rel => exact ⟨v5, by rw [HE.out]; exact HQ3⟩
          case rest =>
            obtain ⟨v5, HQ3⟩ := hcut
            clear HQ2 t0 t1 t2 t3 x0 x3 f2 f3
            have HQD := hide (HQ3.out.below ((Below.refl _ _).drew))
            obtain ⟨t0, t1, t2, t3, x0, x3, f2, f3⟩ := HQD.out.cells
            have hne := HQ3.out.ne
            have t2' : wc.drew.cell? ⟨T, 2, none⟩ = some (.int .u64 (pl3 : Nat)) := t2
            have x0' : wc.drew.cell? ⟨X, 0, none⟩ = some (.int .u64 (n0 : Nat)) := x0
            have x3' : wc.drew.cell? ⟨X, 3, none⟩ = some (.int .i64 n3) := x3
            clear x0 x3 t2
            obtain ⟨s0, s1, s2, s3, z0, z3, k2, k3⟩ := HQ3.out.cells
            go_wp2_with fail
            go_region
            all_goals
              have HQ4 : Hid (∀ W, (W = wc ∨ W = wc.drew) → Wq w ((W.setCell ⟨T, 2, none⟩ (.int .u64 (n0 : Nat))).setCell ⟨T, 3, none⟩ (.int .i64 n3)) B T v v5 (l4 ++ lebs (addR rela ad3 ⟨n0, n1, n2, n3, b⟩)) rela n0 n3 X ⟨n0, n1, n2, n3, b⟩) := fun W hW => by
                rcases hW with rfl | rfl
                · exact HQ3.out.step ((HQ3.out.wt.setT (pl' := n0) (ad' := ad3) 2 _ rfl).setT (pl' := n0) (ad' := n3) 3 _ rfl) ((Fp.set _ _ _ _ _ _).trans (Fp.set _ _ _ _ _ _))
                · exact HQD.out.step ((HQD.out.wt.setT (pl' := n0) (ad' := ad3) 2 _ rfl).setT (pl' := n0) (ad' := n3) 3 _ rfl) ((Fp.set _ _ _ _ _ _).trans (Fp.set _ _ _ _ _ _))
              go_wp2
              go_roundw
              case rel =>
                have HF := HNY.out _ v5 ((HQ4.out wc (.inl rfl)).below ((Below.refl _ _).drew))
                exact ⟨i + 1, v5, by omega, by go_num, HF.1, HF.2⟩
              case measure => simp [intOf]; omega
      · have hltI : decide ((i : Int) < (L : Int)) = false := decide_eq_false (by omega)
        have hltN : decide (i < L) = false := decide_eq_false hlt
        have hiL : i = L := by omega
        have HE : Hid (Wt wr B T v3 (l ++ lebs (headN rela L r ++ rowE rela pl ad (r :: t))) rela (lastP pl (r :: t)) (lastA ad (r :: t))) := by
          have := HW3.out; rw [hiL, List.take_of_length_le (by rw [HLE.out]; omega)] at this; exact this
        clear hlt hiL HW3
        go_wp2
        go_end0
        exact ⟨rfl, v3, HE.out, HF3.out⟩
end Go.Proofs.Ytiicmakeoidiaaa
