
/-
  Layer 11 (vers): lib and List.
-/
import Derived.Test.YtdclofiifcpkkaaVeOne
set_option linter.unusedVariables false
namespace Go.Proofs.Ytdclofiifcpkkaa
open Go.RowKit Go.PlainAid Go.Sort
theorem askT_no {l : List UInt8} {ps : List Ph} {S f : List UInt8} {a : Nat} {F : List Vv} (h : txtB S (rd (rc l ps a 16) 8 4) = false) : askT l ps S f a F = none := by unfold askT askO; rw [h]; rfl
theorem askT_yes {l : List UInt8} {ps : List Ph} {S f : List UInt8} {a : Nat} {F : List Vv} (h : txtB S (rd (rc l ps a 16) 8 4) = true) : askT l ps S f a F = addO F ⟨rd (rc l ps a 16) 6 2, txtS S (rd (rc l ps a 16) 8 4), f⟩ := by
  unfold askT askO; rw [h, if_pos rfl]; simp only [Option.bind_some, addAll]; show (addO F (askV l ps S f a)).bind _ = addO F (askV l ps S f a); cases addO F (askV l ps S f a) <;> rfl
theorem built_ver3 (x : Int) (y z : ByteArray) : Try.prog.built 114 [(0, .int .u16 x), (1, .string y), (2, .string z)] = some #[.int .u16 x, .string y, .string z] := by kernel_rfl
set_option maxHeartbeats 4000000 in
set_option maxRecDepth 20000 in
theorem ve_lib1 (w0 W : World) (q : Rp) (hk : Rk w0 q) (vf : Value) (F : List Vv) (h : RdAt w0 W q vf F) (C D : Nat) (f : List UInt8) (hC : W.cell? ⟨C, 0, none⟩ = some (.pointer (some ⟨w0.heap.size, 0, none⟩))) (hD : W.cell? ⟨D, 0, none⟩ = some (.string (txb f)))
    (a : Nat) (xa : Option Addr) (xn xc : Nat) (hx : Arg W (.slice xa xn xc) (rc q.l q.ps a 16)) :
    Calls Try.prog 68 #[.agg #[.int .u64 (a : Nat), .slice xa xn xc], .pointer (some ⟨C, 0, none⟩), .pointer (some ⟨D, 0, none⟩)] W fun e w' => TkIs w0 W q vf (askT q.l q.ps q.S f a F) e w' := by
  have hb1 := below1 W (.cells #[.int .u64 (a : Nat), .slice xa xn xc] 135)
  have hZ : (W.alloc (.cells #[.int .u64 (a : Nat), .slice xa xn xc] 135)).heap[W.heap.size]? = some (.cells #[.int .u64 (a : Nat), .slice xa xn xc] 135 (0, 0)) := heap_alloc_new _ _
  have hC1 := (hb1.cell (p := ⟨C, 0, none⟩) (World.block_lt_of_cell? _ _ hC)).trans hC
  have hD1 := (hb1.cell (p := ⟨D, 0, none⟩) (World.block_lt_of_cell? _ _ hD)).trans hD
  have H1 := hide (h.stay hb1)
  have HX1 := hide (hx.below' hb1)
  have HT1 := hide (Tk.of_below hb1 w0.heap.size vf)
  have hz0 := cells_of_block hZ 0 (.int .u64 (a : Nat)) rfl
  have hz1 := cells_of_block hZ 1 (.slice xa xn xc) rfl
  have HNO := hide (fun hh => askT_no (l := q.l) (ps := q.ps) (S := q.S) (f := f) (a := a) (F := F) hh)
  have HYE := hide (fun hh => askT_yes (l := q.l) (ps := q.ps) (S := q.S) (f := f) (a := a) (F := F) hh)
  have HK := hide hk
  clear hb1 hZ hk h hx hC hD
  generalize askT q.l q.ps q.S f a F = O at *
  have HP4 := hide (rd4 (rc q.l q.ps a 16) 8)
  have HP2 := hide (rd2 (rc q.l q.ps a 16) 6)
  generalize rc q.l q.ps a 16 = X16 at *
  go_enter Try.func68, Try.ntmps68
  go_wp2_with fail
  generalize W.alloc _ = W1 at *
  generalize hzz : W.heap.size = Z at *
  have HKF := hide (fun X (hX : Below W1.heap.size W1 X) => ve_four X a (.slice xa xn xc) _ (HX1.out.below' hX) 8 (by decide))
  have HKT := hide (fun X (hX : Below W1.heap.size W1 X) => (H1.out.stay hX).text HK.out (rd X16 8 4) HP4.out)
  obtain ⟨p, hp⟩ : ∃ p, rd X16 8 4 = p := ⟨_, rfl⟩
  rw [hp] at HKF HKT HNO HYE
  obtain ⟨tb, htb⟩ : ∃ b, txtB q.S p = b := ⟨_, rfl⟩
  rw [htb] at HKT HNO HYE
  clear hp htb HP4
  try simp only [List.append_eq, List.cons_append, List.nil_append]
  refine wp_region_quiet_below (by kernel_rfl) (by kernel_rfl) ?_
  have y0 := cell_regrown hz0
  have y1 := cell_regrown hz1
  have y2 := cell_regrown hC1
  have y3 := cell_regrown hD1
  repeat (go_big_quiet_step (first | (with_reducible exact Calls.regrown_of (HKF.out _ (below_regrown _ _ _))) | (with_reducible exact Calls.regrown_of (HKT.out _ (below_regrown _ _ _)))))
  refine wpQuiet_nil ?_
  intro _ hwq
  obtain ⟨⟨dq, osq⟩, hwq2⟩ := hwq
  subst hwq2
  have HB2 := hide (below_regrown W1 dq osq)
  have hz0 := y0 dq osq
  have hz1 := y1 dq osq
  have hC1 := y2 dq osq
  have hD1 := y3 dq osq
  clear y0 y1 y2 y3 HKF HKT
  generalize grow _ _ = W2 at *
  have H2 := hide (H1.out.stay HB2.out)
  have HX2 := hide (HX1.out.below' HB2.out)
  have HT2 := hide (HT1.out.trans (Tk.of_below HB2.out w0.heap.size vf))
  clear H1 HX1 HT1 HB2
  cases tb with
  | false =>
    have HO := hide (HNO.out rfl)
    clear HNO HYE
    go_wp2_with fail
    try simp only [List.append_eq, List.cons_append, List.nil_append]
    refine wp_region_quiet_below (by kernel_rfl) (by kernel_rfl) ?_
    repeat (go_big_quiet_step (fail))
    refine wpQuiet_nil ?_
    intro _ hwq
    obtain ⟨⟨dq, osq⟩, hwq2⟩ := hwq
    subst hwq2
    have HB3 := hide (H2.out.stay (below_regrown W2 dq osq)).bel
    have HT3 := hide (HT2.out.trans (Tk.of_below (below_regrown W2 dq osq) w0.heap.size vf))
    generalize grow _ _ = W3 at *
    go_wp2
    go_ret
    rw [HO.out]
    exact ⟨rfl, HB3.out, vf, HT3.out⟩
  | true =>
    have HO := hide (HYE.out rfl)
    clear HNO HYE
    have HTW := hide (fun X (hX : Below W2.heap.size W2 X) => ve_two X a (.slice xa xn xc) _ (HX2.out.below' hX) 6 (by decide))
    have HAD := hide (fun X (hX : Below W2.heap.size W2 X) => ve_add w0 X q vf F (H2.out.stay hX) ⟨rd X16 6 2, txtS q.S p, f⟩ HP2.out)
    unfold Vv.cells at HAD
    simp only at HAD
    generalize rd X16 6 2 = n at *
    have hbu := fun (x : Int) (y z : ByteArray) => built_ver3 x y z
    have HDD : Hid (Below W2.heap.size W2 W2.drew) := (Below.refl _ _).drew
    have HCE : Hid (∀ X, Below W2.heap.size W2 X → X.cell? ⟨Z, 0, none⟩ = some (.int .u64 (a : Nat)) ∧ X.cell? ⟨Z, 1, none⟩ = some (.slice xa xn xc) ∧ X.cell? ⟨C, 0, none⟩ = some (.pointer (some ⟨w0.heap.size, 0, none⟩)) ∧ X.cell? ⟨D, 0, none⟩ = some (.string (txb f))) := fun X hX =>
      ⟨(hX.cell (p := ⟨Z, 0, none⟩) (World.block_lt_of_cell? _ _ hz0)).trans hz0, (hX.cell (p := ⟨Z, 1, none⟩) (World.block_lt_of_cell? _ _ hz1)).trans hz1, (hX.cell (p := ⟨C, 0, none⟩) (World.block_lt_of_cell? _ _ hC1)).trans hC1, (hX.cell (p := ⟨D, 0, none⟩) (World.block_lt_of_cell? _ _ hD1)).trans hD1⟩
    clear hz0 hz1 hC1 hD1
    obtain ⟨d0, d1, d2, d3⟩ := HCE.out W2.drew HDD.out
    obtain ⟨P, hP⟩ : ∃ P, addO F ⟨n, txtS q.S p, f⟩ = P := ⟨_, rfl⟩
    rw [hP] at HAD HO
    clear hP
    cases P with
    | none =>
      go_wp2_with fail
      go_region_law (first
        | (go_simp; refine (HTW.out _ HDD.out).mono ?_; rintro e W3 ⟨rfl, hb3⟩; have HB3 := hide (HDD.out.trans (hb3.mono HDD.out.size)); obtain ⟨e0, e1, e2, e3⟩ := HCE.out W3 HB3.out; clear hb3)
        | (go_simp; refine (HAD.out _ HB3.out).mono ?_; rintro e W4 ⟨rfl, hb4, vg, hTk⟩; have HB4 := hide hb4; have HTk := hide hTk; clear hb4 hTk))
      all_goals
        clear hbu
        go_wp2
        go_ret
        rw [HO.out]
        exact ⟨rfl, HB4.out, vg, (HT2.out.trans (Tk.of_below HB3.out w0.heap.size vf)).trans HTk.out⟩
    | some G' =>
      go_wp2_with fail
      go_region_law (first
        | (go_simp; refine (HTW.out _ HDD.out).mono ?_; rintro e W3 ⟨rfl, hb3⟩; have HB3 := hide (HDD.out.trans (hb3.mono HDD.out.size)); obtain ⟨e0, e1, e2, e3⟩ := HCE.out W3 HB3.out; clear hb3)
        | (go_simp; refine (HAD.out _ HB3.out).mono ?_; rintro e W4 ⟨rfl, vg, hG, hTk⟩; have HG := hide hG; have HTk := hide hTk; clear hG hTk))
      all_goals
        clear hbu
        go_wp2
        go_ret
        rw [HO.out]
        exact ⟨rfl, vg, HG.out, (HT2.out.trans (Tk.of_below HB3.out w0.heap.size vf)).trans HTk.out⟩
end Go.Proofs.Ytdclofiifcpkkaa
namespace Go.Proofs.Ytdclofiifcpkkaa
open Go.RowKit Go.PlainAid Go.Sort
theorem libT_no {l : List UInt8} {ps : List Ph} {S : List UInt8} {a : Nat} {F : List Vv} (h : libB l ps S a = false) : libT l ps S a F = none := by unfold libT; rw [h]; rfl
theorem libT_yes {l : List UInt8} {ps : List Ph} {S : List UInt8} {a : Nat} {F : List Vv} (h : libB l ps S a = true) : libT l ps S a F = alongZ l ps (askT l ps S (libF l ps S a)) 16 12 (rd (rc l ps a 16) 2 2) (a + rd (rc l ps a 16) 8 4) F := by unfold libT; rw [h, if_pos rfl]
/-- A new text lies here. -/
structure NewS (W1 wx : World) (Y : Nat) (v : Value) : Prop where
  bel : Below W1.heap.size W1 wx
  low : W1.heap.size ≤ Y
  blk : wx.heap[Y]? = some (.cells #[v] 9 (0, 0))
theorem NewS.alloc {W1 X : World} (h : Below W1.heap.size W1 X) (v : Value) : NewS W1 (X.alloc (.cells #[v] 9)) X.heap.size v := ⟨h.trans ((below1 X _).mono h.size), h.size, heap_alloc_new _ _⟩
theorem NewS.set {W1 X : World} (h : Below W1.heap.size W1 X) {Y : Nat} (hY : W1.heap.size ≤ Y) {c : Value} (hb : X.heap[Y]? = some (.cells #[c] 9 (0, 0))) (v : Value) : NewS W1 (X.setCell ⟨Y, 0, none⟩ v) Y v := by
  refine ⟨⟨h.os, h.tape, h.output, by simpa using h.size, fun k hk => ?_⟩, hY, heap_setCell_at X Y 0 v _ _ _ hb⟩
  rw [Below.heap_setCell _ _ _ _ (show k ≠ Y by omega)]
  exact h.block k hk
abbrev Lc (C Z a g : Nat) (x : Value) (w' : World) : Prop := w'.cell? ⟨C, 0, none⟩ = some (.pointer (some ⟨g, 0, none⟩)) ∧ w'.cell? ⟨Z, 0, none⟩ = some (.int .u64 (a : Nat)) ∧ w'.cell? ⟨Z, 1, none⟩ = some x
theorem Lc.stay {C Z a g : Nat} {x : Value} {W W' : World} (h : Lc C Z a g x W) (hb : Below W.heap.size W W') : Lc C Z a g x W' :=
  ⟨(hb.cell (p := ⟨C, 0, none⟩) (World.block_lt_of_cell? _ _ h.1)).trans h.1, (hb.cell (p := ⟨Z, 0, none⟩) (World.block_lt_of_cell? _ _ h.2.1)).trans h.2.1, (hb.cell (p := ⟨Z, 1, none⟩) (World.block_lt_of_cell? _ _ h.2.2)).trans h.2.2⟩
theorem Lc.set {C Z a g Y : Nat} {x : Value} {W : World} (h : Lc C Z a g x W) (h1 : C ≠ Y) (h2 : Z ≠ Y) (v : Value) : Lc C Z a g x (W.setCell ⟨Y, 0, none⟩ v) :=
  ⟨(World.cell?_of_block (w := W) (Below.heap_setCell _ _ _ _ h1)).trans h.1, (World.cell?_of_block (w := W) (Below.heap_setCell _ _ _ _ h2)).trans h.2.1, (World.cell?_of_block (w := W) (Below.heap_setCell _ _ _ _ h2)).trans h.2.2⟩
def zeroStr : Obj := .cells #[.string ⟨#[]⟩] 9
theorem lib1_eg : ∀ args w, (callFunc 68 args).run Try.prog w = .ok (.enter 68 args) w := fun args w => by kernel_rfl
theorem built_row (x : Int) : Try.prog.built 106 [(0, .int .u64 x), (1, .int .u64 16), (2, .int .u64 12)] = some #[.int .u64 x, .int .u64 16, .int .u64 12] := by kernel_rfl
set_option maxHeartbeats 4000000 in
set_option maxRecDepth 20000 in
theorem ve_lib (w0 W : World) (q : Rp) (hk : Rk w0 q) (vf : Value) (F : List Vv) (h : RdAt w0 W q vf F) (a : Nat) (xa : Option Addr) (xn xc : Nat) (hx : Arg W (.slice xa xn xc) (rc q.l q.ps a 16)) (hr : rcB q.l q.ps a 16 = true) :
    Calls Try.prog 44 #[.pointer (some ⟨w0.heap.size, 0, none⟩), .agg #[.int .u64 (a : Nat), .slice xa xn xc]] W fun e w' => TkIs w0 W q vf (libT q.l q.ps q.S a F) e w' := by
  have ha := rc_lo hk.lo hr
  have haI : (a : Int) ≤ 16384 := by omega
  have hb1 : Below W.heap.size W ((W.alloc (.cells #[.pointer (some ⟨w0.heap.size, 0, none⟩)] 133)).alloc (.cells #[.int .u64 (a : Nat), .slice xa xn xc] 135)) := ((Below.refl _ W).alloc (Nat.le_refl _) _).alloc (by simp) _
  have hC : ((W.alloc (.cells #[.pointer (some ⟨w0.heap.size, 0, none⟩)] 133)).alloc (.cells #[.int .u64 (a : Nat), .slice xa xn xc] 135)).heap[W.heap.size]? = some (.cells #[.pointer (some ⟨w0.heap.size, 0, none⟩)] 133 (0, 0)) := by
    rw [heap_alloc_old _ _ (by simp)]; exact heap_alloc_new _ _
  have hs1 : (W.alloc (.cells #[.pointer (some ⟨w0.heap.size, 0, none⟩)] 133)).heap.size = W.heap.size + 1 := by simp
  have hZ : ((W.alloc (.cells #[.pointer (some ⟨w0.heap.size, 0, none⟩)] 133)).alloc (.cells #[.int .u64 (a : Nat), .slice xa xn xc] 135)).heap[W.heap.size + 1]? = some (.cells #[.int .u64 (a : Nat), .slice xa xn xc] 135 (0, 0)) := by
    rw [← hs1]; exact heap_alloc_new _ _
  have HK := hide hk
  have H1 := hide (h.stay hb1)
  have HX1 := hide (hx.below' hb1)
  have HZ1 := hide hZ
  have HC1 := hide hC
  have HBW := hide hb1
  have HGW : Hid (w0.heap.size < W.heap.size) := h.lt
  have HVW : Hid (∀ k, vf.ownBlock = some k → k < W.heap.size) := fun k hk => (World.ownsRow.lt h.own k hk).2
  have HNO := hide (fun hh => libT_no (l := q.l) (ps := q.ps) (S := q.S) (a := a) (F := F) hh)
  have HYE := hide (fun hh => libT_yes (l := q.l) (ps := q.ps) (S := q.S) (a := a) (F := F) hh)
  have HP4 := hide (rd4 (rc q.l q.ps a 16) 4)
  have HP8 := hide (rd4 (rc q.l q.ps a 16) 8)
  have HP2 := hide (rd2 (rc q.l q.ps a 16) 2)
  have HLB : Hid (libB q.l q.ps q.S a = (decide (rd (rc q.l q.ps a 16) 0 2 = 1) && txtB q.S (rd (rc q.l q.ps a 16) 4 4))) := rfl
  have HLF : Hid (libF q.l q.ps q.S a = txtS q.S (rd (rc q.l q.ps a 16) 4 4)) := rfl
  clear hb1 hZ hC hs1 hk h hx ha hr
  generalize libT q.l q.ps q.S a F = O at *
  generalize libB q.l q.ps q.S a = lb at *
  generalize libF q.l q.ps q.S a = fr at *
  generalize rc q.l q.ps a 16 = X16 at *
  go_enter Try.func44, Try.ntmps44
  go_wp2_with fail
  generalize hw1 : World.alloc (W.alloc _) _ = W1 at *
  have HZS : Hid (W1.heap.size = W.heap.size + 2) := by rw [Hid, ← hw1]; simp
  clear hw1
  have HDD : Hid (Below W1.heap.size W1 W1.drew) := (Below.refl _ _).drew
  have hSC : Lc W.heap.size (W.heap.size + 1) a w0.heap.size (.slice xa xn xc) W1 := ⟨cells_of_block HC1.out 0 _ rfl, cells_of_block HZ1.out 0 _ rfl, cells_of_block HZ1.out 1 _ rfl⟩
  have SC : Lc W.heap.size (W.heap.size + 1) a w0.heap.size (.slice xa xn xc) W1.drew := hSC.stay HDD.out
  have SA : Lc W.heap.size (W.heap.size + 1) a w0.heap.size (.slice xa xn xc) (W1.alloc zeroStr).drew := hSC.stay (below1d W1 zeroStr)
  have HAZ : Hid ((W1.alloc zeroStr).drew.heap[W1.heap.size]? = some zeroStr) := heap_alloc_new W1 zeroStr
  have HBA := hide (below1d W1 zeroStr)
  have HK4 := hide (fun X (hX : Below W1.heap.size W1 X) => ve_four X a (.slice xa xn xc) _ (HX1.out.below' hX) 4 (by decide))
  have HKT := hide (fun X (hX : Below W1.heap.size W1 X) => (H1.out.stay hX).text HK.out (rd X16 4 4) HP4.out)
  obtain ⟨p, hp⟩ : ∃ p, rd X16 4 4 = p := ⟨_, rfl⟩
  rw [hp] at HK4 HKT HLB HLF
  obtain ⟨tb, htb⟩ : ∃ b, txtB q.S p = b := ⟨_, rfl⟩
  rw [htb] at HKT HLB
  rw [← HLF.out] at HKT
  clear hp htb HP4 HLF hSC
  unfold zeroStr at SA HAZ HBA
  go_upto_region 1 with fail
  go_cut [5, 6] from 8 (fun v5 v6 wx => ∃ (Y : Nat), v5 = .pointer (some ⟨Y, 0, none⟩) ∧ v6 = .bool tb ∧ Hid (NewS W1 wx Y (.string (txb fr))))
  case first =>
    go_region_held_law (fun w' => w'.cell? ⟨W.heap.size, 0, none⟩ = some (.pointer (some ⟨w0.heap.size, 0, none⟩)) ∧ w'.cell? ⟨W.heap.size + 1, 0, none⟩ = some (.int .u64 (a : Nat)) ∧ w'.cell? ⟨W.heap.size + 1, 1, none⟩ = some (.slice xa xn xc))
      (first | with_reducible assumption | with_reducible exact SB1 _ | with_reducible exact SB2 _ | with_reducible exact SP2 _)
      (first
        | (go_at_call 64; refine (HK4.out _ (by first | exact HDD.out | exact HBA.out)).mono ?_; rintro e X1 ⟨rfl, hb⟩; have HX := hide (by first | exact HDD.out.trans (hb.mono HDD.out.size) | exact HBA.out.trans (hb.mono HBA.out.size)); have SC1 := (by first | exact Lc.stay SC hb | exact Lc.stay SA hb); have SB1 := fun o => Lc.stay SC1 (below1 X1 o); first | (have HYB := hide (block_stay HAZ.out hb)) | skip; clear hb)
        | (go_at_call 66; refine (HKT.out _ (by first | exact HX.out | exact (HX.out.trans ((below1 _ _).mono HX.out.size)))).mono ?_; rintro e X2 ⟨rfl, hb⟩; have HXX := hide (by first | exact HX.out.trans (hb.mono HX.out.size) | exact (HX.out.trans ((below1 _ _).mono HX.out.size)).trans (hb.mono (HX.out.trans ((below1 _ _).mono HX.out.size)).size)); have SC2 := (by first | exact Lc.stay SC1 hb | exact Lc.stay (SB1 _) hb); have SB2 := fun o => Lc.stay SC2 (below1 X2 o); first | (have hY := block_stay HYB.out hb; have y0 := cells_of_block hY 0 (.string ⟨#[]⟩) rfl; have f0 := block_soft hY 0; have SP2 := fun a => Lc.set SC2 (show W.heap.size ≠ W1.heap.size by have := HZS.out; omega) (show W.heap.size + 1 ≠ W1.heap.size by have := HZS.out; omega) a; have HY := hide hY; clear hY) | (have hY := block_stay (heap_alloc_new X1 _) hb; have y0 := cells_of_block hY 0 (.string ⟨#[]⟩) rfl; have f0 := block_soft hY 0; have SP2 := fun a => Lc.set SC2 (show W.heap.size ≠ X1.heap.size by have := HZS.out; have := HX.out.size; omega) (show W.heap.size + 1 ≠ X1.heap.size by have := HZS.out; have := HX.out.size; omega) a; have HY := hide hY; clear hY) | skip; clear hb))
    · go_wp2_with fail
      go_meet
      exact ⟨_, rfl, rfl, NewS.alloc HXX.out _⟩
    · go_wp2_with fail
      go_meet
      exact ⟨_, rfl, rfl, NewS.set HXX.out HX.out.size HY.out _⟩
    · go_wp2_with fail
      go_meet
      exact ⟨_, rfl, rfl, NewS.set HXX.out (Nat.le_refl _) HY.out _⟩
  case rest =>
    obtain ⟨Y, rfl, rfl, HN⟩ := hcut
    have HBc : Hid (Below W.heap.size W wc) := HBW.out.trans (HN.out.bel.mono HBW.out.size)
    have Hc := hide (H1.out.stay HN.out.bel)
    have HXc := hide (HX1.out.below' HN.out.bel)
    have HCE : Hid (∀ X, Below wc.heap.size wc X → Lc W.heap.size (W.heap.size + 1) a w0.heap.size (.slice xa xn xc) X) := fun X hX => Lc.stay (W := wc) ⟨cells_of_block (block_stay HC1.out HN.out.bel) 0 _ rfl, cells_of_block (block_stay HZ1.out HN.out.bel) 0 _ rfl, cells_of_block (block_stay HZ1.out HN.out.bel) 1 _ rfl⟩ hX
    have HEND : Hid (∀ X, Below wc.heap.size wc X → O = none → TkIs w0 W q vf O (.returned (.bool false)) X) := fun X hX e => by rw [e]; exact ⟨rfl, (Hc.out.stay hX).bel, vf, Tk.of_below (HBc.out.trans (hX.mono HBc.out.size)) _ _⟩
    have HTW := hide (fun X (hX : Below wc.heap.size wc X) k hk => ve_two X a (.slice xa xn xc) _ (HXc.out.below' hX) k hk)
    have HYL : Hid (W.heap.size + 2 ≤ Y) := by have := HN.out.low; have := HZS.out; unfold Hid; omega
    have HYB : Hid (wc.heap[Y]? = _) := HN.out.blk
    have HCB := hide (block_stay HC1.out HN.out.bel)
    have HZB := hide (block_stay HZ1.out HN.out.bel)
    clear H1 HX1 HZ1 HC1 SC SA HAZ HK4 HKT HBA HDD HBW HN HZS
    cases tb with
    | false =>
      have hO : O = none := HNO.out (by rw [HLB.out, Bool.and_false])
      have HFF := hide (HEND.out wc (Below.refl _ _) hO)
      clear HNO HYE hO HLB HEND
      go_wp2
      go_ret
      exact HFF.out
    | true =>
      rw [Bool.and_true] at HLB
      have k0 := HTW.out wc (Below.refl _ _) 0 (by decide)
      obtain ⟨z0, z1, z2⟩ := HCE.out wc (Below.refl _ _)
      obtain ⟨n0, hn0⟩ : ∃ n, rd X16 0 2 = n := ⟨_, rfl⟩
      rw [hn0] at k0 HLB
      clear hn0
      by_cases c0 : n0 = 1
      · subst c0
        have HO := hide (HYE.out HLB.out)
        clear HNO HYE HLB HEND
        go_wp2_with fail
        refine k0.mono ?_
        rintro e W2 ⟨rfl, hb2⟩
        have HB2 := hide hb2
        clear k0 hb2 z0 z1 z2
        obtain ⟨z0, z1, z2⟩ := HCE.out W2 HB2.out
        have k2 := HTW.out W2 HB2.out 2 (by decide)
        obtain ⟨n2, hn2⟩ : ∃ n, rd X16 2 2 = n := ⟨_, rfl⟩
        rw [hn2] at k2 HO HP2
        clear hn2
        have hl2 := HP2.out
        have hl2I : (n2 : Int) ≤ 65535 := by omega
        have hbu := built_row (n2 : Int)
        go_wp2_with fail
        refine k2.mono ?_
        rintro e W3 ⟨rfl, hb3⟩
        have HB3 := hide (HB2.out.trans (hb3.mono HB2.out.size))
        have HB4 : Hid (Below wc.heap.size wc (W3.alloc (.cells #[.int .u64 (n2 : Int), .int .u64 16, .int .u64 12] 106))) := HB3.out.trans ((below1 _ _).mono HB3.out.size)
        have HRB : Hid ((W3.alloc (.cells #[.int .u64 (n2 : Int), .int .u64 16, .int .u64 12] 106)).heap[W3.heap.size]? = some (.cells #[.int .u64 (n2 : Int), .int .u64 16, .int .u64 12] 106 (0, 0))) := heap_alloc_new _ _
        clear k2 hb3 z0 z1 z2
        go_wp2_with fail
        have HRL : Hid (wc.heap.size ≤ W3.heap.size) := HB3.out.size
        have HWC : Hid (W.heap.size + 2 ≤ wc.heap.size) := by have := (Array.getElem?_eq_some_iff.1 HYB.out).1; have := HYL.out; unfold Hid; omega
        clear hbu HP2 HB2 HB3
        generalize hW4 : W3.alloc _ = W4 at *
        have HL4 : Hid (W3.heap.size < W4.heap.size) := (Array.getElem?_eq_some_iff.1 HRB.out).1
        generalize W3.heap.size = R at *
        clear hW4
        have HDD : Hid (Below W4.heap.size W4 W4.drew) := (Below.refl _ _).drew
        have HWX : Hid (∀ X, Below W4.heap.size W4 X → Below wc.heap.size wc X) := fun X hX => HB4.out.trans (hX.mono HB4.out.size)
        have HK8 := hide (fun X (hX : Below W4.heap.size W4 X) => ve_four X a (.slice xa xn xc) _ (HXc.out.below' (HWX.out X hX)) 8 (by decide))
        obtain ⟨n8, hn8⟩ : ∃ n, rd X16 8 4 = n := ⟨_, rfl⟩
        rw [hn8] at HK8 HO HP8
        clear hn8
        have hl8 := HP8.out
        have HALO := hide (fun X (hX : Below W4.heap.size W4 X) => ve_along w0 X q HK.out vf F (Hc.out.stay (HWX.out X hX)) (askT q.l q.ps q.S fr) 68 #[] #[.pointer (some ⟨W.heap.size, 0, none⟩), .pointer (some ⟨Y, 0, none⟩)] lib1_eg 16 12 n2 a n8 (by omega) hl8 (by decide) (by decide) (by omega)
          (fun X' vf' F' a' xa' xn' xc' hTk hR hA hrc => by
            have cC := cells_of_block (tk_block hTk (block_stay HCB.out (HWX.out X hX)) (by have := HGW.out; omega) (fun e => by have := HVW.out _ e; omega)) 0 _ rfl
            have cY := cells_of_block (tk_block hTk (block_stay HYB.out (HWX.out X hX)) (by have := HGW.out; have := HYL.out; omega) (fun e => by have := HVW.out _ e; have := HYL.out; omega)) 0 _ rfl
            have := ve_lib1 w0 X' q HK.out vf' F' hR W.heap.size Y fr cC cY a' xa' xn' xc' hA
            simpa using this))
        have HSE : Hid (∀ (X X' : World) (vg : Value), Below W4.heap.size W4 X → Tk w0.heap.size vf vg X X' → X'.cell? ⟨W.heap.size, 0, none⟩ = some (.pointer (some ⟨w0.heap.size, 0, none⟩)) ∧ X'.cell? ⟨W.heap.size + 1, 0, none⟩ = some (.int .u64 (a : Nat)) ∧ X'.cell? ⟨W.heap.size + 1, 1, none⟩ = some (.slice xa xn xc) ∧ X'.cell? ⟨R, 0, none⟩ = some (.int .u64 (n2 : Int)) ∧ X'.cell? ⟨R, 1, none⟩ = some (.int .u64 16) ∧ X'.cell? ⟨R, 2, none⟩ = some (.int .u64 12)) := fun X X' vg hX hTk => by
          have bC := tk_block hTk (block_stay HCB.out (HWX.out X hX)) (by have := HGW.out; omega) (fun e => by have := HVW.out _ e; omega)
          have bZ := tk_block hTk (block_stay HZB.out (HWX.out X hX)) (by have := HGW.out; omega) (fun e => by have := HVW.out _ e; omega)
          have bR := tk_block hTk (block_stay HRB.out hX) (by have := HGW.out; have := HRL.out; have := HWC.out; omega) (fun e => by have := HVW.out _ e; have := HRL.out; have := HWC.out; omega)
          exact ⟨cells_of_block bC 0 _ rfl, cells_of_block bZ 0 _ rfl, cells_of_block bZ 1 _ rfl, cells_of_block bR 0 _ rfl, cells_of_block bR 1 _ rfl, cells_of_block bR 2 _ rfl⟩
        have SD := HSE.out W4 W4.drew vf (Below.refl _ _) (Tk.of_below HDD.out _ _)
        have HT4 : Hid (∀ X, Below W4.heap.size W4 X → Tk w0.heap.size vf vf W X) := fun X hX => Tk.of_below (HBc.out.trans ((HWX.out X hX).mono HBc.out.size)) _ _
        obtain ⟨P, hP⟩ : ∃ P, alongZ q.l q.ps (askT q.l q.ps q.S fr) 16 12 n2 (a + n8) F = P := ⟨_, rfl⟩
        rw [hP] at HALO HO
        clear hP
        cases P with
        | none =>
          go_region_held_law (fun w' => w'.cell? ⟨W.heap.size, 0, none⟩ = some (.pointer (some ⟨w0.heap.size, 0, none⟩)) ∧ w'.cell? ⟨W.heap.size + 1, 0, none⟩ = some (.int .u64 (a : Nat)) ∧ w'.cell? ⟨W.heap.size + 1, 1, none⟩ = some (.slice xa xn xc) ∧ w'.cell? ⟨R, 0, none⟩ = some (.int .u64 (n2 : Int)) ∧ w'.cell? ⟨R, 1, none⟩ = some (.int .u64 16) ∧ w'.cell? ⟨R, 2, none⟩ = some (.int .u64 12))
            (first | with_reducible assumption)
            (first
              | (go_at_call 64; refine (HK8.out _ HDD.out).mono ?_; rintro e X1 ⟨rfl, hb⟩; have HX := hide (HDD.out.trans (hb.mono HDD.out.size)); have SC1 := HSE.out X1 X1 vf HX.out (Tk.refl _ _ _); clear hb)
              | (go_at_call 42; refine (HALO.out _ HX.out).mono ?_; rintro e X5 ⟨rfl, hb5, vg, hTk5⟩; have HB5 := hide hb5; have HTk := hide hTk5; have SC5 := HSE.out X1 X5 vg HX.out hTk5; clear hb5 hTk5))
          all_goals
            go_wp2
            go_ret
            rw [HO.out]
            exact ⟨rfl, HB5.out, vg, (HT4.out _ HX.out).trans HTk.out⟩
        | some G' =>
          go_region_held_law (fun w' => w'.cell? ⟨W.heap.size, 0, none⟩ = some (.pointer (some ⟨w0.heap.size, 0, none⟩)) ∧ w'.cell? ⟨W.heap.size + 1, 0, none⟩ = some (.int .u64 (a : Nat)) ∧ w'.cell? ⟨W.heap.size + 1, 1, none⟩ = some (.slice xa xn xc) ∧ w'.cell? ⟨R, 0, none⟩ = some (.int .u64 (n2 : Int)) ∧ w'.cell? ⟨R, 1, none⟩ = some (.int .u64 16) ∧ w'.cell? ⟨R, 2, none⟩ = some (.int .u64 12))
            (first | with_reducible assumption)
            (first
              | (go_at_call 64; refine (HK8.out _ HDD.out).mono ?_; rintro e X1 ⟨rfl, hb⟩; have HX := hide (HDD.out.trans (hb.mono HDD.out.size)); have SC1 := HSE.out X1 X1 vf HX.out (Tk.refl _ _ _); clear hb)
              | (go_at_call 42; refine (HALO.out _ HX.out).mono ?_; rintro e X5 ⟨rfl, vg, hG, hTk5⟩; have HG5 := hide hG; have HTk := hide hTk5; have SC5 := HSE.out X1 X5 vg HX.out hTk5; clear hG hTk5))
          all_goals
            go_wp2
            go_ret
            rw [HO.out]
            exact ⟨rfl, vg, HG5.out, (HT4.out _ HX.out).trans HTk.out⟩
      · have c0b : ((n0 : Int) != 1) = true := by simp; omega
        have hO : O = none := HNO.out (by rw [HLB.out, decide_eq_false c0])
        have HF3 := hide (fun X hX => HEND.out X hX hO)
        clear HNO HYE hO HLB HEND c0
        go_wp2_with fail
        refine k0.mono ?_
        rintro e W3 ⟨rfl, hb3⟩
        have HFF := hide (HF3.out W3 hb3)
        clear k0 hb3 HF3
        go_wp2
        go_ret
        exact HFF.out
end Go.Proofs.Ytdclofiifcpkkaa
namespace Go.Proofs.Ytdclofiifcpkkaa
open Go.RowKit Go.PlainAid Go.Sort
theorem own_eg : ∀ args w, (callFunc 43 args).run Try.prog w = .ok (.enter 43 args) w := fun args w => by kernel_rfl
theorem lib_eg : ∀ args w, (callFunc 44 args).run Try.prog w = .ok (.enter 44 args) w := fun args w => by kernel_rfl
/-- What List answers. -/
def VerIs (T : TypeId) (K : IntKind) (w' : World) (B : Nat) (o : Option (List Vv)) (e : Ending) : Prop :=
  match o with
  | none => e = .returned (.tuple #[.slice none 0 0, .int .i64 110])
  | some L => ∃ v, e = .returned (.tuple #[v, .int .i64 0]) ∧ OwnV T K w' B v L
theorem built_row2 (x y z : Int) : Try.prog.built 106 [(0, .int .u64 x), (1, .int .u64 y), (2, .int .u64 z)] = some #[.int .u64 x, .int .u64 y, .int .u64 z] := by kernel_rfl
def zeroRd : List Value := rdC (.slice none 0 0) 0 (.slice none 0 0) noPh noPh (.slice none 0 0) (.slice none 0 0)
theorem alloc_rd (w : World) : (Instr.alloc 103 true (.tuple #[])).run Try.prog w = .ok (.pointer (some ⟨w.heap.size, 0, none⟩)) (w.alloc (.cells zeroRd.toArray 103)) := by kernel_rfl
theorem build_rd (w : World) (ba : Option Addr) (bn bc m : Nat) (va : Option Addr) (vn vc : Nat) (d r : Ph) (sa : Option Addr) (sn sc : Nat) : (Instr.build 103 #[(0, .slice ba bn bc), (1, .agg (hdCells m (.slice va vn vc) d r).toArray), (2, .slice sa sn sc)]).run Try.prog w = .ok (.agg (rdC (.slice ba bn bc) m (.slice va vn vc) d r (.slice sa sn sc) (.slice none 0 0)).toArray) w := by kernel_rfl
theorem rd_size : ∀ w, (Go.sizeOf 103).run Try.prog w = .ok 19 w := Try.sizeOf103
theorem at_buildR {ops : Array Oper} {rest : List Oper} {a : Act} {Q : Exit → Act → World → Prop} {w : World} {ty : TypeId} {x : Array (Nat × Operand)} {d : Option Tmp} {ps : String} {af : Array Edge}
    (h : wpList Try.prog ops Q ({ dst := d, op := .build 103 x, type := ty, pos := ps, after := af, guard := none } :: rest) a w) : wpList Try.prog ops Q ({ dst := d, op := .build 103 x, type := ty, pos := ps, after := af, guard := none } :: rest) a w := h
theorem at_allocR {ops : Array Oper} {rest : List Oper} {a : Act} {Q : Exit → Act → World → Prop} {w : World} {ty : TypeId} {d : Option Tmp} {ps : String} {af : Array Edge}
    (h : wpList Try.prog ops Q ({ dst := d, op := .alloc 103, type := ty, pos := ps, after := af, guard := none } :: rest) a w) : wpList Try.prog ops Q ({ dst := d, op := .alloc 103, type := ty, pos := ps, after := af, guard := none } :: rest) a w := h
theorem alloc_opR {ops : Array Oper} {rest : List Oper} {o : Oper} {a : Act} {Q : Exit → Act → World → Prop} {w : World} {T : TypeId} (hgd : o.guard = none) (ho : o.op = .alloc T) (v : Value) (w0 : World)
    (hr : (Instr.alloc T true (.tuple #[])).run Try.prog w = .ok v w0) (h : wpList Try.prog ops Q rest (a.put o.dst v) w0) : wpList Try.prog ops Q (o :: rest) a w := by
  refine wpList_plain hgd fun _ hK => ?_
  unfold Oper.wp execOp
  simp only [ho, Sem.run_bind, hr, Result.andThen_ok]
  exact hK _ _ h
theorem rdC_one (ba : Option Addr) (bn bc m : Nat) (va : Option Addr) (vn vc : Nat) (d r : Ph) (sa : Option Addr) (sn sc : Nat) (fa : Option Addr) (fn fc : Nat) : ∀ u ∈ rdC (.slice ba bn bc) m (.slice va vn vc) d r (.slice sa sn sc) (.slice fa fn fc), u.oneCell' = true := by
  intro u hu
  unfold rdC at hu
  simp only [List.mem_cons, List.mem_append, List.not_mem_nil, or_false] at hu
  rcases hu with rfl | hu | rfl | rfl
  · rfl
  · exact hd_one _ _ _ _ _ _ u hu
  · rfl
  · rfl
theorem rdC_len (b : Value) (m : Nat) (v : Value) (d r : Ph) (vs vf : Value) : (rdC b m v d r vs vf).length = 19 := rfl
theorem verZ_no {l : List UInt8} {ps : List Ph} {S : List UInt8} {sb : Bool} {q : Vq} (h : sb = false ∨ 33 < q.defs ∨ 32 < q.needs) : verZ l ps S sb q = none := by unfold verZ; rw [if_pos h]
theorem verZ_yes {l : List UInt8} {ps : List Ph} {S : List UInt8} {sb : Bool} {q : Vq} (h : ¬ (sb = false ∨ 33 < q.defs ∨ 32 < q.needs)) : verZ l ps S sb q = progO l ps S q := by unfold verZ; rw [if_neg h, prog_is]
set_option maxHeartbeats 8000000 in
set_option maxRecDepth 20000 in
theorem ve_List (w : World) (b : Value) (l : List UInt8) (hb : Arg w b l) (m : Nat) (v : Value) (d r : Ph) (ps : List Ph) (h : ArgH w v ps) (ok : ∀ p ∈ ps, p.ok) (sm : ∀ p ∈ ps, p.off + p.filesz ≤ 1000000) (lo : ∀ p ∈ ps, p.vaddr + p.filesz ≤ 16384)
    (cs : Array Value) (hz : cs.size = 40) (x s : Nat) (h7 : cs[7]? = some (.int .u64 x)) (h8 : cs[8]? = some (.int .u64 s)) (hx : x < 18446744073709551616) (hs : s < 18446744073709551616)
    (vq : Vq) (h13 : cs[13]? = some (.int .u64 vq.def')) (h14 : cs[14]? = some (.int .u64 vq.need)) (h15 : cs[15]? = some (.int .u64 vq.defs)) (h16 : cs[16]? = some (.int .u64 vq.needs)) (hq1 : vq.def' < 18446744073709551616) (hq2 : vq.need < 18446744073709551616) (hq3 : vq.defs < 18446744073709551616) (hq4 : vq.needs < 18446744073709551616) :
    Calls Try.prog 13 #[b, .agg (hdCells m v d r).toArray, .agg cs] w fun e w' => VerIs 114 .u16 w' w.heap.size (verZ l ps (partZ l ps x s).1 (partZ l ps x s).2 vq) e ∧ Below w.heap.size w w' := by
  have HB : Hid (Below w.heap.size w ((w.alloc (.cells (hdCells m v d r).toArray 30)).alloc (.cells cs 35))) := ((Below.refl _ w).alloc (Nat.le_refl _) _).alloc (by simp) _
  have HG : Hid (((w.alloc (.cells (hdCells m v d r).toArray 30)).alloc (.cells cs 35)).heap[w.heap.size]? = some (.cells (hdCells m v d r).toArray 30 (0, 0))) := by
    rw [Hid, heap_alloc_old _ _ (by simp)]; exact heap_alloc_new _ _
  have hs1 : (w.alloc (.cells (hdCells m v d r).toArray 30)).heap.size = w.heap.size + 1 := by simp
  have HD : Hid (((w.alloc (.cells (hdCells m v d r).toArray 30)).alloc (.cells cs 35)).heap[w.heap.size + 1]? = some (.cells cs 35 (0, 0))) := by
    rw [Hid, ← hs1]; exact heap_alloc_new _ _
  have HLL : Hid (l.length ≤ 140737488351232) := by obtain ⟨_, _, _, _, _, hl⟩ := hb.isSlice; exact hl
  have HAB := hide (hb.below' HB.out)
  have HAH := hide (h.below HB.out)
  have hS := dyn_Strings _ b l HAB.out m v d r ps HAH.out ok sm cs hz x s h7 h8 hx hs
  have HSL : Hid ((partZ l ps x s).1.length ≤ 140737488351232) := Nat.le_trans (rc_len l ps x s) HLL.out
  obtain ⟨⟨S, sb⟩, hP⟩ : ∃ P, partZ l ps x s = P := ⟨_, rfl⟩
  rw [hP] at hS HSL ⊢
  simp only at hS HSL ⊢
  obtain ⟨ba, bn, bc, rfl⟩ : ∃ a n c, b = .slice a n c := by obtain ⟨a, c, e, _⟩ := hb.isSlice; exact ⟨_, _, _, e⟩
  obtain ⟨va, vn, vc, rfl⟩ : ∃ a n c, v = .slice a n c := by obtain ⟨a, c, e⟩ := h.form; exact ⟨_, _, _, e⟩
  have HOK := hide ok
  have HLO := hide lo
  obtain ⟨O, hO⟩ : ∃ O, verZ l ps S sb vq = O := ⟨_, rfl⟩
  rw [hO]
  have HO := hide hO
  have HCE : Hid (∀ X : World, X.heap[w.heap.size + 1]? = some (.cells cs 35 (0, 0)) → X.cell? ⟨w.heap.size + 1, 13, none⟩ = some (.int .u64 vq.def') ∧ X.cell? ⟨w.heap.size + 1, 14, none⟩ = some (.int .u64 vq.need) ∧ X.cell? ⟨w.heap.size + 1, 15, none⟩ = some (.int .u64 vq.defs) ∧ X.cell? ⟨w.heap.size + 1, 16, none⟩ = some (.int .u64 vq.needs)) := fun X hX =>
    ⟨cells_of_block hX 13 _ h13, cells_of_block hX 14 _ h14, cells_of_block hX 15 _ h15, cells_of_block hX 16 _ h16⟩
  have HZ := hide hz
  have HQ1 := hide hq1
  have HQ2 := hide hq2
  clear hb h ok sm lo h7 h8 h13 h14 h15 h16 hx hs hs1 hP hO hz hq1 hq2 hq3 hq4
  obtain ⟨qd, qds, qn, qns⟩ := vq
  simp only at HCE HQ1 HQ2 HO ⊢
  go_enter Try.func13, Try.ntmps13
  go_wp2_with (first
    | ((with_reducible refine at_load ?_); refine load_row rfl _ _ rfl w.heap.size _ (load_hd HG.out rfl) rfl ?_)
    | ((with_reducible refine at_loadD ?_); refine load_row rfl _ _ rfl (w.heap.size + 1) _ (load_dy HD.out HZ.out) rfl ?_))
  refine hS.mono ?_
  rintro e W1 ⟨⟨vs, rfl, ownS⟩, hb1⟩
  have HB1 : Hid (Below w.heap.size w W1) := HB.out.trans (hb1.mono HB.out.size)
  have HG1 := hide (block_stay HG.out hb1)
  have HD1 := hide (block_stay HD.out hb1)
  have HAB1 := hide (HAB.out.below' hb1)
  have HAH1 := hide (HAH.out.below hb1)
  have HAS1 := hide (ownS.arg HSL.out)
  obtain ⟨sa, sn, sc, rfl⟩ : ∃ a n c, vs = .slice a n c := by obtain ⟨a, c, e, _⟩ := HAS1.out.isSlice; exact ⟨_, _, _, e⟩
  clear hS hb1 ownS HB HG HD HAB HAH
  obtain ⟨c13, c14, c15, c16⟩ := HCE.out W1 HD1.out
  by_cases hbad : sb = false ∨ 33 < qds ∨ 32 < qns
  · have HN : Hid (none = O) := by rw [Hid, ← HO.out]; exact (verZ_no hbad).symm
    have hcs : sb = false ∨ (sb = true ∧ (33 : Int) < (qds : Int)) ∨ (sb = true ∧ ¬ (33 : Int) < (qds : Int) ∧ (32 : Int) < (qns : Int)) := by
      cases sb with
      | false => exact .inl rfl
      | true =>
        by_cases x1 : 33 < qds
        · exact .inr (.inl ⟨rfl, by omega⟩)
        · rcases hbad with e | e | e
          · cases e
          · exact absurd e x1
          · exact .inr (.inr ⟨rfl, by omega, by omega⟩)
    clear hbad HO
    rcases hcs with rfl | ⟨rfl, x1⟩ | ⟨rfl, x1, x2⟩
    all_goals
      go_wp2
      go_ret2
      exact ⟨by rw [← HN.out]; rfl, HB1.out⟩
  · have HP := hide ((verZ_yes (l := l) (ps := ps) (S := S) hbad).symm.trans HO.out)
    have hsb : sb = true := by cases sb; exact absurd (.inl rfl) hbad; rfl
    have hd33 : ¬ (33 : Int) < (qds : Int) := by omega
    have hn32 : ¬ (32 : Int) < (qns : Int) := by omega
    subst hsb
    clear HO hbad
    have hRZ : (W1.alloc (.cells zeroRd.toArray 103)).heap[W1.heap.size]? = some (.cells zeroRd.toArray 103 (0, 0)) := heap_alloc_new _ _
    have HRZ := hide hRZ
    have HRB := hide (below1 W1 (.cells zeroRd.toArray 103))
    clear hRZ c13 c14 c15 c16
    obtain ⟨RD, hRD⟩ : ∃ RD, rdC (.slice ba bn bc) m (.slice va vn vc) d r (.slice sa sn sc) (.slice none 0 0) = RD := ⟨_, rfl⟩
    have HBR := hide (fun W => build_rd W ba bn bc m va vn vc d r sa sn sc)
    have HR1 : Hid (∀ u ∈ RD, u.oneCell' = true) := by rw [Hid, ← hRD]; exact rdC_one _ _ _ _ _ _ _ _ _ _ _ _ _ _ _
    have HR19 : Hid (RD.length = 19) := by rw [Hid, ← hRD]; rfl
    have HRS : Hid (∀ w, (Go.sizeOf 103).run Try.prog w = .ok RD.length w) := by rw [Hid, HR19.out]; exact rd_size
    have HRN : Hid ((zeroRd.toArray.toList.take 0 ++ RD ++ zeroRd.toArray.toList.drop (0 + RD.length)).toArray = RD.toArray) := by
      rw [Hid, HR19.out]
      have e : List.drop (0 + 19) zeroRd.toArray.toList = [] := rfl
      rw [e, List.append_nil]; rfl
    rw [hRD] at HBR
    have HRD := hide hRD
    clear hRD
    obtain ⟨c13, c14, c15, c16⟩ := HCE.out W1 HD1.out
    go_wp2_with (first
      | ((with_reducible refine at_load ?_); refine load_row rfl _ _ rfl w.heap.size _ (load_hd HG1.out rfl) rfl ?_)
      | ((with_reducible refine at_buildR ?_); refine build_eq rfl _ _ rfl (.agg RD.toArray) ?hr ?_; (simp only [List.map_toArray, List.map_cons, List.map_nil]; exact HBR.out _))
      | ((with_reducible refine at_allocR ?_); refine alloc_opR rfl rfl _ _ (alloc_rd _) ?_)
      | ((with_reducible refine at_storeT ?_); refine store_part rfl _ _ _ rfl W1.heap.size 0 103 _ RD RD.toArray HRZ.out rfl rfl HRS.out HR1.out (by rw [HR19.out]; decide) HRN.out ?_))
    intro W2 hg2 hb2
    have HRK : Hid (Rk W1 ⟨ba, bn, bc, m, va, vn, vc, d, r, sa, sn, sc, l, ps, S⟩) := ⟨HAB1.out, HAH1.out, HOK.out, HLO.out, HAS1.out⟩
    have HRA : Hid (RdAt W1 W2 ⟨ba, bn, bc, m, va, vn, vc, d, r, sa, sn, sc, l, ps, S⟩ (.slice none 0 0) []) := ⟨grown_below (Nat.le_refl _) HRB.out hb2, by
      rw [hg2]; unfold Rp.cells; rw [HRD.out], OwnV.nil _ _ _ _, by simp⟩
    obtain ⟨q, hq⟩ : ∃ q : Rp, (⟨ba, bn, bc, m, va, vn, vc, d, r, sa, sn, sc, l, ps, S⟩ : Rp) = q := ⟨_, rfl⟩
    have HQL : Hid (l = q.l ∧ ps = q.ps ∧ S = q.S) := by rw [Hid, ← hq]; exact ⟨rfl, rfl, rfl⟩
    rw [hq] at HRK HRA
    rw [HQL.out.1, HQL.out.2.1, HQL.out.2.2] at HP
    clear hq hg2 hb2 HRZ HRB HBR HR1 HR19 HRS HRN HRD HG1 HAB1 HAH1 HAS1 HOK HLO HLL HSL c13 c14 c15 c16
    unfold progO at HP
    simp only at HP
    have HWD : Hid (∀ X, Below W1.heap.size W1 X → X.heap[w.heap.size + 1]? = some (.cells cs 35 (0, 0))) := fun X hX => block_stay HD1.out hX
    have HBX : Hid (∀ X, Below W1.heap.size W1 X → Below w.heap.size w X) := fun X hX => HB1.out.trans (hX.mono HB1.out.size)
    have hqI : (qd : Int) ≤ 18446744073709551615 := by have := HQ1.out; omega
    have hnI : (qn : Int) ≤ 18446744073709551615 := by have := HQ2.out; omega
    obtain ⟨c13, c14, c15, c16⟩ := HCE.out W2 (HWD.out W2 HRA.out.bel)
    have hbu := fun (x y z : Int) => built_row2 x y z
    have hA1 := ve_along W1 W2 q HRK.out (.slice none 0 0) [] HRA.out (ownT q.l q.ps q.S) 43 #[.pointer (some ⟨W1.heap.size, 0, none⟩)] #[] own_eg 20 16 qds qd 0 HQ1.out (by decide) (by decide) (by decide) (by omega)
      (fun X' vf' F' a' xa' xn' xc' hTk hR hA hrc => by
        have := ve_own W1 X' q HRK.out vf' F' hR a' xa' xn' xc' hA hrc
        simpa using this)
    obtain ⟨P1, hP1⟩ : ∃ P, alongZ q.l q.ps (ownT q.l q.ps q.S) 20 16 qds qd [] = P := ⟨_, rfl⟩
    rw [Nat.add_zero, hP1] at hA1
    rw [hP1] at HP
    clear hP1
    obtain ⟨Q1, hQ1⟩ : ∃ P, (if qd = 0 then some [] else P1) = P := ⟨_, rfl⟩
    rw [hQ1] at HP
    have HQ5 := hide hQ1
    clear hQ1
    cases Q1 with
    | none =>
      have hq0 : ¬ qd = 0 := fun e => by have := HQ5.out; rw [if_pos e] at this; cases this
      have hp1 : P1 = none := by have := HQ5.out; rw [if_neg hq0] at this; exact this
      have hqb : ((qd : Int) != 0) = true := by simp; omega
      subst hp1
      have HN : Hid (none = O) := HP.out
      clear HP HQ5 hq0
      go_wp2_with fail
      refine hA1.mono ?_
      rintro e W3 ⟨rfl, hb3, _⟩
      have HB3 := hide (HBX.out W3 hb3)
      clear hA1 hb3 hbu c13 c14 c15 c16
      go_wp2
      go_ret2
      exact ⟨by rw [← HN.out]; rfl, HB3.out⟩
    | some F1 =>
      simp only at HP
      go_upto_region 5 with fail
      go_cut [46] from 11 (fun v46 wx => v46 = .bool false ∧ ∃ vf, Hid (RdAt W1 wx q vf F1))
      case first =>
        by_cases hq0 : qd = 0
        · have hqb : ((qd : Int) != 0) = false := by rw [hq0]; rfl
          have hF : ([] : List Vv) = F1 := by have := HQ5.out; rw [if_pos hq0] at this; exact Option.some.inj this
          subst hF
          clear HP HQ5 hq0 hA1
          go_wp2_with fail
          go_meet
          exact ⟨rfl, _, HRA⟩
        · have hqb : ((qd : Int) != 0) = true := by simp; omega
          have hp1 : P1 = some F1 := by have := HQ5.out; rw [if_neg hq0] at this; exact this
          subst hp1
          clear HP HQ5 hq0
          go_wp2_with fail
          refine hA1.mono ?_
          rintro e W3 ⟨rfl, vg, hG, _⟩
          have HG := hide hG
          clear hA1 hG hbu c13 c14 c15 c16
          go_wp2_with fail
          go_meet
          exact ⟨rfl, _, HG⟩
      case rest =>
        obtain ⟨rfl, vf, HR⟩ := hcut
        clear HRA hA1 HQ5 c13 c14 c15 c16
        obtain ⟨c13, c14, c15, c16⟩ := HCE.out wc (HWD.out wc HR.out.bel)
        have hA2 := ve_along W1 wc q HRK.out vf F1 HR.out (libT q.l q.ps q.S) 44 #[.pointer (some ⟨W1.heap.size, 0, none⟩)] #[] lib_eg 16 12 qns qn 0 HQ2.out (by decide) (by decide) (by decide) (by omega)
          (fun X' vf' F' a' xa' xn' xc' hTk hR hA hrc => by
            have := ve_lib W1 X' q HRK.out vf' F' hR a' xa' xn' xc' hA hrc
            simpa using this)
        obtain ⟨P2, hP2⟩ : ∃ P, alongZ q.l q.ps (libT q.l q.ps q.S) 16 12 qns qn F1 = P := ⟨_, rfl⟩
        rw [Nat.add_zero, hP2] at hA2
        rw [hP2] at HP
        clear hP2
        cases O with
        | none =>
          have hq0 : ¬ qn = 0 := fun e => by have := HP.out; rw [if_pos e] at this; cases this
          have hp1 : P2 = none := by have := HP.out; rw [if_neg hq0] at this; exact this
          have hqb : ((qn : Int) != 0) = true := by simp; omega
          subst hp1
          clear HP hq0
          go_wp2_with fail
          refine hA2.mono ?_
          rintro e W3 ⟨rfl, hb3, _⟩
          have HB3 := hide (HBX.out W3 hb3)
          clear hA2 hb3 hbu c13 c14 c15 c16
          go_wp2
          go_ret2
          exact ⟨rfl, HB3.out⟩
        | some F2 =>
          go_upto_region 7 with fail
          go_cut [59] from 11 (fun v59 wx => v59 = .bool false ∧ ∃ vf, Hid (RdAt W1 wx q vf F2))
          case first =>
            by_cases hq0 : qn = 0
            · have hqb : ((qn : Int) != 0) = false := by rw [hq0]; rfl
              have hF : F1 = F2 := by have := HP.out; rw [if_pos hq0] at this; exact Option.some.inj this
              subst hF
              clear HP hq0 hA2
              go_wp2_with fail
              go_meet
              exact ⟨rfl, _, HR⟩
            · have hqb : ((qn : Int) != 0) = true := by simp; omega
              have hp1 : P2 = some F2 := by have := HP.out; rw [if_neg hq0] at this; exact this
              subst hp1
              clear HP hq0
              go_wp2_with fail
              refine hA2.mono ?_
              rintro e W3 ⟨rfl, vg, hG, _⟩
              have HG := hide hG
              clear hA2 hG hbu c13 c14 c15 c16
              go_wp2_with fail
              go_meet
              exact ⟨rfl, _, HG⟩
          case rest =>
            obtain ⟨rfl, vg, HR2⟩ := hcut
            have c18 := cells_of_block HR2.out.blk 18 vg rfl
            clear HR hA2 HP c13 c14 c15 c16 hbu
            go_wp2
            go_ret2
            exact ⟨⟨vg, rfl, HR2.out.own.low (by have := HB1.out.size; omega)⟩, HBX.out _ HR2.out.bel⟩
end Go.Proofs.Ytdclofiifcpkkaa
