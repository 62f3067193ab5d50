
/-
  step's walk.
-/
import Derived.Test.YthkpcafbfgfjpaaDoorFsJ
set_option linter.unusedVariables false
namespace Go.Proofs.YthkpcafbfgfjpaaDoor
open Go.RowKit Go.PlainAid
/-- A file system that lies apart from a block. -/
structure FsX (w : World) (B F M : Nat) (v : Value) (l : List Nd) (X : Nat) : Prop where
  fs : FsAt w B F M v l
  ne : X ≠ F ∧ X ≠ M ∧ v.ownBlock ≠ some X
  hd : ∀ n ∈ l, Src w (fun k => (k < B ∨ k = F ∨ k = M ∨ v.ownBlock = some k) ∨ k = X) n.vd n.data
theorem FsX.turn {w w' : World} {B F M : Nat} {v : Value} {l : List Nd} {X : Nat} (h : FsX w B F M v l X) (ht : Turn (· = X) w w') : FsX w' B F M v l X :=
  ⟨h.fs.turn ht h.ne h.hd, h.ne, fun n hn => (h.hd n hn).turn (ht.mono (fun k _ e => .inr e))⟩
theorem FsX.stay {w w' : World} {B F M : Nat} {v : Value} {l : List Nd} {X : Nat} (h : FsX w B F M v l X) (hb : Below w.heap.size w w') : FsX w' B F M v l X := h.turn (Turn.of_below hb)
theorem WayAt.stay {w w' : World} {X F : Nat} {vl : Value} {s : Way} (h : WayAt w X F vl s) (hb : Below w.heap.size w w') : WayAt w' X F vl s :=
  ⟨by rw [hb.block X (Array.getElem?_eq_some_iff.1 h.box).1]; exact h.box, h.row.turn (Turn.of_below hb), h.names, h.few⟩
theorem WayAt.to {w : World} {X F : Nat} {vl : Value} {s : Way} (h : WayAt w X F vl s) (p : Nat) : WayAt (w.setCell ⟨X, 1, none⟩ (.int .i64 (p : Nat))) X F vl ⟨p, s.left, s.links⟩ :=
  ⟨by rw [heap_setCell_at w X 1 _ _ _ _ h.box]; rfl, h.row.turn (Turn.setCell w ⟨X, 1, none⟩ _), h.names, h.few⟩
theorem WayAt.rest {w : World} {X F : Nat} {vl vr : Value} {p k : Nat} {n : List UInt8} {r : List (List UInt8)} (h : WayAt w X F vl ⟨p, n :: r, k⟩) (hr : SrcS w (· = X) vr r) : WayAt (w.setCell ⟨X, 2, none⟩ vr) X F vr ⟨p, r, k⟩ :=
  ⟨by rw [heap_setCell_at w X 2 _ _ _ _ h.box]; rfl, hr.turn (Turn.setCell w ⟨X, 2, none⟩ _), fun m hm => h.names m (List.mem_cons_of_mem _ hm), by have := h.few; simp at this ⊢; omega⟩
theorem NdH {w : World} {n : Nd} {da : Option Addr} {dn dc : Nat} (hvd : n.vd = .slice da dn dc) : XH (w.alloc (.cells #[.string n.path, .int .i64 n.kind, .slice da dn dc, .string n.to] 40)) w.heap.size n := by
  have := XH.new w n
  unfold Nd.cells at this
  rw [hvd] at this
  exact this
theorem vfs_below' (w : World) (d n : ByteArray) (hd : d.size ≤ 40000) (hn : n.size ≤ 40000) : Calls Tryd.prog 52 #[.string d, .string n] w fun e w' => e = .returned (.string (tx (belowOf d.data.toList n.data.toList))) ∧ w' = w :=
  (vfs_below w d n hd hn).mono fun e w' h => ⟨h.1, h.2.symm⟩
theorem heap_cell_set {w : World} {X j i : Nat} {u : Value} {cur : Array Value} {t : TypeId} (h : w.heap[X]? = some (.cells cur t (0, 0))) : (w.setCell ⟨X, j, none⟩ u).cell? ⟨X, i, none⟩ = (cur.setIfInBounds j u)[i]? := by
  unfold World.cell?
  rw [heap_setCell_at w X j u cur t _ h]
  rfl
set_option maxHeartbeats 8000000 in
set_option maxRecDepth 20000 in
theorem vfs_step (w : World) (hm : Mx w) (B F M : Nat) (v : Value) (l : List Nd) (X : Nat) (hX : X ≠ 0) (hf : FsX w B F M v l X) (vl : Value) (p k : Nat) (n : List UInt8) (r : List (List UInt8)) (h : WayAt w X F vl ⟨p, n :: r, k⟩) (hp : p < l.length) (hk : k ≤ 8) (hfew : r.length ≤ 50000) :
    Calls Tryd.prog 38 #[.pointer (some ⟨X, 0, none⟩)] w fun e w' => e = .returned (.int .i64 (stepW l n ⟨p, r, k⟩).1) ∧ Turn (· = X) w w' ∧ ((stepW l n ⟨p, r, k⟩).1 = 0 → ∃ vl', WayAt w' X F vl' (stepW l n ⟨p, r, k⟩).2) := by
  obtain ⟨g0, o0, cap0, rfl, hc1, hc2, hn0, A, hA, hrest⟩ := h.row.tail
  obtain ⟨g, cap, rfl, C⟩ := hf.fs.cells
  have HST : Hid (stepW l n ⟨p, r, k⟩ = if kindAt l p = 2 then (65, ⟨p, r, k⟩) else if n = [46, 46] then (0, ⟨numOf (pathsOf l) (upOf (pathAt l p)), r, k⟩) else if isIn (pathsOf l) (belowOf (pathAt l p) n) = false then (63, ⟨p, r, k⟩) else if kindAt l (numOf (pathsOf l) (belowOf (pathAt l p) n)) = 3 then followW (toAt l (numOf (pathsOf l) (belowOf (pathAt l p) n))) ⟨p, r, k⟩ else (0, ⟨numOf (pathsOf l) (belowOf (pathAt l p) n), r, k⟩)) := rfl
  have hcap2 : cap ≤ 9223372036854775807 := by have := C.cap2; unfold maxLen at this; omega
  have hcap02 : cap0 ≤ 9223372036854775807 := by unfold maxLen at hc2; omega
  have hpI : (p : Int) < (l.length : Int) := by omega
  have hkd := kindAt_of hp
  have hpa := pathAt_of hp
  have hkn := hf.fs.knd _ (List.getElem_mem hp)
  have hdt := hf.fs.dat _ (List.getElem_mem hp)
  have q0 := C.c0 p hp
  have q1 := C.c1 p hp
  have q2 := C.c2 p hp
  have q3 := C.c3 p hp
  have qa := C.a0
  obtain ⟨nd, hnd⟩ : ∃ nd, l[p]'hp = nd := ⟨_, rfl⟩
  rw [hnd] at hkd hpa hkn hdt q0 q1 q2 q3
  clear hnd
  obtain ⟨hk4, hps, hts⟩ := hkn
  obtain ⟨da, dc, hvd, _, _, _⟩ := hdt
  rw [hvd] at q2
  have hsm := hf.fs.small
  obtain ⟨x0, x1, x2, x3, f1, f2, f3⟩ := way_cells (s := ⟨p, n :: r, k⟩) h.box
  dsimp only at x1 x3
  rw [hkd, hpa] at HST
  generalize stepW l n ⟨p, r, k⟩ = R at *
  have DD : w.drew.cell? ⟨X, 0, none⟩ = some (.pointer (some ⟨F, 0, none⟩)) ∧ w.drew.cell? ⟨X, 1, none⟩ = some (.int .i64 (p : Nat)) ∧ w.drew.cell? ⟨F, 0, none⟩ = some (.slice (some ⟨g, 0, none⟩) l.length cap) ∧ w.drew.cell? ⟨g, p * 4, none⟩ = some (.string nd.path) ∧ w.drew.cell? ⟨g, p * 4 + 1, none⟩ = some (.int .i64 nd.kind) ∧ w.drew.cell? ⟨g, p * 4 + 2, none⟩ = some (.slice da nd.data.length dc) ∧ w.drew.cell? ⟨g, p * 4 + 3, none⟩ = some (.string nd.to) := ⟨x0, x1, qa, q0, q1, q2, q3⟩
  have GA : ∀ o, (w.drew.alloc o).cell? ⟨X, 0, none⟩ = some (.pointer (some ⟨F, 0, none⟩)) ∧ (w.drew.alloc o).cell? ⟨X, 1, none⟩ = some (.int .i64 (p : Nat)) ∧ (w.drew.alloc o).cell? ⟨F, 0, none⟩ = some (.slice (some ⟨g, 0, none⟩) l.length cap) ∧ (w.drew.alloc o).cell? ⟨g, p * 4, none⟩ = some (.string nd.path) ∧ (w.drew.alloc o).cell? ⟨g, p * 4 + 1, none⟩ = some (.int .i64 nd.kind) ∧ (w.drew.alloc o).cell? ⟨g, p * 4 + 2, none⟩ = some (.slice da nd.data.length dc) ∧ (w.drew.alloc o).cell? ⟨g, p * 4 + 3, none⟩ = some (.string nd.to) := fun o => by
    obtain ⟨d0, d1, d2, d3, d4, d5, d6⟩ := DD
    have e : ∀ (q : Addr) (u : Value), w.drew.cell? q = some u → (w.drew.alloc o).cell? q = some u := fun q u hq => by rw [World.cell?_alloc_lt _ _ _ (World.block_lt_of_cell? _ _ hq)]; exact hq
    exact ⟨e _ _ d0, e _ _ d1, e _ _ d2, e _ _ d3, e _ _ d4, e _ _ d5, e _ _ d6⟩
  have HW := hide h
  have HF := hide hf
  have HM := hide hm
  have HRS := hide hrest
  have HY : Hid (XH ((w.alloc (.cells #[.string nd.path, .int .i64 nd.kind, .slice da nd.data.length dc, .string nd.to] 40)).drew) w.heap.size nd) := XH.heap (NdH hvd) rfl
  have HBY : Hid (Below w.heap.size w ((w.alloc (.cells #[.string nd.path, .int .i64 nd.kind, .slice da nd.data.length dc, .string nd.to] 40)).drew)) := (below_box w _).drew
  obtain ⟨d0, d1, d2, d3, d4, d5, d6⟩ := id DD
  clear h hf hm hrest C hkd hpa x0 x1 x2 x3 f1 f2 f3 q0 q1 q2 q3 qa
  go_enter Tryd.func38, Tryd.ntmps38
  go_wp2_with fail
  go_region_held_law (fun w' => w'.cell? ⟨X, 0, none⟩ = some (.pointer (some ⟨F, 0, none⟩)) ∧ w'.cell? ⟨X, 1, none⟩ = some (.int .i64 (p : Nat)) ∧ w'.cell? ⟨F, 0, none⟩ = some (.slice (some ⟨g, 0, none⟩) l.length cap) ∧ w'.cell? ⟨g, p * 4, none⟩ = some (.string nd.path) ∧ w'.cell? ⟨g, p * 4 + 1, none⟩ = some (.int .i64 nd.kind) ∧ w'.cell? ⟨g, p * 4 + 2, none⟩ = some (.slice da nd.data.length dc) ∧ w'.cell? ⟨g, p * 4 + 3, none⟩ = some (.string nd.to))
    (first | with_reducible assumption | with_reducible exact GA _ | exact GA _)
    (fail)
  have HW1 := hide (HW.out.stay HBY.out)
  have HF1 := hide (HF.out.stay HBY.out)
  have HM1 := hide (HM.out.below HBY.out)
  have HR1 := hide (HRS.out.turn (Turn.of_below HBY.out))
  have HN1 : Hid (((w.alloc (.cells #[.string nd.path, .int .i64 nd.kind, .slice da nd.data.length dc, .string nd.to] 40)).drew).cell? ⟨g0, o0, none⟩ = some (.string (tx n))) := (Turn.of_below (F := fun _ => False) HBY.out).cell (p := ⟨g0, o0, none⟩) id hn0
  have HXY : Hid (X ≠ w.heap.size) := fun e => by
    have := (Array.getElem?_eq_some_iff.1 HW.out.box).1
    omega
  clear d0 d1 d2 d3 d4 d5 d6 DD GA HW HF HM HRS hn0
  generalize (w.alloc (.cells #[.string nd.path, .int .i64 nd.kind, .slice da nd.data.length dc, .string nd.to] 40)).drew = w1 at *
  obtain ⟨x0, x1, x2, x3, f1, f2, f3⟩ := way_cells (s := ⟨p, n :: r, k⟩) HW1.out.box
  dsimp only at x1 x3
  obtain ⟨y0, y1, y2, y3, _⟩ := HY.out.cells
  rw [hvd] at y2
  have hn1 := HN1.out
  by_cases hk2 : nd.kind = 2
  · rw [if_pos hk2] at HST
    have hkb : (nd.kind == 2) = true := by rw [hk2]; rfl
    clear hk2
    go_wp2
    go_ret
    exact ⟨by rw [HST.out]; rfl, Turn.of_below HBY.out, fun e => by rw [HST.out] at e; cases e⟩
  rw [if_neg hk2] at HST
  have hkb : (nd.kind == 2) = false := beq_eq_false_iff_ne.2 hk2
  have T2 : Hid (Turn (· = X) w1 (w1.setCell ⟨X, 2, none⟩ (.slice (some A) r.length (cap0 - 1)))) := Turn.setCell w1 ⟨X, 2, none⟩ _
  have HW2 := hide (HW1.out.rest HR1.out)
  have hdd : ((tx n).toList == [46, 46]) = decide (n = [46, 46]) := by
    rw [tx_list]
    by_cases e : n = [46, 46]
    · subst e; rfl
    · rw [beq_eq_false_iff_ne.2 e, decide_eq_false e]
  have c1 : 1 ≤ cap0 := by omega
  have i1 : (0 : Int) < (r.length : Int) + 1 := by omega
  have hnl : n.length ≤ 4096 := HW1.out.names n List.mem_cons_self
  have HNP : Hid (nd.path.data.toList.length ≤ 4096) := by unfold Hid; rw [← size_list]; exact hps
  by_cases hdot : n = [46, 46]
  · rw [if_pos hdot] at HST
    rw [decide_eq_true hdot] at hdd
    clear hk2 hdot
    go_wp2_with fail
    have HF2 := hide (HF1.out.turn T2.out)
    have HY2 := hide (HY.out.heap (T2.out.block _ HY.out.lt (fun e => HXY.out e.symm)))
    clear x0 x1 x2 x3 f1 f2 f3 y0 y1 y2 y3 hn1 HW1 HF1 HR1 HN1 HY
    generalize w1.setCell ⟨X, 2, none⟩ (.slice (some A) r.length (cap0 - 1)) = w2 at *
    have bd : Below w2.heap.size w2 w2.drew := ⟨rfl, rfl, rfl, Nat.le_refl _, fun _ _ => rfl⟩
    have hU := path_Up nd.path w2.drew (by omega)
    have hget := (HF2.out.stay bd).fs.map.get (tx (upOf nd.path.data.toList)) (by rw [tx_size]; have := upOf_len nd.path.data.toList; have := HNP.out; unfold maxLen; omega)
    rw [data_tx] at hget
    have HW3 := hide ((HW2.out.stay bd).to (numOf (pathsOf l) (upOf nd.path.data.toList)))
    have HT3 : Hid (Turn (· = X) w (w2.drew.setCell ⟨X, 1, none⟩ (.int .i64 (numOf (pathsOf l) (upOf nd.path.data.toList) : Nat)))) := (Turn.of_below HBY.out).trans (T2.out.trans ((Turn.of_below bd).trans (Turn.setCell w2.drew ⟨X, 1, none⟩ _)))
    obtain ⟨x0, x1, x2, x3, f1, f2, f3⟩ := way_cells (s := ⟨p, r, k⟩) (HW2.out.stay bd).box
    obtain ⟨z0, z1, z2⟩ := cell_of_head (HF2.out.stay bd).fs.head
    have y0 := (HY2.out.heap (W' := w2.drew) rfl).cells.c0
    have DD := And.intro x0 (And.intro z1 y0)
    have hXF := HF2.out.ne.1
    have hXY := HXY.out
    generalize numOf (pathsOf l) (upOf nd.path.data.toList) = kn at *
    generalize tx (upOf nd.path.data.toList) = up at *
    have EE : ∀ u, (w2.drew.setCell ⟨X, 1, none⟩ u).cell? ⟨X, 0, none⟩ = some (.pointer (some ⟨F, 0, none⟩)) ∧ (w2.drew.setCell ⟨X, 1, none⟩ u).cell? ⟨F, 1, none⟩ = some (.map (some M)) ∧ (w2.drew.setCell ⟨X, 1, none⟩ u).cell? ⟨w.heap.size, 0, none⟩ = some (.string nd.path) := fun u =>
      ⟨by rw [heap_cell_set (HW2.out.stay bd).box]; rfl, by rw [World.cell?_of_block (a := ⟨F, 1, none⟩) (Below.heap_setCell _ _ _ _ (fun e => hXF e.symm))]; exact z1, by rw [World.cell?_of_block (a := ⟨w.heap.size, 0, none⟩) (Below.heap_setCell _ _ _ _ (fun e => hXY e.symm))]; exact y0⟩
    clear bd x2 x3 f2 f3 z0 z2
    go_region_held_law (fun w' => w'.cell? ⟨X, 0, none⟩ = some (.pointer (some ⟨F, 0, none⟩)) ∧ w'.cell? ⟨F, 1, none⟩ = some (.map (some M)) ∧ w'.cell? ⟨w.heap.size, 0, none⟩ = some (.string nd.path))
      (first | with_reducible assumption | with_reducible exact EE _ | exact EE _)
      (first | (go_at_call 19; refine hU.mono ?_; rintro e W ⟨rfl, hw⟩; rw [hw]; clear hw))
    all_goals
      go_wp2
      go_ret
      exact ⟨by rw [HST.out]; rfl, HT3.out, fun _ => ⟨_, by rw [HST.out]; exact HW3.out⟩⟩
  · rw [if_neg hdot] at HST
    rw [decide_eq_false hdot] at hdd
    clear hk2 hdot
    go_wp2_with fail
    have HF2 := hide (HF1.out.turn T2.out)
    have HY2 := hide (HY.out.heap (T2.out.block _ HY.out.lt (fun e => HXY.out e.symm)))
    have HM2 := hide (HM1.out.turn T2.out hX)
    clear x0 x1 x2 x3 f1 f2 f3 y0 y1 y2 y3 hn1 HW1 HF1 HR1 HN1 HY HM1
    generalize w1.setCell ⟨X, 2, none⟩ (.slice (some A) r.length (cap0 - 1)) = w2 at *
    have hBl := fun q => vfs_below' (w2.drewN q) nd.path (tx n) (by omega) (by rw [tx_size]; omega)
    rw [data_tx] at hBl
    have hbl : (tx (belowOf nd.path.data.toList n)).size ≤ maxLen := by
      rw [tx_size]
      have h1 := HNP.out
      have : (belowOf nd.path.data.toList n).length ≤ nd.path.data.toList.length + n.length + 1 := by unfold belowOf; split <;> simp <;> omega
      unfold maxLen
      omega
    have hlook := fun q => (HF2.out.stay (below_drewN w2 q)).fs.map.ok (tx (belowOf nd.path.data.toList n)) hbl
    rw [data_tx] at hlook
    obtain ⟨x0, x1, x2, x3, f1, f2, f3⟩ := way_cells (s := ⟨p, r, k⟩) HW2.out.box
    obtain ⟨z0, z1, z2⟩ := cell_of_head HF2.out.fs.head
    have y0 := HY2.out.cells.c0
    cases hin : isIn (pathsOf l) (belowOf nd.path.data.toList n) with
    | false =>
      rw [if_pos hin] at HST
      simp only [hin] at hlook
      clear hin hbl
      generalize numOf (pathsOf l) (belowOf nd.path.data.toList n) = kn at *
      generalize tx (belowOf nd.path.data.toList n) = bw at *
      go_quiet ((go_at_call 52; exact Calls.quiet_of_same (hBl _)))
      go_wp2
      go_ret
      exact ⟨by rw [HST.out]; rfl, (Turn.of_below HBY.out).trans (T2.out.trans (Turn.of_below (below_drewN w2 _))), fun e => by rw [HST.out] at e; cases e⟩
    | true =>
      rw [if_neg (by rw [hin]; simp)] at HST
      simp only [hin] at hlook
      obtain ⟨hkl, _⟩ := isIn_get hin
      rw [pathsOf_len] at hkl
      clear hin hbl
      generalize numOf (pathsOf l) (belowOf nd.path.data.toList n) = kn at *
      generalize tx (belowOf nd.path.data.toList n) = bw at *
      go_quiet ((go_at_call 52; exact Calls.quiet_of_same (hBl _)))
      have HF3 := hide (HF2.out.stay (below_drewN w2 nq))
      have HW3 := hide (HW2.out.stay (below_drewN w2 nq))
      have HM3 := hide (HM2.out.below (below_drewN w2 nq))
      have HT3 : Hid (Turn (· = X) w (w2.drewN nq)) := (Turn.of_below HBY.out).trans (T2.out.trans (Turn.of_below (below_drewN w2 _)))
      clear x0 x1 x2 x3 f1 f2 f3 z0 z1 z2 y0 hBl hlook HF2 HW2 HM2 HY2 T2
      generalize w2.drewN nq = w3 at *
      obtain ⟨g', cap', hge, C⟩ := HF3.out.fs.cells
      injection hge with e1 e2 e3
      injection e1 with e1
      injection e1 with e1
      subst e1 e3
      have hkd := kindAt_of hkl
      have hta := toAt_of hkl
      have hkn := HF3.out.fs.knd _ (List.getElem_mem hkl)
      have hdt := HF3.out.fs.dat _ (List.getElem_mem hkl)
      have q0 := C.c0 kn hkl
      have q1 := C.c1 kn hkl
      have q2 := C.c2 kn hkl
      have q3 := C.c3 kn hkl
      have qa := C.a0
      obtain ⟨me, hme⟩ : ∃ me, l[kn]'hkl = me := ⟨_, rfl⟩
      rw [hme] at hkd hta hkn hdt q0 q1 q2 q3
      obtain ⟨ea, ec, hve, _, _, _⟩ := hdt
      rw [hve] at q2
      have hkI : (kn : Int) < (l.length : Int) := by omega
      obtain ⟨x0, x1, x2, x3, f1, f2, f3⟩ := way_cells (s := ⟨p, r, k⟩) HW3.out.box
      rw [hkd, hta] at HST
      have hto := hkn.2.2
      clear C hme hkd hta hkn e2
      have hbz := below_box w3 (.cells #[.string me.path, .int .i64 me.kind, .slice ea me.data.length ec, .string me.to] 40)
      have HF4 := hide (HF3.out.stay hbz)
      have HW4 := hide (HW3.out.stay hbz)
      have HM4 := hide (HM3.out.below hbz)
      have HT4 := hide (HT3.out.trans (Turn.of_below hbz))
      obtain ⟨v0, v1, v2, v3, e1, e2, e3⟩ := way_cells (s := ⟨p, r, k⟩) HW4.out.box
      clear hbz
      by_cases hk3 : me.kind = 3
      · rw [if_pos hk3] at HST
        have hk3b : (me.kind == 3) = true := by rw [hk3]; rfl
        have hFo := vfs_follow _ HM4.out X F A r.length (cap0 - 1) ⟨p, r, k⟩ HW4.out hX me.to hto hk hfew
        clear hk3
        go_wp2_with fail
        refine hFo.mono ?_
        rintro e w5 ⟨rfl, ht5, hw5⟩
        have HT5 := hide (HT4.out.trans ht5)
        have HW5 := hide hw5
        clear hFo ht5 hw5
        go_wp2
        go_ret
        exact ⟨by rw [HST.out]; rfl, HT5.out, fun e => by rw [HST.out] at e ⊢; exact HW5.out e⟩
      · rw [if_neg hk3] at HST
        have hk3b : (me.kind == 3) = false := beq_eq_false_iff_ne.2 hk3
        have HW5 := hide (HW4.out.to kn)
        have HT5 := hide (HT4.out.trans (Turn.setCell _ ⟨X, 1, none⟩ (.int .i64 (kn : Nat))))
        clear hk3
        go_wp2
        go_ret
        exact ⟨by rw [HST.out]; rfl, HT5.out, fun _ => ⟨_, by rw [HST.out]; exact HW5.out⟩⟩
end Go.Proofs.YthkpcafbfgfjpaaDoor
