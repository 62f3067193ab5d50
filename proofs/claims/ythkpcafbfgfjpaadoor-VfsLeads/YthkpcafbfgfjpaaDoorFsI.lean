
/-
  follow keeps its contract.
-/
import Derived.Test.YthkpcafbfgfjpaaDoorFsH
set_option linter.unusedVariables false
namespace Go.Proofs.YthkpcafbfgfjpaaDoor
open Go.RowKit Go.PlainAid
/-- append of texts to a row that is owned, as a step of a region that draws. -/
theorem step_append_txt {ops : Array Oper} {o : Oper} {a : Act} {W : World} {K : Act → World → Prop} {Q : Exit → Act → World → Prop} {E : Prop} (hgd : o.guard = none) (s x : Operand)
    (ho : o.op = .call { callee := .builtin .append, args := #[s, x], argTypes := #[41, 41] })
    (B : Nat) (v : Value) (acc : List (List UInt8)) (hown : OwnS W B v (acc.map tx)) (hs : a.eval s = v) (y : Addr) (m c : Nat) (l : List (List UInt8)) (F : Nat → Prop)
    (hsrc : SrcS W F (.slice (some y) m c) l) (hx : a.eval x = .slice (some y) m c) (hl1 : acc.length ≤ 100000) (hl2 : l.length ≤ 100000) (hB : B ≤ W.heap.size)
    (h : ∀ v' w', OwnS w' B v' ((acc ++ l).map tx) → W.grownBy w' v.ownBlock → K (a.put o.dst v') w') :
    if Region.wanted o (yielded ops a.tmps) = true then Oper.wp Tryd.prog o a W K Q else E := by
  have hw : Region.wanted o (yielded ops a.tmps) = true := by simp [Region.wanted, hgd]
  rw [if_pos hw]
  obtain ⟨i, hi, hz0, hz1, hz2⟩ := info_parts Tryd.infoS
  obtain ⟨ya, yc, e, h1, h2, h3⟩ := hsrc
  injection e with e1 e2 e3
  subst e1 e2 e3
  unfold OwnS at hown
  rw [List.length_map, List.map_map] at hown
  obtain ⟨v', w', hr, h5, h6, _⟩ := run_append_own_wide (P := Tryd.prog) W B 41 o.type 9 i (.string ByteArray.empty) 1 16 Tryd.underlying41 hi hz0 hz1 hz2 rfl (by decide) v acc.length _ hown y l.length c (l.map (Value.string ∘ tx)) (by simp) (fun j u hj => by
      rcases h3 with rfl | ⟨g, q, e, _, hc⟩
      · simp at hj
      · have e := Option.some.inj e
        subst e
        obtain ⟨hj1, hj2⟩ := List.getElem?_eq_some_iff.1 hj
        rw [List.length_map] at hj1
        rw [Addr.add_mid, hc j hj1, ← hj2]; simp) (fun u hu => by obtain ⟨z, _, rfl⟩ := List.mem_map.1 hu; rfl) (by unfold maxLen; omega) (by omega) hB
  unfold Oper.wp execOp
  simp only [ho, resolve, invoke, builtin, Sem.run_bind, Sem.run_pure, Result.andThen_ok, List.map_toArray, List.map_cons, List.map_nil, hs, hx, hr]
  refine h v' w' ?_ h6
  unfold OwnS
  rw [List.length_map, List.length_append, List.map_map, List.map_append]
  exact h5
theorem OwnS.sl {w : World} {B : Nat} {v : Value} {l : List ByteArray} (h : OwnS w B v l) : ∃ a n cap, v = .slice a n cap := by
  obtain ⟨a, cap, e⟩ := h.slice
  exact ⟨a, _, cap, e⟩
theorem Mx.turn {w w' : World} {X : Nat} (h : Mx w) (ht : Turn (· = X) w w') (hX : X ≠ 0) : Mx w' := by
  obtain ⟨m, hm⟩ := h
  exact ⟨m, ht.cell (p := ⟨0, 0, none⟩) (fun e => hX e.symm) hm⟩
theorem cell4 {W : World} {X : Nat} {a b c d : Value} {t : TypeId} (h : W.heap[X]? = some (.cells #[a, b, c, d] t (0, 0))) : W.cell? ⟨X, 2, none⟩ = some c ∧ W.frozen? ⟨X, 2, none⟩ = false := by
  constructor <;> simp [World.cell?, World.frozen?, h]
theorem follow_box {W1 W' : World} {X B : Nat} {o : Obj} {v1 : Value} {l : List ByteArray} (h : W1.heap[X]? = some o) (o1 : OwnS W1 B v1 l) (g2 : W1.grownBy W' v1.ownBlock) (hX : X < B) : W'.heap[X]? = some o := by
  rw [g2.block X (Array.getElem?_eq_some_iff.1 h).1 (fun e => by have := (World.ownsRow.lt o1 X e.symm).1; omega)]; exact h
/-- Where both ways of the region end. -/
theorem follow_fin {w w2 W1 W' : World} {X F : Nat} {vl v1 v' : Value} {s : Way} {p : Nat} {to : List UInt8} (h : WayAt w X F vl s) (hto : to.length ≤ 4096) (hfew : s.left.length ≤ 50000)
    (b2 : w2.heap[X]? = some (.cells #[.pointer (some ⟨F, 0, none⟩), .int .i64 (p : Nat), vl, .int .i64 ((s.links + 1 : Nat) : Int)] 72 (0, 0))) (t2 : Turn (· = X) w w2) (b1 : Below w2.heap.size w2 W1)
    (o1 : OwnS W1 w2.heap.size v1 ((names to).map tx)) (o2 : OwnS W' w2.heap.size v' ((names to ++ s.left).map tx)) (g2 : W1.grownBy W' v1.ownBlock) :
    Turn (· = X) w (W'.setCell ⟨X, 2, none⟩ v') ∧ WayAt (W'.setCell ⟨X, 2, none⟩ v') X F v' ⟨p, names to ++ s.left, s.links + 1⟩ := by
  have hXl := (Array.getElem?_eq_some_iff.1 b2).1
  have t3 : Turn (fun k => w2.heap.size ≤ k) W1 W' := Turn.of_grown g2 (fun k e => (World.ownsRow.lt o1 k e).1)
  have b3 : Below w2.heap.size w2 W' := b1.trans (t3.below b1.size (fun k e => e))
  have hX' : W'.heap[X]? = some (.cells #[.pointer (some ⟨F, 0, none⟩), .int .i64 (p : Nat), vl, .int .i64 ((s.links + 1 : Nat) : Int)] 72 (0, 0)) := by rw [b3.block X hXl]; exact b2
  have ts : Turn (· = X) W' (W'.setCell ⟨X, 2, none⟩ v') := Turn.setCell W' ⟨X, 2, none⟩ v'
  have hn := names_len to
  refine ⟨t2.trans ((Turn.of_below b3).trans ts), ?_, (OwnS.src o2 (F := (· = X)) (fun k hk e => by omega)).turn ts, fun n hm => ?_, ?_⟩
  · rw [heap_setCell_at W' X 2 v' _ _ _ hX']; rfl
  · rcases List.mem_append.1 hm with hm | hm
    · have := name_len to n hm; omega
    · exact h.names n hm
  · rw [List.length_append]
    show _ ≤ 60000
    omega
set_option maxHeartbeats 4000000 in
set_option maxRecDepth 20000 in
theorem vfs_follow (w : World) (hm : Mx w) (X F : Nat) (y : Addr) (m c : Nat) (s : Way) (h : WayAt w X F (.slice (some y) m c) s) (hX : X ≠ 0) (to : ByteArray) (hto : to.size ≤ 4096) (hk : s.links ≤ 8) (hfew : s.left.length ≤ 50000) :
    Calls Tryd.prog 53 #[.pointer (some ⟨X, 0, none⟩), .string to] w fun e w' => e = .returned (.int .i64 (followW to.data.toList s).1) ∧ Turn (· = X) w w' ∧ ((followW to.data.toList s).1 = 0 → ∃ vl', WayAt w' X F vl' (followW to.data.toList s).2) := by
  have HW := hide h
  have HM := hide hm
  obtain ⟨c0, c1, c2, c3, f1, f2, f3⟩ := way_cells h.box
  have hXl : X < w.heap.size := (Array.getElem?_eq_some_iff.1 h.box).1
  by_cases h8 : s.links = 8
  · have hF : followW to.data.toList s = (64, s) := by unfold followW; rw [if_pos h8]
    rw [hF]
    have h8b : ((s.links : Int) == 8) = true := by rw [h8]; rfl
    clear h h8 hF
    go_enter Tryd.func53, Tryd.ntmps53
    go_wp2
    go_ret
    exact ⟨rfl, ⟨rfl, rfl, rfl, Nat.le_refl _, fun _ _ _ => rfl⟩, fun e => by cases e⟩
  · have HF : Hid (followW to.data.toList s = (0, ⟨if Lib.hasPrefix to.data.toList [47] then 0 else s.pos, names to.data.toList ++ s.left, s.links + 1⟩)) := by unfold Hid followW; rw [if_neg h8]
    rw [HF.out]
    have h8b : ((s.links : Int) == 8) = false := by rw [beq_eq_false_iff_ne]; omega
    have hH := fun w => Tryd.strings_HasPrefix to ⟨#[47]⟩ w
    rw [show (⟨#[47]⟩ : ByteArray).data.toList = [47] from rfl] at hH
    have ew : IntKind.i64.wrap ((s.links : Int) + 1) = (s.links : Int) + 1 := IntWalk.i64_in _ (by omega)
    have hsl := size_list to
    have HTO : Hid (to.data.toList.length ≤ 4096) := by unfold Hid; rw [← hsl]; exact hto
    clear h hm h8 hsl
    cases hp : Lib.hasPrefix to.data.toList [47] with
    | false =>
      rw [hp] at hH
      have T2 : Hid (Turn (· = X) w (w.setCell ⟨X, 3, none⟩ (.int .i64 ((s.links : Int) + 1)))) := Turn.setCell w ⟨X, 3, none⟩ _
      have B2 : Hid ((w.setCell ⟨X, 3, none⟩ (.int .i64 ((s.links : Int) + 1))).heap[X]? = some (.cells #[.pointer (some ⟨F, 0, none⟩), .int .i64 (s.pos : Nat), .slice (some y) m c, .int .i64 ((s.links + 1 : Nat) : Int)] 72 (0, 0))) := by
        unfold Hid; rw [heap_setCell_at w X 3 _ _ _ _ HW.out.box]; rfl
      go_enter Tryd.func53, Tryd.ntmps53
      go_wp2_with (go_at_call 49; refine (hH _).mono ?_; rintro e w0 ⟨rfl, hw0⟩; rw [hw0]; clear hw0)
      generalize w.setCell ⟨X, 3, none⟩ (.int .i64 ((s.links : Int) + 1)) = w2 at *
      clear c0 c1 c2 c3 f1 f2 f3 hH
      have d2 : w2.cell? ⟨X, 2, none⟩ = some (.slice (some y) m c) := by have := B2.out; simp [World.cell?, this]
      have bd : Below w2.heap.size w2 w2.drew := ⟨rfl, rfl, rfl, Nat.le_refl _, fun _ _ => rfl⟩
      have HP : Hid (∀ W, Below w2.heap.size w2 W → Calls Tryd.prog 37 #[.string to] W fun e W' => ∃ v, e = .returned v ∧ OwnS W' W.heap.size v ((names to.data.toList).map tx) ∧ Below W.heap.size W W') := fun W hW => path_Parts to W ((HM.out.turn T2.out hX).below hW) (by omega)
      have HSR : Hid (∀ W, Below w2.heap.size w2 W → SrcS W (· = X) (.slice (some y) m c) s.left) := fun W hW => (HW.out.row.turn T2.out).turn (Turn.of_below hW)
      have HBX : Hid (∀ W, Below w2.heap.size w2 W → W.heap[X]? = some (.cells #[.pointer (some ⟨F, 0, none⟩), .int .i64 (s.pos : Nat), .slice (some y) m c, .int .i64 ((s.links + 1 : Nat) : Int)] 72 (0, 0))) := fun W hW => by rw [hW.block X (Array.getElem?_eq_some_iff.1 B2.out).1]; exact B2.out
      have HNL : Hid ((names to.data.toList).length ≤ 100000) := by unfold Hid; have := names_len to.data.toList; have := HTO.out; omega
      have BD := hide bd
      clear bd
      go_region_law (first
        | (go_simp; refine (HP.out _ BD.out).mono ?_; rintro e W1 ⟨v1, rfl, ho1, hb1⟩; have HO1 := hide ho1; have HB1 := hide (BD.out.trans hb1); have k2 := (cell4 (HBX.out W1 HB1.out)).1; clear ho1 hb1)
        | (refine step_append_txt rfl (.tmp 24) (.tmp 28) rfl w2.heap.size _ (names to.data.toList) HO1.out rfl y m c s.left (· = X) (HSR.out W1 HB1.out) rfl HNL.out (by omega) HB1.out.size ?_; intro v2 W2 o2 g2; have HO2 := hide o2; have HG2 := hide g2; obtain ⟨z1, z2⟩ := cell4 (follow_box (HBX.out W1 HB1.out) HO1.out HG2.out (Array.getElem?_eq_some_iff.1 B2.out).1); obtain ⟨va, vn, vc, hv2⟩ := HO2.out.sl; subst hv2; clear o2 g2))
      all_goals
        go_wp2
        go_ret
        have fin := follow_fin (p := s.pos) HW.out HTO.out hfew B2.out T2.out HB1.out HO1.out HO2.out HG2.out
        exact ⟨rfl, fin.1, _, fin.2⟩
    | true =>
      rw [hp] at hH
      have T2 : Hid (Turn (· = X) w ((w.setCell ⟨X, 3, none⟩ (.int .i64 ((s.links : Int) + 1))).setCell ⟨X, 1, none⟩ (.int .i64 0))) := (Turn.setCell w ⟨X, 3, none⟩ _).trans (Turn.setCell _ ⟨X, 1, none⟩ _)
      have B2 : Hid (((w.setCell ⟨X, 3, none⟩ (.int .i64 ((s.links : Int) + 1))).setCell ⟨X, 1, none⟩ (.int .i64 0)).heap[X]? = some (.cells #[.pointer (some ⟨F, 0, none⟩), .int .i64 ((0 : Nat) : Int), .slice (some y) m c, .int .i64 ((s.links + 1 : Nat) : Int)] 72 (0, 0))) := by
        unfold Hid; rw [heap_setCell_at _ X 1 _ _ _ _ (heap_setCell_at w X 3 _ _ _ _ HW.out.box)]; rfl
      go_enter Tryd.func53, Tryd.ntmps53
      go_wp2_with (go_at_call 49; refine (hH _).mono ?_; rintro e w0 ⟨rfl, hw0⟩; rw [hw0]; clear hw0)
      generalize (w.setCell ⟨X, 3, none⟩ (.int .i64 ((s.links : Int) + 1))).setCell ⟨X, 1, none⟩ (.int .i64 0) = w2 at *
      clear c0 c1 c2 c3 f1 f2 f3 hH
      have d2 : w2.cell? ⟨X, 2, none⟩ = some (.slice (some y) m c) := by have := B2.out; simp [World.cell?, this]
      have bd : Below w2.heap.size w2 w2.drew := ⟨rfl, rfl, rfl, Nat.le_refl _, fun _ _ => rfl⟩
      have HP : Hid (∀ W, Below w2.heap.size w2 W → Calls Tryd.prog 37 #[.string to] W fun e W' => ∃ v, e = .returned v ∧ OwnS W' W.heap.size v ((names to.data.toList).map tx) ∧ Below W.heap.size W W') := fun W hW => path_Parts to W ((HM.out.turn T2.out hX).below hW) (by omega)
      have HSR : Hid (∀ W, Below w2.heap.size w2 W → SrcS W (· = X) (.slice (some y) m c) s.left) := fun W hW => (HW.out.row.turn T2.out).turn (Turn.of_below hW)
      have HBX : Hid (∀ W, Below w2.heap.size w2 W → W.heap[X]? = some (.cells #[.pointer (some ⟨F, 0, none⟩), .int .i64 ((0 : Nat) : Int), .slice (some y) m c, .int .i64 ((s.links + 1 : Nat) : Int)] 72 (0, 0))) := fun W hW => by rw [hW.block X (Array.getElem?_eq_some_iff.1 B2.out).1]; exact B2.out
      have HNL : Hid ((names to.data.toList).length ≤ 100000) := by unfold Hid; have := names_len to.data.toList; have := HTO.out; omega
      have BD := hide bd
      clear bd
      go_region_law (first
        | (go_simp; refine (HP.out _ BD.out).mono ?_; rintro e W1 ⟨v1, rfl, ho1, hb1⟩; have HO1 := hide ho1; have HB1 := hide (BD.out.trans hb1); have k2 := (cell4 (HBX.out W1 HB1.out)).1; clear ho1 hb1)
        | (refine step_append_txt rfl (.tmp 24) (.tmp 28) rfl w2.heap.size _ (names to.data.toList) HO1.out rfl y m c s.left (· = X) (HSR.out W1 HB1.out) rfl HNL.out (by omega) HB1.out.size ?_; intro v2 W2 o2 g2; have HO2 := hide o2; have HG2 := hide g2; obtain ⟨z1, z2⟩ := cell4 (follow_box (HBX.out W1 HB1.out) HO1.out HG2.out (Array.getElem?_eq_some_iff.1 B2.out).1); obtain ⟨va, vn, vc, hv2⟩ := HO2.out.sl; subst hv2; clear o2 g2))
      all_goals
        go_wp2
        go_ret
        have fin := follow_fin (p := 0) HW.out HTO.out hfew B2.out T2.out HB1.out HO1.out HO2.out HG2.out
        exact ⟨rfl, fin.1, _, fin.2⟩
end Go.Proofs.YthkpcafbfgfjpaaDoor
