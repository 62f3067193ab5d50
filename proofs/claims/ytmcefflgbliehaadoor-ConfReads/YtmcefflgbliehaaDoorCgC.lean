
/-
  Layer 18 (conf): the reference's set.
-/
import Derived.Test.YtmcefflgbliehaaDoorCgB
import Derived.Test.YtmcefflgbliehaaDoorCfP
set_option linter.unusedVariables false
namespace Go.Proofs.YtmcefflgbliehaaDoor
open Go.RowKit Go.PlainAid Go.Sort
theorem infoY : (Tryd.prog.info? 40).map (fun i => (i.zero, i.size, i.bytes)) = some (some (.agg (Sx.cells ⟨[], .slice none 0 0, []⟩).toArray), 2, 40) := by kernel_rfl
/-- append of a property, as an operation of a list. -/
theorem append_q {ops : Array Oper} {rest : List Oper} {o : Oper} {a : Act} {Q : Exit → Act → World → Prop} (hgd : o.guard = none) (s x : Operand)
    (ho : o.op = .call { callee := .builtin .append, args := #[s, x], argTypes := #[29, 29] })
    (B : Nat) (W : World) (v : Value) (l : List Pr) (hown : OwnP 73 W B v l) (n : Pr) (hs : a.eval s = v) (q c : Nat)
    (hx : a.eval x = .slice (some ⟨q, 0, none⟩) 1 c) (hq : ∀ j u, n.cells[j]? = some u → W.cell? ⟨q, j, none⟩ = some u) (hlen : l.length ≤ 100000) (hB : B ≤ W.heap.size)
    (h : ∀ v' w', OwnP 73 w' B v' (l ++ [n]) → W.grownBy w' v.ownBlock → (v'.ownBlock = v.ownBlock ∨ v'.ownBlock = some W.heap.size) → wpList Tryd.prog ops Q rest (a.put o.dst v') w') :
    wpList Tryd.prog ops Q (o :: rest) a W := by
  obtain ⟨i, hi, hz0, hz1, hz2⟩ := info_parts infoQ
  obtain ⟨v', w', hr, h2, h3, h4, h5⟩ := run_append_own_at (P := Tryd.prog) W B 29 o.type 73 i _ 3 40 Tryd.underlying29 hi hz0 hz1 hz2 rfl (by decide) v l.length (flatP l) hown ⟨q, 0, none⟩ 1 c n.cells rfl
    (fun j u hj => by rw [add_at, Nat.zero_add]; exact hq j u hj) n.one (by unfold maxLen; omega) (by omega) hB
  refine wpList_plain hgd fun _ hK => ?_
  unfold Oper.wp execOp
  simp only [ho, resolve, invoke, builtin, Sem.run_bind, Sem.run_pure, Result.andThen_ok, List.map_toArray, List.map_cons, List.map_nil, hs, hx, hr]
  refine hK _ _ (h v' w' ?_ h3 h5)
  unfold OwnP
  rw [List.length_append, flatP_app]
  simpa [flatP] using h2
/-- The property that is told, behind i of the part's. -/
def stP (p NP : Pr) (k i : Nat) : Pr := if k < i then NP else p
/-- The properties of the part then. -/
def stL (l : List Pr) (NP : Pr) (k i : Nat) : List Pr := if k < i then (l.take i).set k NP else l.take i
theorem stL_zero (l : List Pr) (NP : Pr) (k : Nat) : stL l NP k 0 = [] := by unfold stL; rw [if_neg (by omega)]; rfl
theorem stL_len (l : List Pr) (NP : Pr) (k i : Nat) (h : i ≤ l.length) : (stL l NP k i).length = i := by
  unfold stL
  split
  · rw [List.length_set, List.length_take, Nat.min_eq_left h]
  · rw [List.length_take, Nat.min_eq_left h]
theorem take_one {l : List Pr} {i : Nat} (h : i < l.length) : l.take (i + 1) = l.take i ++ [l[i]] := by rw [List.take_add_one, List.getElem?_eq_getElem h]; rfl
theorem stL_ne (l : List Pr) (NP : Pr) (k i : Nat) (h : i < l.length) (hne : i ≠ k) : stL l NP k (i + 1) = stL l NP k i ++ [l[i]] := by
  unfold stL
  by_cases hk : k < i
  · rw [if_pos (by omega), if_pos hk, take_one h, List.set_append_left _ _ (by rw [List.length_take]; omega)]
  · rw [if_neg (by omega), if_neg hk, take_one h]
theorem stL_eq (l : List Pr) (NP : Pr) (k : Nat) (h : k < l.length) : stL l NP k (k + 1) = stL l NP k k ++ [NP] := by
  unfold stL
  rw [if_pos (by omega), if_neg (by omega), take_one h, List.set_append_right _ _ (by rw [List.length_take]; omega), List.length_take, Nat.min_eq_left (Nat.le_of_lt h), Nat.sub_self]
  rfl
theorem stL_end (l : List Pr) (NP : Pr) (k : Nat) : stL l NP k l.length = if k < l.length then l.set k NP else l := by
  unfold stL
  rw [List.take_length]
theorem stP_ne (p NP : Pr) (k i : Nat) (hne : i ≠ k) : stP p NP k (i + 1) = stP p NP k i := by
  unfold stP
  by_cases hk : k < i
  · rw [if_pos (by omega), if_pos hk]
  · rw [if_neg (by omega), if_neg hk]
theorem stP_eq (p NP : Pr) (k : Nat) : stP p NP k (k + 1) = NP ∧ stP p NP k k = p := by
  unfold stP
  exact ⟨by rw [if_pos (by omega)], by rw [if_neg (by omega)]⟩
def zSy : List Value := [.string ⟨#[]⟩, .slice none 0 0]
/-- What holds at each of the part's properties. -/
structure SetAt (w wr : World) (nm0 : ByteArray) (pv : Value) (P : Pr) (v7 : Value) (out : List Pr) : Prop where
  b : Below w.heap.size w wr
  s3 : wr.heap[w.heap.size]? = some (.cells #[.string nm0, pv] 40 (0, 0))
  s4 : wr.heap[w.heap.size + 1]? = some (.cells P.cells.toArray 73 (0, 0))
  s6 : wr.heap[w.heap.size + 2]? = some (.cells zSy.toArray 40 (0, 0))
  o : OwnP 73 wr (w.heap.size + 3) v7 out
theorem SetAt.lt {w wr : World} {nm0 : ByteArray} {pv : Value} {P : Pr} {v7 : Value} {out : List Pr} (h : SetAt w wr nm0 pv P v7 out) : w.heap.size + 3 ≤ wr.heap.size := by
  have := block_lt h.s6; omega
theorem SetAt.turn {w wr w' : World} {nm0 : ByteArray} {pv : Value} {P P' : Pr} {v7 : Value} {out : List Pr} (h : SetAt w wr nm0 pv P v7 out) (ht : Turn (· = w.heap.size + 1) wr w') (h4 : w'.heap[w.heap.size + 1]? = some (.cells P'.cells.toArray 73 (0, 0))) :
    SetAt w w' nm0 pv P' v7 out := by
  have hl := h.lt
  refine ⟨h.b.trans (ht.below (by omega) (fun k hk => by omega)), ?_, h4, ?_, row_keep h.o (fun g hg => ?_)⟩
  · rw [ht.block _ (by omega) (by omega)]; exact h.s3
  · rw [ht.block _ (by omega) (by omega)]; exact h.s6
  · have := World.ownsRow.lt h.o g hg
    exact ht.block g this.2 (by omega)
theorem SetAt.stay {w wr w' : World} {nm0 : ByteArray} {pv : Value} {P : Pr} {v7 : Value} {out : List Pr} (h : SetAt w wr nm0 pv P v7 out) (hb : Below wr.heap.size wr w') : SetAt w w' nm0 pv P v7 out :=
  h.turn (Turn.of_below hb) (block_stay h.s4 hb)
theorem SetAt.grow {w wr w' : World} {nm0 : ByteArray} {pv : Value} {P q : Pr} {v7 v' : Value} {out : List Pr} (h : SetAt w wr nm0 pv P v7 out) (r : OwnP 73 w' (w.heap.size + 3) v' (out ++ [q])) (g : wr.grownBy w' v7.ownBlock) :
    SetAt w w' nm0 pv P v' (out ++ [q]) := by
  have hl := h.lt
  have hf : ∀ j, j < w.heap.size + 3 → w'.heap[j]? = wr.heap[j]? := fun j hj => g.block j (by omega) (fun e => by have := (World.ownsRow.lt h.o j e.symm).1; omega)
  refine ⟨h.b.grown g (by omega) (fun k hk => by have := (World.ownsRow.lt h.o k hk).1; omega), ?_, ?_, ?_, r⟩
  · rw [hf _ (by omega)]; exact h.s3
  · rw [hf _ (by omega)]; exact h.s4
  · rw [hf _ (by omega)]; exact h.s6
theorem sy_size : ∀ w, (Go.sizeOf 40).run Tryd.prog w = .ok 2 w := Tryd.sizeOf40
theorem pq_size : ∀ w, (Go.sizeOf 73).run Tryd.prog w = .ok 3 w := Tryd.sizeOf73
/-- The part's own block is written. -/
theorem SetAt.keep1 {w wr : World} {nm0 : ByteArray} {pv : Value} {P : Pr} {v7 : Value} {out : List Pr} (h : SetAt w wr nm0 pv P v7 out) (j : Nat) (u : Value) :
    (wr.setCell ⟨w.heap.size, j, none⟩ u).heap[w.heap.size + 2]? = some (.cells zSy.toArray 40 (0, 0)) ∧ OwnP 73 (wr.setCell ⟨w.heap.size, j, none⟩ u) (w.heap.size + 3) v7 out ∧ Below w.heap.size w (wr.setCell ⟨w.heap.size, j, none⟩ u) := by
  refine ⟨?_, row_keep h.o (fun g hg => Below.heap_setCell _ _ _ _ (fun e => ?_)), h.b.setCell (Nat.le_refl _) _⟩
  · rw [Below.heap_setCell _ _ _ _ (show w.heap.size + 2 ≠ w.heap.size by omega)]; exact h.s6
  · have e : g = w.heap.size := e
    have := (World.ownsRow.lt h.o g hg).1; omega
/-- What tells the property anew: the property's block is another, the read one's is as it was. -/
theorem SetAt.told {w wr w5 : World} {nm0 : ByteArray} {pv : Value} {P : Pr} {v7 : Value} {out : List Pr} (h : SetAt w wr nm0 pv P v7 out) (q : Array Value) (hb : Below (wr.alloc (.cells q 73)).heap.size (wr.alloc (.cells q 73)) w5) (nv : List UInt8) :
    (w5.setCell ⟨w.heap.size + 1, 1, none⟩ (.string (tx nv))).heap[w.heap.size + 1]? = some (.cells (Pr.cells ⟨P.name, nv, P.line⟩).toArray 73 (0, 0)) ∧
    (w5.setCell ⟨w.heap.size + 1, 1, none⟩ (.string (tx nv))).heap[wr.heap.size]? = some (.cells q 73 (0, 0)) ∧
    Turn (fun k => k = w.heap.size + 1) wr (w5.setCell ⟨w.heap.size + 1, 1, none⟩ (.string (tx nv))) := by
  have hl := h.lt
  have h5 := (h.stay (below_box wr (.cells q 73))).stay hb
  refine ⟨?_, ?_, ?_⟩
  · have := block_set w5 (w.heap.size + 1) 1 (.string (tx nv)) _ _ _ h5.s4
    exact this
  · rw [Below.heap_setCell _ _ _ _ (show wr.heap.size ≠ w.heap.size + 1 by omega)]
    exact block_stay (block_new wr _) hb
  · have t1 : Turn (fun k => k = w.heap.size + 1) wr w5 := (Turn.of_below (below_box wr (.cells q 73))).trans (Turn.of_below hb)
    exact t1.trans (Turn.setCell w5 ⟨w.heap.size + 1, 1, none⟩ _)
/-- The read one's block is written, too. -/
theorem turn_own {wr w1 w' : World} {b : Nat} (h : Turn (fun k => k = b) wr w1) (hg : w1.grownBy w' (some wr.heap.size)) : Turn (fun k => k = b) wr w' := by
  have h1 : Turn (fun k => k = b ∨ k = wr.heap.size) wr w1 := h.mono fun k _ e => .inl e
  have h2 : Turn (fun k => k = b ∨ k = wr.heap.size) w1 w' := Turn.of_grown hg (fun k e => by injection e with e; exact .inr e.symm)
  exact (h1.trans h2).mono fun k hk e => by
    rcases e with e | e
    · exact e
    · omega
theorem new_p2 (W : World) (o : Obj) (v : Pr) (T : TypeId) : ∀ j u, v.cells[j]? = some u → ((W.alloc o).alloc (.cells v.cells.toArray T)).cell? ⟨W.heap.size + 1, j, none⟩ = some u := by
  have := new_p (W.alloc o) v T
  rwa [show (W.alloc o).heap.size = W.heap.size + 1 by simp] at this
set_option maxHeartbeats 4000000 in
set_option maxRecDepth 20000 in
theorem ref18_set (w : World) (nm0 : List UInt8) (pv : Value) (l : List Pr) (h : ArgP w pv l) (hl9 : l.length ≤ 90000) (p : Pr) (more : Bool) (k : Nat) (NP : Pr) (hkn : ∀ j (hj : j < l.length), j = k ↔ l[j].name = p.name)
    (hNP : ∀ (hj : k < l.length), NP = ⟨p.name, newV l[k].value ⟨p.name, p.value, more⟩, p.line⟩) (hNn : NP.name = p.name) (hv : ∀ q ∈ l, q.value.length ≤ 1000000000000) (hpv : p.value.length ≤ 1000000) (hpn : p.name.length ≤ 1000000) :
    Calls Tryd.prog 47 #[.agg #[.string (tx nm0), pv], .agg p.cells.toArray, .bool more] w fun e w' => (∃ pv', e = .returned (.agg #[.string (tx nm0), pv']) ∧ OwnP 73 w' w.heap.size pv' (if k < l.length then l.set k NP else l ++ [p])) ∧ Below w.heap.size w w' := by
  have hb0 := below_box w (.cells #[.string (tx nm0), pv] 40)
  have hb1 := hb0.alloc hb0.size (.cells p.cells.toArray 73)
  have hb2 := hb1.alloc hb1.size (.cells zSy.toArray 40)
  have x3 := block_stay (block_stay (block_new w (.cells #[.string (tx nm0), pv] 40)) (below_box _ (.cells p.cells.toArray 73))) (below_box _ (.cells zSy.toArray 40))
  have x4 := block_stay (block_new (w.alloc (.cells #[.string (tx nm0), pv] 40)) (.cells p.cells.toArray 73)) (below_box _ (.cells zSy.toArray 40))
  have x6 := block_new ((w.alloc (.cells #[.string (tx nm0), pv] 40)).alloc (.cells p.cells.toArray 73)) (.cells zSy.toArray 40)
  rw [show (w.alloc (.cells #[.string (tx nm0), pv] 40)).heap.size = w.heap.size + 1 by simp] at x4
  rw [show ((w.alloc (.cells #[.string (tx nm0), pv] 40)).alloc (.cells p.cells.toArray 73)).heap.size = w.heap.size + 2 by simp] at x6
  have HS0 := hide (show SetAt w _ (tx nm0) pv p (.slice none 0 0) [] from ⟨hb2, x3, x4, x6, OwnP.nil _ _ _⟩)
  have H := hide h
  have HKN := hide hkn
  have HNP := hide hNP
  have HNN := hide hNn
  have HV := hide hv
  have HPV := hide hpv
  have HPN := hide hpn
  have HL9 := hide hl9
  obtain ⟨a, cap, rfl⟩ := h.form
  obtain ⟨R, hR⟩ : ∃ R, (if k < l.length then l.set k NP else l ++ [p]) = R := ⟨_, rfl⟩
  rw [hR]
  have HR := hide hR
  clear h hkn hNP hNn hv hpv hpn hl9 hb0 hb1 hb2 x3 x4 x6 hR
  unfold Pr.cells tx zSy at HS0
  unfold Pr.cells tx
  go_enter Tryd.func47, Tryd.ntmps47
  go_wp2_with fail
  generalize ((w.alloc (.cells #[.string ⟨nm0.toArray⟩, .slice a l.length cap] 40)).alloc (.cells #[.string ⟨p.name.toArray⟩, .string ⟨p.value.toArray⟩, .int .i64 p.line] 73)).alloc (.cells #[.string ⟨#[]⟩, .slice none 0 0] 40) = W3 at *
  go_loopw [7, 8, 9, 10] (fun v7 v8 v9 _ wr => ∃ i : Nat, i ≤ l.length ∧ v9 = .int .i64 i ∧ v8 = .bool (decide (k < i)) ∧ Hid (SetAt w wr ⟨nm0.toArray⟩ (.slice a l.length cap) (stP p NP k i) v7 (stL l NP k i))) (fun _ _ v9 _ _ => l.length - (intOf v9).toNat)
  case atStart =>
    refine ⟨0, by omega, rfl, by simp, ?_⟩
    rw [stL_zero]
    exact HS0.out
  case round =>
    obtain ⟨i, hi, rfl, rfl, HS⟩ := hrel
    have hlt := HS.out.lt
    have c1 := cells_of_block HS.out.s3 1 _ rfl
    have HBL := hide (HS.out.lt)
    obtain ⟨a7, c7, hv7⟩ := row_form HS.out.o
    rw [stL_len l NP k i hi] at hv7
    subst hv7
    by_cases hil : i < l.length
    · have hltI : (i : Int) < (l.length : Int) := by omega
      obtain ⟨g, o, cap', he, hc1, hc2, hg, hcell⟩ := (H.out.below HS.out.b).cells3 i hil
      injection he with he1 he2 he3
      subst he1 he3
      have d0 := (hcell wr (Below.refl _ wr)).1
      have d1 := (hcell wr (Below.refl _ wr)).2.1
      have d2 := (hcell wr (Below.refl _ wr)).2.2
      have hiff := HKN.out i hil
      have hqv := HV.out l[i] (List.getElem_mem hil)
      have HNE : Hid (i ≠ k → stL l NP k (i + 1) = stL l NP k i ++ [l[i]]) := stL_ne l NP k i hil
      have HNQ := hide (fun (e : i = k) => HNP.out (e ▸ hil))
      have hlen := stL_len l NP k i hi
      have HLE : Hid ((stL l NP k i).length ≤ 100000) := by have := HL9.out; rw [Hid, hlen]; omega
      clear hcell hlen
      by_cases hik : i = k
      · subst hik
        obtain ⟨e1, e2⟩ := stP_eq p NP i
        have hqn := hiff.1 rfl
        have hnp := HNQ.out rfl
        have HSL : Hid (stL l NP i (i + 1) = stL l NP i i ++ [NP]) := stL_eq l NP i hil
        rw [e2] at HS
        have HE1 := hide e1
        have hdec : decide (i < i + 1) = true := by simp
        clear hiff HNE HNQ HKN HNP HV e1 e2
        generalize stL l NP i i = L at *
        generalize l[i] = q at *
        obtain ⟨qn, qv, ql⟩ := q
        simp only [] at hqn d0 d1 d2 hqv hnp
        subst hqn
        have y0 : ∀ o, (wr.alloc o).cell? ⟨w.heap.size + 1, 0, none⟩ = some (.string (tx p.name)) := fun o => cells_of_block (HS.out.stay (below_box wr o)).s4 0 _ rfl
        have y1 : ∀ o, (wr.alloc o).cell? ⟨w.heap.size + 1, 1, none⟩ = some (.string (tx p.value)) := fun o => cells_of_block (HS.out.stay (below_box wr o)).s4 1 _ rfl
        have y2 : ∀ o, (wr.alloc o).cell? ⟨w.heap.size + 1, 2, none⟩ = some (.int .i64 p.line) := fun o => cells_of_block (HS.out.stay (below_box wr o)).s4 2 _ rfl
        cases more with
        | false =>
          have hN : NP = p := by
            rw [hnp]; unfold newV; rw [if_neg (by simp)]
          clear hnp
          subst hN
          unfold tx at d0 d1 y0 y1
          go_wp2_with (first
            | ((with_reducible refine at_storeQ (T := 73) ?_); refine store_part rfl _ _ _ rfl wr.heap.size 0 73 _ NP.cells NP.cells.toArray (block_new wr _) rfl rfl pq_size NP.one (Nat.le_refl 3) (by rfl) ?_; intro w4 hg4 hb4; have HT4 := hide (turn_own (b := w.heap.size + 1) (Turn.of_below (below_box wr _)) hb4); have HG4 := hide hg4; have z0 := cells_of_block hg4 0 _ rfl; have z1 := cells_of_block hg4 1 _ rfl; have z2 := cells_of_block hg4 2 _ rfl;
                have HS4 := hide (HS.out.turn HT4.out ((hb4.block _ (by have := HS.out.lt; simp; omega) (by have := HS.out.lt; intro e; injection e with e; omega)).trans (HS.out.stay (below_box wr _)).s4)); have HNX := hide (new_p w4 NP 73); have HSA := hide (fun o => HS4.out.stay (below_box w4 o)); unfold Pr.cells at HNX; unfold tx at z0 z1 HNX; clear hg4 hb4)
            | (refine append_q rfl (.tmp 35) (.tmp 37) rfl (w.heap.size + 3) _ _ L (HSA.out _).o NP rfl _ 1 rfl HNX.out HLE.out (HSA.out _).lt ?_; intro v6 W6 r6 g6 n6; have HR6 := hide ((HSA.out _).grow r6 g6); clear r6 g6 n6))
          go_roundw
          case rel =>
            refine ⟨i + 1, by omega, by go_num, by rw [hdec], ?_⟩
            rw [Hid, HSL.out, HE1.out]
            exact HR6.out
          case measure => simp [intOf]; omega
        | true =>
          have hN : NP = ⟨p.name, toldV qv p.name p.value, p.line⟩ := by
            rw [hnp, ← toldV_new qv ⟨p.name, p.value, true⟩ rfl]
          clear hnp
          have hT := fun w => ref18_told qv p.name p.value p.line w hqv HPV.out (Nat.le_trans HPN.out (by omega))
          generalize toldV qv p.name p.value = nv at *
          subst hN
          unfold tx at d0 d1 y0 y1 hT
          go_wp2_with (first
            | (go_at_call 78; refine (hT _).mono ?_; rintro e w5 ⟨rfl, hb5⟩; have HTD := hide (HS.out.told _ hb5 nv); have u1 := cells_of_block ((HS.out.stay (below_box wr _)).stay hb5).s4 1 _ rfl; have f1 := block_soft ((HS.out.stay (below_box wr _)).stay hb5).s4 1; have t0 := cells_of_block HTD.out.1 0 _ rfl; have t1 := cells_of_block HTD.out.1 1 _ rfl; have t2 := cells_of_block HTD.out.1 2 _ rfl; unfold tx at u1 t0 t1 t2 HTD; clear hb5)
            | ((with_reducible refine at_storeQ (T := 73) ?_); refine store_part rfl _ _ _ rfl wr.heap.size 0 73 _ (Pr.cells ⟨p.name, nv, p.line⟩) (Pr.cells ⟨p.name, nv, p.line⟩).toArray HTD.out.2.1 rfl rfl pq_size (Pr.one _) (Nat.le_refl 3) (by rfl) ?_; intro w4 hg4 hb4; have HT4 := hide (turn_own (b := w.heap.size + 1) HTD.out.2.2 hb4); have z0 := cells_of_block hg4 0 _ rfl; have z1 := cells_of_block hg4 1 _ rfl; have z2 := cells_of_block hg4 2 _ rfl;
                have HS4 := hide (HS.out.turn HT4.out ((hb4.block _ (by have h1 := HS.out.lt; have h2 := block_lt HTD.out.1; exact h2) (by have := HS.out.lt; intro e; injection e with e; omega)).trans HTD.out.1)); have HNX := hide (new_p w4 ⟨p.name, nv, p.line⟩ 73); have HSA := hide (fun o => HS4.out.stay (below_box w4 o)); unfold Pr.cells at HNX; unfold tx at z0 z1 HNX; clear hg4 hb4)
            | (refine append_q rfl (.tmp 35) (.tmp 37) rfl (w.heap.size + 3) _ _ L (HSA.out _).o ⟨p.name, nv, p.line⟩ rfl _ 1 rfl HNX.out HLE.out (HSA.out _).lt ?_; intro v6 W6 r6 g6 n6; have HR6 := hide ((HSA.out _).grow r6 g6); clear r6 g6 n6))
          go_roundw
          case rel =>
            refine ⟨i + 1, by omega, by go_num, by rw [hdec], ?_⟩
            rw [Hid, HSL.out, HE1.out]
            exact HR6.out
          case measure => simp [intOf]; omega
      · have hpn : (stP p NP k i).name = p.name := by
          unfold stP
          split
          · exact HNN.out
          · rfl
        have HST : Hid (stP p NP k (i + 1) = stP p NP k i) := stP_ne p NP k i hik
        have HSL := hide (HNE.out hik)
        have hne : ¬ l[i].name = p.name := fun e => hik (hiff.2 e)
        have hdec : decide (k < i + 1) = decide (k < i) := by
          by_cases h : k < i
          · simp [h]; omega
          · simp [h]; omega
        rw [← hpn] at hne
        generalize stP p NP k i = P at *
        generalize stL l NP k i = L at *
        generalize l[i] = q at *
        have hne2 : (q.name == P.name) = false := by simpa using hne
        have y0 : ∀ o, (wr.alloc o).cell? ⟨w.heap.size + 1, 0, none⟩ = some (.string (tx P.name)) := fun o => cells_of_block (HS.out.stay (below_box wr o)).s4 0 _ rfl
        have HSA := hide (fun o o2 => (HS.out.stay (below_box wr o)).stay (below_box (wr.alloc o) o2))
        have HNX := hide (fun o => new_p2 wr o q 73)
        unfold Pr.cells tx at HNX
        unfold tx at d0 d1 y0
        clear hiff hqv HNE HNQ hpn HNP HKN HV
        go_wp2_with (refine append_q rfl (.tmp 35) (.tmp 37) rfl (w.heap.size + 3) _ _ L (HSA.out _ _).o q rfl _ 1 rfl (HNX.out _) HLE.out (HSA.out _ _).lt ?_; intro v6 W6 r6 g6 n6; have HR6 := hide ((HSA.out _ _).grow r6 g6); clear r6 g6 n6)
        go_roundw
        case rel =>
          refine ⟨i + 1, by omega, by go_num, by rw [hdec], ?_⟩
          rw [Hid, HSL.out, HST.out]
          exact HR6.out
        case measure => simp [intOf]; omega
    · have hie : i = l.length := by omega
      have hltI : ¬ (i : Int) < (l.length : Int) := by omega
      subst hie
      have hE := stL_end l NP k
      by_cases hkl : k < l.length
      · have hR := HR.out
        rw [if_pos hkl] at hE hR
        rw [hR] at hE
        rw [hE] at HS
        have hd : decide (k < l.length) = true := by simpa using hkl
        rw [hd]
        have HSB := hide (block_set wr w.heap.size 1 (.slice a7 l.length c7) _ _ _ HS.out.s3)
        generalize stP p NP k l.length = P at *
        clear hE hkl hd HNP HKN HV HR hR
        have f1 := block_soft HS.out.s3 1
        have b0 := cells_of_block HSB.out 0 _ rfl
        have b1 := cells_of_block HSB.out 1 _ rfl
        have HRT := hide ((HS.out.keep1 1 (.slice a7 l.length c7)).1)
        have HOO := hide ((HS.out.keep1 1 (.slice a7 l.length c7)).2.1)
        have HBB := hide ((HS.out.keep1 1 (.slice a7 l.length c7)).2.2)
        go_wp2_with ((with_reducible refine at_storeQ (T := 40) ?_); refine store_part rfl _ _ _ rfl (w.heap.size + 2) 0 40 _ [.string ⟨nm0.toArray⟩, .slice a7 l.length c7] [.string ⟨nm0.toArray⟩, .slice a7 l.length c7].toArray HRT.out rfl rfl sy_size (sc_one _ _ ⟨_, _, _, rfl⟩) (Nat.le_refl 2) (by rfl) ?_; intro w4 hg4 hb4; have HG4 := hide hg4; have HB4 := hide hb4; clear hg4 hb4)
        refine bodyPost_ret (results_cell1 rfl _ _ (w.heap.size + 2) _ _ _ _ rfl HG4.out Tryd.underlying40 rfl (by kernel_rfl)) rfl ?_
        exact ⟨⟨_, rfl, row_low (row_keep HOO.out (fun j hj => HB4.out.block j (World.ownsRow.lt HOO.out j hj).2 (fun e => by injection e with e; have := (World.ownsRow.lt HOO.out j hj).1; omega))) (by omega)⟩, below_own HBB.out HB4.out (by omega) (Nat.le_refl _)⟩
      · have hR := HR.out
        rw [if_neg hkl] at hE hR
        rw [hE] at HS
        have hd : decide (k < l.length) = false := by simpa using hkl
        have hP : stP p NP k l.length = p := by unfold stP; rw [if_neg hkl]
        rw [hP] at HS
        rw [hd]
        have HRR := hide hR
        have HLE : Hid (l.length ≤ 100000) := by have := HL9.out; rw [Hid]; omega
        have y0 := cells_of_block HS.out.s4 0 _ rfl
        have y1 := cells_of_block HS.out.s4 1 _ rfl
        have y2 := cells_of_block HS.out.s4 2 _ rfl
        have HNX := hide (new_p wr p 73)
        have HSA := hide (fun o => HS.out.stay (below_box wr o))
        unfold Pr.cells at HNX
        unfold tx at y0 y1 HNX
        clear hE hkl hd HNP HKN HV HR hR hP
        go_wp2_with (first
          | (refine append_q rfl (.tmp 41) (.tmp 43) rfl (w.heap.size + 3) _ _ l (HSA.out _).o p rfl _ 1 rfl HNX.out HLE.out (HSA.out _).lt ?_; intro v6 W6 r6 g6 n6; have HR6 := hide ((HSA.out _).grow r6 g6); obtain ⟨a6, c6, hv6⟩ := row_form r6; rw [List.length_append, List.length_singleton] at hv6; subst hv6;
              have HSB := hide (block_set W6 w.heap.size 1 (.slice a6 (l.length + 1) c6) _ _ _ HR6.out.s3); have HRT := hide ((HR6.out.keep1 1 (.slice a6 (l.length + 1) c6)).1); have HOO := hide ((HR6.out.keep1 1 (.slice a6 (l.length + 1) c6)).2.1); have HBB := hide ((HR6.out.keep1 1 (.slice a6 (l.length + 1) c6)).2.2);
              have u1 := cells_of_block HR6.out.s3 1 _ rfl; have f1 := block_soft HR6.out.s3 1; have b0 := cells_of_block HSB.out 0 _ rfl; have b1 := cells_of_block HSB.out 1 _ rfl; clear r6 g6 n6)
          | ((with_reducible refine at_storeQ (T := 40) ?_); refine store_part rfl _ _ _ rfl (w.heap.size + 2) 0 40 _ [.string ⟨nm0.toArray⟩, .slice a6 (l.length + 1) c6] [.string ⟨nm0.toArray⟩, .slice a6 (l.length + 1) c6].toArray HRT.out rfl rfl sy_size (sc_one _ _ ⟨_, _, _, rfl⟩) (Nat.le_refl 2) (by rfl) ?_; intro w4 hg4 hb4; have HG4 := hide hg4; have HB4 := hide hb4; clear hg4 hb4))
        refine bodyPost_ret (results_cell1 rfl _ _ (w.heap.size + 2) _ _ _ _ rfl HG4.out Tryd.underlying40 rfl (by kernel_rfl)) rfl ?_
        rw [← HRR.out]
        exact ⟨⟨_, rfl, row_low (row_keep HOO.out (fun j hj => HB4.out.block j (World.ownsRow.lt HOO.out j hj).2 (fun e => by injection e with e; have := (World.ownsRow.lt HOO.out j hj).1; omega))) (by omega)⟩, below_own HBB.out HB4.out (by omega) (Nat.le_refl _)⟩
end Go.Proofs.YtmcefflgbliehaaDoor
