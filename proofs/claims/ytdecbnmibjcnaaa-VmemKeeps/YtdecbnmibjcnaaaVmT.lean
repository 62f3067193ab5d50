
/-
  A room is taken out of a row of rooms: slices.Delete and Release keep their contracts.
-/
import Derived.Test.YtdecbnmibjcnaaaVmS
import Derived.Deep.RegionLaw
set_option linter.unusedVariables false
namespace Go.Proofs.Ytdecbnmibjcnaaa
open Go.RowKit Go.PlainAid
/-- Block g has N cells, and begins with these. -/
def HoldsN (w : World) (g : Nat) (t : TypeId) (N : Nat) (xs : List Value) : Prop := ∃ cur : Array Value, w.heap[g]? = some (.cells cur t (0, 0)) ∧ cur.size = N ∧ xs <+: cur.toList
theorem HoldsN.holds {w : World} {g : Nat} {t : TypeId} {N : Nat} {xs : List Value} (h : HoldsN w g t N xs) : Holds w g t xs := by
  obtain ⟨cur, h1, _, h2⟩ := h
  exact ⟨cur, h1, h2⟩
theorem HoldsN.le {w : World} {g : Nat} {t : TypeId} {N : Nat} {xs : List Value} (h : HoldsN w g t N xs) : xs.length ≤ N := by
  obtain ⟨cur, _, h1, ⟨r, hr⟩⟩ := h
  have : cur.toList.length = xs.length + r.length := by rw [← hr, List.length_append]
  simp at this; omega
theorem seg_len {cur : Array Value} {j : Nat} {cs : List Value} (h : j + cs.length ≤ cur.size) : (cur.toList.take j ++ cs ++ cur.toList.drop (j + cs.length)).toArray.size = cur.size := by
  simp; omega
theorem seg_prefix {L xs cs : List Value} {j : Nat} (hx : xs <+: L) (hj : j ≤ xs.length) : xs.take j ++ cs <+: L.take j ++ cs ++ L.drop (j + cs.length) := by
  obtain ⟨r, rfl⟩ := hx
  rw [List.take_append_of_le_length hj]
  exact List.prefix_append _ _
theorem seg_beyond {L xs cs : List Value} {j : Nat} (hx : xs <+: L) (hj : xs.length ≤ j) (hL : j ≤ L.length) : xs <+: L.take j ++ cs ++ L.drop (j + cs.length) := by
  obtain ⟨r, rfl⟩ := hx
  rw [List.append_assoc]
  refine List.IsPrefix.trans ?_ (List.prefix_append _ _)
  rw [List.take_append, List.take_of_length_le hj]
  exact List.prefix_append _ _
theorem Try.infoR : (Try.prog.info? 85).map (fun i => (i.zero, i.size, i.bytes)) = some (some (.agg #[.int .u64 0, .slice none 0 0]), 2, 32) := by kernel_rfl
theorem Rm.one (r : Rm) : ∀ u ∈ r.cells, u.oneCell' = true := by
  intro u hu
  unfold Rm.cells at hu
  rcases List.mem_cons.1 hu with rfl | hu
  · rfl
  · rcases List.mem_cons.1 hu with rfl | hu
    · rfl
    · cases hu
theorem flatR_one (l : List Rm) : ∀ u ∈ flatR l, u.oneCell' = true := by
  intro u hu
  unfold flatR at hu
  obtain ⟨r, _, hr⟩ := List.mem_flatMap.1 hu
  exact r.one u hr
theorem flatR_app (a b : List Rm) : flatR (a ++ b) = flatR a ++ flatR b := by unfold flatR; rw [List.flatMap_append]
theorem flatR_drop (l : List Rm) (i : Nat) : flatR (l.drop i) = (flatR l).drop (i * 2) := by
  by_cases h : i ≤ l.length
  · have e := flatR_app (l.take i) (l.drop i)
    rw [List.take_append_drop] at e
    have hl : (flatR (l.take i)).length = i * 2 := by rw [flatR_len, List.length_take]; omega
    rw [e, ← hl, List.drop_left]
  · rw [List.drop_of_length_le (by omega), List.drop_of_length_le (by rw [flatR_len]; omega)]; rfl
theorem flatR_take (l : List Rm) (i : Nat) : flatR (l.take i) = (flatR l).take (i * 2) := by
  by_cases h : i ≤ l.length
  · have e := flatR_app (l.take i) (l.drop i)
    rw [List.take_append_drop] at e
    have hl : (flatR (l.take i)).length = i * 2 := by rw [flatR_len, List.length_take]; omega
    rw [e, ← hl, List.take_left]
  · rw [List.take_of_length_le (by omega), List.take_of_length_le (by rw [flatR_len]; omega)]
/-- append(s[:i], s[j:]...) within a row of rooms. -/
theorem step_del {ops : Array Oper} {o : Oper} {a : Act} {w : World} {K : Act → World → Prop} {Q : Exit → Act → World → Prop} {E : Prop}
    (hgd : o.guard = none) (s x : Operand) (hop : o.op = Op.call { callee := Callee.builtin Builtin.append, args := #[s, x], argTypes := #[72, 72] })
    (g n cap N : Nat) (xs : List Value) (hh : HoldsN w g 85 N xs) (hn : n * 2 ≤ xs.length) (hs : a.eval s = .slice (some ⟨g, 0, none⟩) n cap)
    (ad : Addr) (m c : Nat) (news : List Value) (hx : a.eval x = .slice (some ad) m c) (hl : news.length = m * 2) (hc : ∀ j u, news[j]? = some u → w.cell? (ad.add j) = some u) (h1 : ∀ u ∈ news, u.oneCell' = true)
    (hroom : n + m ≤ cap) (hfit : (n + m) * 2 ≤ N) (k : Nat) (hk : n + m = k)
    (hK : ∀ w', HoldsN w' g 85 N (xs.take (n * 2) ++ news) → w.grownBy w' (some g) → K (a.put o.dst (.slice (some ⟨g, 0, none⟩) k cap)) w') :
    if Region.wanted o (yielded ops a.tmps) = true then Oper.wp Try.prog o a w K Q else E := by
  have hw : Region.wanted o (yielded ops a.tmps) = true := by simp [Region.wanted, hgd]
  rw [if_pos hw]
  subst hk
  obtain ⟨i, hi, hz0, hz1, hz2⟩ := info_parts Try.infoR
  obtain ⟨cur, hg, hN, hp⟩ := hh
  have hrun := run_append_room (P := Try.prog) w 72 o.type 85 i Try.underlying72 hi g n cap cur hg ad m c news (by rw [hz1]; exact hl) hc h1 hroom (by rw [hz1]; omega)
  rw [hz1] at hrun
  unfold Oper.wp
  simp [execOp, hop, resolve, invoke, builtin, hs, hx, hrun, Result.andThen]
  refine hK _ ⟨_, setRow_heap w g cur _ _ _ hg, ?_, ?_⟩ ⟨rfl, rfl, rfl, by simp, fun k _ hk => setRow_other w g k _ (fun e => hk (by rw [e]))⟩
  · have := seg_len (cur := cur) (j := n * 2) (cs := news) (by omega)
    simp only [List.append_assoc] at this
    rw [this]; exact hN
  · have := seg_prefix (cs := news) hp hn
    simp only [List.append_assoc] at this ⊢
    exact this
/-- clear of the places behind a row of rooms. -/
theorem clear_rooms {ops : Array Oper} {rest : List Oper} {o : Oper} {a : Act} {Q : Exit → Act → World → Prop} {w : World} (hgd : o.guard = none) (x : Operand) (ho : o.op = .call { callee := .builtin .clear, args := #[x], argTypes := #[72] })
    (g j c N : Nat) (xs : List Value) (hh : HoldsN w g 85 N xs) (hj : xs.length ≤ j) (hfit : j + 2 ≤ N) (hx : a.eval x = .slice (some ⟨g, j, none⟩) 1 c)
    (h : ∀ w', HoldsN w' g 85 N xs → w.grownBy w' (some g) → wpList Try.prog ops Q rest (a.put o.dst (.tuple #[])) w') : wpList Try.prog ops Q (o :: rest) a w := by
  obtain ⟨cur, hg, hN, hp⟩ := hh
  have hst := run_storeCells_at Try.prog g j 85 [Value.int .u64 0, Value.slice none 0 0] 0 cur w hg (by simp; omega) (by intro v hv; simp at hv; rcases hv with rfl | rfl <;> rfl)
  have hz : ∀ w, (zeroValue 85).run Try.prog w = .ok (.agg #[Value.int .u64 0, Value.slice none 0 0]) w := Try.zeroValue85
  have hr : (Builtin.clear_ #[72] o.type #[.slice (some ⟨g, j, none⟩) 1 c]).run Try.prog w = .ok (.tuple #[]) (w.setRow g (cur.toList.take j ++ [Value.int .u64 0, Value.slice none 0 0] ++ cur.toList.drop (j + 2)).toArray) := by
    have e : (Builtin.zeroCells (Value.agg #[Value.int .u64 0, Value.slice none 0 0]).cells 1).toList = [Value.int .u64 0, Value.slice none 0 0] := by kernel_rfl
    simp only [Nat.add_zero, List.length_cons, List.length_nil, Nat.zero_add] at hst
    simp [Builtin.clear_, run_underlying Try.underlying72, hz]
    rw [e, hst]
    simp [Result.andThen]
  refine wpList_plain hgd fun _ hK => ?_
  unfold Oper.wp execOp
  simp only [ho, resolve, invoke, builtin, Sem.run_bind, Sem.run_pure, Result.andThen_ok, List.map_toArray, List.map_cons, List.map_nil, hx, hr]
  refine hK _ _ (h _ ⟨_, setRow_heap w g cur _ _ _ hg, ?_, ?_⟩ ⟨rfl, rfl, rfl, by simp, fun k _ hk => setRow_other w g k _ (fun e => hk (by rw [e]))⟩)
  · have := seg_len (cur := cur) (j := j) (cs := [Value.int .u64 0, Value.slice none 0 0]) (by simp; omega)
    simp only [List.length_cons, List.length_nil, Nat.zero_add] at this
    rw [this]; exact hN
  · have := seg_beyond (cs := [Value.int .u64 0, Value.slice none 0 0]) hp hj (by simp; omega)
    simpa using this
set_option maxHeartbeats 4000000 in
theorem lib_Delete (w : World) (g cap i : Nat) (l : List Rm) (hi : i < l.length) (hcap : l.length ≤ cap) (hcm : cap ≤ maxLen) (hh : HoldsN w g 85 (cap * 2) (flatR l)) :
    Calls Try.prog 49 #[.slice (some ⟨g, 0, none⟩) l.length cap, .int .i64 i, .int .i64 ((i : Int) + 1)] w fun e w' => e = .returned (.slice (some ⟨g, 0, none⟩) (l.length - 1) cap) ∧ HoldsN w' g 85 (cap * 2) (flatR (l.eraseIdx i)) ∧ Turn (· = g) w w' := by
  have hc2 : cap ≤ 9223372036854775807 := by unfold maxLen at hcm; omega
  have hfl := flatR_len l
  obtain ⟨A, hA, hsrc⟩ : ∃ A : Addr, (if cap = i + 1 then some (⟨g, 0, none⟩ : Addr) else some ⟨g, (i + 1) * 2, none⟩) = some A ∧ Hid (∀ t u, (flatR (l.drop (i + 1)))[t]? = some u → w.drew.cell? (A.add t) = some u) := by
    by_cases h : cap = i + 1
    · refine ⟨⟨g, 0, none⟩, by simp [h], fun t u hu => ?_⟩
      rw [List.drop_of_length_le (by omega)] at hu
      simp [flatR] at hu
    · refine ⟨⟨g, (i + 1) * 2, none⟩, by simp [h], fun t u hu => ?_⟩
      rw [flatR_drop, List.getElem?_drop] at hu
      rw [Addr.add_mid]
      exact hh.holds.cell _ _ hu
  have hdl : Hid ((flatR (l.drop (i + 1))).length = (l.length - (i + 1)) * 2) := by unfold Hid; rw [flatR_len, List.length_drop]
  have hone : Hid (∀ u ∈ flatR (l.drop (i + 1)), u.oneCell' = true) := flatR_one _
  have HH : Hid (HoldsN w.drew g 85 (cap * 2) (flatR l)) := hh
  have HFL : Hid ((flatR l).length = l.length * 2) := hfl
  have HE : Hid (flatR (l.eraseIdx i) = (flatR l).take (i * 2) ++ flatR (l.drop (i + 1))) := by
    unfold Hid
    rw [List.eraseIdx_eq_take_drop_succ, flatR_app, flatR_take]
  obtain ⟨p, hp⟩ : ∃ p, l.length = p + 1 := ⟨l.length - 1, by omega⟩
  have HP : Hid (l.length = p + 1) := hp
  rw [hp, Nat.add_sub_cancel]
  rw [hp] at hdl hcap hi HFL
  have h4 : ((i : Int) == (i : Int) + 1) = false := by rw [beq_eq_false_iff_ne]; omega
  have h5 : i + 1 ≤ cap := by omega
  have h6 : i ≤ cap := by omega
  have h7 : (0 : Int) ≤ (i : Int) + 1 := by omega
  have h8 : (i : Int) + 1 ≤ (p : Int) + 1 := by omega
  have h9 : ¬ cap = p := by omega
  have h10 : p ≤ cap := by omega
  have h11 : i ≤ p := by omega
  clear hh hfl hp
  go_enter Try.func49, Try.ntmps49
  go_wp2_with fail
  go_region_law (refine step_del rfl (.tmp 22) (.tmp 25) rfl g i cap (cap * 2) (flatR l) HH.out (by rw [HFL.out]; omega) (by simp [Act.eval, Act.put]) A (p - i) (cap - (i + 1)) (flatR (l.drop (i + 1))) (by simp [Act.eval, Act.put]) (by rw [hdl.out]; omega) hsrc.out hone.out (by omega) (by omega) p (by omega) ?_; intro w1 h1 h2; have H1 : Hid (HoldsN w1 g 85 (cap * 2) ((flatR l).take (i * 2) ++ flatR (l.drop (i + 1)))) := h1; have H2 : Hid (w.drew.grownBy w1 (some g)) := h2; clear h1 h2)
  go_wp2_with (refine clear_rooms rfl _ rfl g (p * 2) (cap - p) (cap * 2) _ H1.out (by rw [List.length_append, List.length_take, HFL.out, hdl.out]; omega) (by omega) rfl ?_; intro w2 h1 h2; have H3 : Hid (HoldsN w2 g 85 (cap * 2) ((flatR l).take (i * 2) ++ flatR (l.drop (i + 1)))) := h1; have H4 : Hid (w1.grownBy w2 (some g)) := h2; clear h1 h2)
  go_ret
  refine ⟨rfl, by rw [HE.out]; exact H3.out, Turn.trans (a := w) (b := w.drew) ⟨rfl, rfl, rfl, Nat.le_refl _, fun _ _ _ => rfl⟩ ((Turn.of_grown (F := (· = g)) (w := w.drew) H2.out rfl).trans (Turn.of_grown (F := (· = g)) H4.out rfl))⟩
/-- What Release answers, and the space behind it. -/
def rlE (sp : Sp) (a : Nat) : Nat := if (sp.rooms[begun sp.rooms a - 1]?.map Rm.pos) = some a ∧ begun sp.rooms a ≠ 0 then 0 else 52
def rlS (sp : Sp) (a : Nat) : Sp := if (sp.rooms[begun sp.rooms a - 1]?.map Rm.pos) = some a ∧ begun sp.rooms a ≠ 0 then { sp with rooms := sp.rooms.eraseIdx (begun sp.rooms a - 1) } else sp
theorem SpAt.holdsN {w : World} {S g n cap : Nat} {sp : Sp} (h : SpAt w S (.slice (some ⟨g, 0, none⟩) n cap) sp) : HoldsN w g 85 (cap * 2) (flatR sp.rooms) ∧ n = sp.rooms.length ∧ n ≤ cap ∧ cap ≤ maxLen := by
  rcases h.row.2 with ⟨e, _⟩ | ⟨g', cap', cur, e, _, hg, h1, h2, h3, h4⟩
  · cases e
  · injection e with e1 e2 e3
    injection e1 with e1
    injection e1 with e1
    subst e1 e3
    exact ⟨⟨cur, hg, h3, h4 ▸ List.take_prefix _ _⟩, e2, by omega, h2⟩
theorem own_of_holdsN {w : World} {g cap : Nat} {l : List Rm} (h : HoldsN w g 85 (cap * 2) (flatR l)) (hc : cap ≤ maxLen) : w.ownsRow 0 85 2 (.slice (some ⟨g, 0, none⟩) l.length cap) l.length (flatR l) := by
  have hle := h.le
  obtain ⟨cur, h1, h2, h3⟩ := h
  rw [flatR_len] at hle
  refine ⟨flatR_len l, .inr ⟨g, cap, cur, rfl, by omega, h1, by omega, hc, h2, ?_⟩⟩
  obtain ⟨r, hr⟩ := h3
  rw [← hr, ← flatR_len l, List.take_left]
theorem nodup_erase {S : Nat} {o : List Nat} {l : List Rm} {i : Nat} (h : (S :: (o ++ l.map Rm.blk)).Nodup) : (S :: (o ++ (l.eraseIdx i).map Rm.blk)).Nodup := by
  refine List.Nodup.sublist ?_ h
  exact (List.Sublist.append (List.Sublist.refl _) ((List.eraseIdx_sublist l i).map _)).cons_cons _
theorem SpAt.soft {w : World} {S : Nat} {v : Value} {sp : Sp} (h : SpAt w S v sp) (j : Nat) : w.frozen? ⟨S, j, none⟩ = false := by
  simp [World.frozen?, h.head]
theorem HoldsN.setOther {w : World} {g : Nat} {t : TypeId} {N : Nat} {xs : List Value} (h : HoldsN w g t N xs) (p : Addr) (hp : g ≠ p.block) (u : Value) : HoldsN (w.setCell p u) g t N xs := by
  obtain ⟨cur, h1, h2⟩ := h
  exact ⟨cur, by rw [heap_setCell_other _ _ _ _ hp]; exact h1, h2⟩
theorem Holds.setOther {w : World} {g : Nat} {t : TypeId} {xs : List Value} (h : Holds w g t xs) (p : Addr) (hp : g ≠ p.block) (u : Value) : Holds (w.setCell p u) g t xs := by
  obtain ⟨cur, h1, h2⟩ := h
  exact ⟨cur, by rw [heap_setCell_other _ _ _ _ hp]; exact h1, h2⟩
theorem SpAt.reset {w : World} {S g cap : Nat} {sp : Sp} {v : Value} {l : List Rm} (hS : w.heap[S]? = some (.cells #[.int .i64 sp.budget, v] 74 (0, 0))) (hg : HoldsN w g 85 (cap * 2) (flatR l)) (hc : cap ≤ maxLen)
    (hp : ∀ r ∈ l, Holds w r.blk 88 (flatS r.pages)) (hn : (S :: g :: l.map Rm.blk).Nodup) :
    SpAt (w.setCell ⟨S, 1, none⟩ (.slice (some ⟨g, 0, none⟩) l.length cap)) S (.slice (some ⟨g, 0, none⟩) l.length cap) { sp with rooms := l } := by
  have h1 := (List.nodup_cons.1 hn).1
  refine ⟨heap_setCell_same w S 1 _ _ _ hS, own_of_holdsN (hg.setOther _ (fun e => h1 (by have e' : g = S := e; rw [← e']; exact List.mem_cons_self)) _) hc, fun r hr => (hp r hr).setOther _ (fun e => h1 ?_) _, hn⟩
  have e' : r.blk = S := e
  rw [← e']
  exact List.mem_cons_of_mem _ (List.mem_map_of_mem hr)
set_option maxHeartbeats 2000000 in
theorem vm_Release (w : World) (S : Nat) (v : Value) (sp : Sp) (h : SpAt w S v sp) (hk : sp.ok) (a : Nat) (ha : (a : Int) ≤ 18446744073709551615) :
    Calls Try.prog 34 #[.pointer (some ⟨S, 0, none⟩), .int .u64 a] w fun e w' => e = .returned (.int .i64 (rlE sp a)) ∧ (∃ v', SpAt w' S v' (rlS sp a) ∧ v'.ownBlock = v.ownBlock) ∧ Turn (· ∈ foot S v sp.rooms) w w' := by
  have hB := vm_begun w S v sp h hk a
  have HSP : Hid (SpAt w S v sp) := h
  by_cases hb0 : begun sp.rooms a = 0
  · have HE : Hid (rlE sp a = 52 ∧ rlS sp a = sp) := by unfold Hid rlE rlS; simp [hb0]
    rw [hb0] at hB
    clear h hb0
    go_enter Try.func34, Try.ntmps34
    go_wp2_with (go_at_call 48; refine hB.mono ?_; rintro e w1 ⟨rfl, hb⟩; clear hB)
    go_ret
    exact ⟨by rw [HE.out.1]; rfl, ⟨v, by rw [HE.out.2]; exact HSP.out.stay hb, rfl⟩, Turn.of_below hb⟩
  · obtain ⟨b, hb⟩ : ∃ b, begun sp.rooms a = b + 1 := ⟨begun sp.rooms a - 1, by omega⟩
    have hble := begun_le sp.rooms a
    have hbl : b < sp.rooms.length := by omega
    have hlen := hk.len
    rcases h.told with ⟨rfl, hr⟩ | ⟨g, cap, ht⟩
    · rw [hr] at hbl; simp at hbl
    · obtain ⟨hc1, hlt, rfl, hglt, hn0, hcap1, hat0, hat1⟩ := id ht
      have hcap : cap ≤ 9223372036854775807 := by unfold maxLen at hcap1; omega
      have HT : Hid _ := ht
      have hc1' : ∀ w1, Below w.heap.size w w1 → w1.cell? ⟨S, 1, none⟩ = some (.slice (some ⟨g, 0, none⟩) sp.rooms.length cap) := fun w1 hb => (ht.stay hb).c1
      have he0 : ∀ w1, Below w.heap.size w w1 → w1.cell? ⟨g, b * 2, none⟩ = some (.int .u64 sp.rooms[b].pos) := fun w1 hb => (ht.stay hb).at0 b hbl
      have hxi : (b : Int) < (sp.rooms.length : Int) := by omega
      rw [hb] at hB
      by_cases hpos : sp.rooms[b].pos = a
      · have HE : Hid (rlE sp a = 0 ∧ rlS sp a = { sp with rooms := sp.rooms.eraseIdx b }) := by unfold Hid rlE rlS; rw [hb]; simp [List.getElem?_eq_getElem hbl, hpos]
        rw [hpos] at he0
        have HD : Hid (∀ w1, Below w.heap.size w w1 → Calls Try.prog 49 #[.slice (some ⟨g, 0, none⟩) sp.rooms.length cap, .int .i64 b, .int .i64 ((b : Int) + 1)] w1 fun e w' => e = .returned (.slice (some ⟨g, 0, none⟩) (sp.rooms.length - 1) cap) ∧ HoldsN w' g 85 (cap * 2) (flatR (sp.rooms.eraseIdx b)) ∧ Turn (· = g) w1 w') := fun w1 hb =>
          lib_Delete w1 g cap b sp.rooms hbl hn0 hcap1 (h.stay hb).holdsN.1
        have HNE : Hid (g ≠ S) := fun e => by
          have := h.nod
          rw [e] at this
          simp [Value.ownBlock] at this
        have hb1 : ¬ (b : Int) < 0 := by omega
        clear h hb0 hat0 hat1 ht hb hble hpos
        go_enter Try.func34, Try.ntmps34
        go_wp2_with (go_at_call 48; refine hB.mono ?_; rintro e w1 ⟨rfl, hb⟩; have e0 := he0 w1 hb; have e2 := hc1' w1 hb; clear hB he0 hc1')
        refine (HD.out _ hb).mono ?_
        rintro e w2 ⟨rfl, h1, h2⟩
        have H1 : Hid (HoldsN w2 g 85 (cap * 2) (flatR (sp.rooms.eraseIdx b))) := h1
        have H2 : Hid (Turn (· = g) w1 w2) := h2
        have h3 : w2.heap[S]? = some (.cells #[.int .i64 sp.budget, .slice (some ⟨g, 0, none⟩) sp.rooms.length cap] 74 (0, 0)) := (h2.block S (HSP.out.stay hb).lt (fun e => HNE.out e.symm)).trans (HSP.out.stay hb).head
        have f1 : w2.cell? ⟨S, 1, none⟩ = some (.slice (some ⟨g, 0, none⟩) sp.rooms.length cap) := by simp [World.cell?, h3]
        have f2 : w2.frozen? ⟨S, 1, none⟩ = false := by simp [World.frozen?, h3]
        have H3 : Hid (w2.heap[S]? = some (.cells #[.int .i64 sp.budget, .slice (some ⟨g, 0, none⟩) sp.rooms.length cap] 74 (0, 0))) := h3
        clear h1 h2 h3
        go_wp2
        go_ret
        have hel : (sp.rooms.eraseIdx b).length = sp.rooms.length - 1 := by rw [List.length_eraseIdx, if_pos hbl]
        refine ⟨by rw [HE.out.1]; rfl, ⟨.slice (some ⟨g, 0, none⟩) (sp.rooms.length - 1) cap, ?_, rfl⟩, ?_⟩
        · rw [HE.out.2, ← hel]
          refine SpAt.reset H3.out H1.out hcap1 (fun r hr => ?_) ?_
          · have hm := List.mem_of_mem_eraseIdx hr
            refine ((HSP.out.stay hb).pgs r hm).turn H2.out (fun e => ?_)
            exact ((HSP.out.stay hb).apart hm).2 g rfl e.symm
          · exact nodup_erase (o := [g]) HSP.out.nod
        · refine ((Turn.of_below hb).trans (H2.out.mono (fun k _ hk => ?_))).trans ⟨rfl, rfl, rfl, by simp, fun k _ hk => heap_setCell_other _ _ _ _ (fun e => hk ?_)⟩
          · subst hk; exact List.mem_cons_of_mem _ List.mem_cons_self
          · have e' : k = S := e
            rw [e']; exact List.mem_cons_self
      · have HE : Hid (rlE sp a = 52 ∧ rlS sp a = sp) := by unfold Hid rlE rlS; rw [hb]; simp [List.getElem?_eq_getElem hbl, hpos]
        have hpi : ((sp.rooms[b].pos : Int) != (a : Int)) = true := by rw [bne_iff_ne]; omega
        have hb1 : ¬ (b : Int) < 0 := by omega
        clear h hb0 hat0 hat1 ht hb hble
        generalize sp.rooms[b].pos = q at *
        clear hpos
        go_enter Try.func34, Try.ntmps34
        go_wp2_with (go_at_call 48; refine hB.mono ?_; rintro e w1 ⟨rfl, hb⟩; have e0 := he0 w1 hb; have e2 := hc1' w1 hb; clear hB he0 hc1')
        go_ret
        exact ⟨by rw [HE.out.1]; rfl, ⟨_, by rw [HE.out.2]; exact HSP.out.stay hb, rfl⟩, Turn.of_below hb⟩
end Go.Proofs.Ytdecbnmibjcnaaa
