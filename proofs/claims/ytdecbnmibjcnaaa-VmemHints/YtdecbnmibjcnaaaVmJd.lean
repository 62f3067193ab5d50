
/-
  done keeps its contract.
-/
import Derived.Test.YtdecbnmibjcnaaaVmK
set_option linter.unusedVariables false
namespace Go.Proofs.Ytdecbnmibjcnaaa
open Go.RowKit Go.PlainAid
theorem hide {p : Prop} (h : p) : Hid p := h
theorem SpAt.turn {w w' : World} {S : Nat} {v : Value} {sp : Sp} {F : Nat → Prop} (h : SpAt w S v sp) (ht : Turn F w w') (hF : ∀ k ∈ foot S v sp.rooms, ¬ F k) : SpAt w' S v sp := by
  refine ⟨by rw [ht.block S h.lt (hF S List.mem_cons_self)]; exact h.head, ?_, fun r hr => (h.pgs r hr).turn ht (hF _ (SpAt.blk_foot hr)), h.nod⟩
  refine ⟨h.row.1, ?_⟩
  rcases h.row.2 with h1 | ⟨g, cap, cur, rfl, h2, hg, h3⟩
  · exact .inl h1
  · exact .inr ⟨g, cap, cur, rfl, h2, by rw [ht.block g (Array.getElem?_eq_some_iff.1 hg).1 (hF g (List.mem_cons_of_mem _ (List.mem_append_left _ (by simp [Value.ownBlock]))))]; exact hg, h3⟩
theorem Took.to {w w' : World} {S : Nat} {v : Value} {sp : Sp} {h n : Nat} (ht : Took w S v sp h n w') (hu : Turn (· ∈ foot S v sp.rooms) w w') : ∃ blk, w.heap.size ≤ blk ∧ SpTo w S v sp.rooms w' (rvS sp h n blk) := by
  obtain ⟨v', blk, h1, h2, h3⟩ := ht
  refine ⟨blk, h2, ⟨v', h1, fun k hk => ?_⟩, hu⟩
  rcases List.mem_cons.1 hk with rfl | hk
  · exact .inl List.mem_cons_self
  · rcases List.mem_append.1 hk with hk | hk
    · rcases h3 k (by simpa using hk) with e | e
      · exact .inl (List.mem_cons_of_mem _ (List.mem_append_left _ (by rw [e]; simp)))
      · exact .inr e
    · obtain ⟨r, hr, rfl⟩ := List.mem_map.1 hk
      unfold rvS at hr
      split at hr
      · rcases List.mem_append.1 hr with e | e
        · exact .inl (SpAt.blk_foot (List.mem_of_mem_take e))
        · rcases List.mem_cons.1 e with rfl | e
          · exact .inr h2
          · exact .inl (SpAt.blk_foot (List.mem_of_mem_drop e))
      · exact .inl (SpAt.blk_foot hr)
theorem SpTo.same {w w' : World} {S : Nat} {v : Value} {sp sp' : Sp} (h : SpAt w' S v sp') (hf : ∀ k ∈ foot S v sp'.rooms, k ∈ foot S v sp.rooms) (hu : Turn (· ∈ foot S v sp.rooms) w w') : SpTo w S v sp.rooms w' sp' := ⟨⟨v, h, fun k hk => .inl (hf k hk)⟩, hu⟩
theorem put_foot_sub {sp : Sp} {b : Nat} {r : Rm} {ps : List Sh} (h : sp.rooms[b]? = some r) (S : Nat) (v : Value) : ∀ k ∈ foot S v (sp.put b r ps).rooms, k ∈ foot S v sp.rooms := fun k hk => by rw [Sp.put_foot sp b r ps h S v] at hk; exact hk
theorem wrS_foot (sp : Sp) (a : Nat) (d : List UInt8) (S : Nat) (v : Value) : ∀ k ∈ foot S v (wrS sp a d).rooms, k ∈ foot S v sp.rooms := by
  unfold wrS
  cases hg : got sp.rooms a d.length (some 2) with
  | error e => exact fun k hk => hk
  | ok o =>
    cases o with
    | none => exact fun k hk => hk
    | some r =>
      obtain ⟨hh, hz⟩ := got_some hg
      obtain ⟨b, hi⟩ := hit_is hh
      simp only [hi.bg, Nat.add_sub_cancel]
      exact put_foot_sub hi.eq S v
theorem prS_foot (sp : Sp) (a n : Nat) (p : Int) (S : Nat) (v : Value) : ∀ k ∈ foot S v (prS sp a n p).rooms, k ∈ foot S v sp.rooms := by
  unfold prS
  split
  · exact fun k hk => hk
  · split
    · exact fun k hk => hk
    · cases hg : got sp.rooms a n none with
      | error e => exact fun k hk => hk
      | ok o =>
        cases o with
        | none => exact fun k hk => hk
        | some r =>
          obtain ⟨hh, hz⟩ := got_some hg
          obtain ⟨b, hi⟩ := hit_is hh
          simp only [hi.bg, Nat.add_sub_cancel]
          exact put_foot_sub hi.eq S v
theorem mpS_foot (sp : Sp) (a n : Nat) (p : Int) (d : List UInt8) (S : Nat) (v : Value) : ∀ k ∈ foot S v (mpS sp a n p d).rooms, k ∈ foot S v sp.rooms := by
  unfold mpS
  split
  · exact fun k hk => hk
  · split
    · exact fun k hk => hk
    · split
      · exact fun k hk => hk
      · cases hh : hit sp.rooms a n with
        | none => exact fun k hk => hk
        | some r =>
          obtain ⟨b, hi⟩ := hit_is hh
          simp only [hi.bg, Nat.add_sub_cancel]
          split
          · exact fun k hk => hk
          · exact put_foot_sub hi.eq S v
theorem rlS_foot (sp : Sp) (a : Nat) (S : Nat) (v v' : Value) (hv : v'.ownBlock = v.ownBlock) : ∀ k ∈ foot S v' (rlS sp a).rooms, k ∈ foot S v sp.rooms := by
  intro k hk
  unfold foot at hk ⊢
  rw [hv] at hk
  rcases List.mem_cons.1 hk with rfl | hk
  · exact List.mem_cons_self
  · refine List.mem_cons_of_mem _ ?_
    rcases List.mem_append.1 hk with hk | hk
    · exact List.mem_append_left _ hk
    · refine List.mem_append_right _ ?_
      obtain ⟨r, hr, rfl⟩ := List.mem_map.1 hk
      unfold rlS at hr
      split at hr
      · exact List.mem_map_of_mem (List.mem_of_mem_eraseIdx hr)
      · exact List.mem_map_of_mem hr
/-- The last step of done: the answer is laid into its box. -/
theorem SpTo.fin {w W1 W2 W3 : World} {S : Nat} {v : Value} {l : List Rm} {sp' : Sp} (h : SpTo W1 S v l W2 sp') (h1 : Turn (· ∈ foot S v l) w W1) (hs : w.heap.size + 2 ≤ W1.heap.size) (h3 : Turn (· = w.heap.size + 1) W2 W3) (hf : ∀ k ∈ foot S v l, k < w.heap.size) : SpTo w S v l W3 sp' := by
  obtain ⟨⟨v', a1, a2⟩, a3⟩ := h
  refine ⟨⟨v', a1.turn h3 (fun k hk e => ?_), fun k hk => ?_⟩, ?_⟩
  · rcases a2 k hk with e2 | e2
    · have := hf k e2; omega
    · omega
  · rcases a2 k hk with e2 | e2
    · exact .inl e2
    · exact .inr (by omega)
  · have h13 := h1.trans a3
    exact ⟨h3.os.trans h13.os, h3.tape.trans h13.tape, h3.output.trans h13.output, Nat.le_trans h13.size h3.size, fun k hk hk2 => by
      rw [h3.block k (Nat.lt_of_lt_of_le hk h13.size) (fun e => by omega)]; exact h13.block k hk hk2⟩
theorem turn_put4 (W : World) (B : Nat) (a b c d : Value) : Turn (· = B + 1) W ((((W.setCell ⟨B + 1, 0, none⟩ a).setCell ⟨B + 1, 1, none⟩ b).setCell ⟨B + 1, 2, none⟩ c).setCell ⟨B + 1, 3, none⟩ d) :=
  ⟨rfl, rfl, rfl, by simp, fun k _ hk => by
    rw [heap_setCell_other _ _ _ _ hk, heap_setCell_other _ _ _ _ hk, heap_setCell_other _ _ _ _ hk, heap_setCell_other _ _ _ _ hk]⟩
theorem ldN_le (sp : Sp) (a : Nat) (hk : sp.ok) : (ldN sp a : Int) ≤ 18446744073709551615 := by
  unfold ldN
  have h := rdN_lt (rdB sp a 8)
  have hl : (rdB sp a 8).length ≤ 8 := by
    rcases rdE_cases sp a 8 with ⟨he, hne⟩ | ⟨_, hn⟩
    · rw [rdB_len hk he hne]; omega
    · rw [hn]; simp
  have h2 : 256 ^ (rdB sp a 8).length ≤ 256 ^ 8 := Nat.pow_le_pow_right (by omega) hl
  have e : (256 : Nat) ^ 8 = 18446744073709551616 := by decide
  omega
/-- done, at a call whose own contract is handed over. -/
def DoneIs (w : World) (S : Nat) (v : Value) (sp : Sp) (x : OpN) (vd vr : Value) (rs : List Nat) (hint : Nat) : Prop :=
  Calls Try.prog 19 #[.pointer (some ⟨S, 0, none⟩), .agg (x.cells vd), vr, .int .u64 hint] w fun e w' => e = .returned (.agg (doO sp x rs hint).cells) ∧ ∃ blk, w.heap.size ≤ blk ∧ SpTo w S v sp.rooms w' (doS sp x rs hint blk)
set_option maxHeartbeats 4000000 in
theorem law_done (w : World) (S : Nat) (v : Value) (sp : Sp) (h : SpAt w S v sp) (hk : sp.ok) (x : OpN) (hx : x.ok) (vd vr : Value) (rs : List Nat) (hint : Nat) (hh : (hint : Int) ≤ 18446744073709551615) (hs : Src w (· ∈ foot S v sp.rooms) vd x.data) (hr : SrcU w (· ∈ foot S v sp.rooms) vr rs) : DoneIs w S v sp x vd vr rs hint := by
  unfold DoneIs
  have hfl := h.foot_lt
  have hB0 := Bxs.start w (· ∈ foot S v sp.rooms) x vd
  have hsz : ((w.alloc (.cells (x.cells vd) 46)).alloc (.cells #[.int .i64 0, .string (txt []), .int .u64 0, .bool false] 49)).heap.size = w.heap.size + 2 := by simp
  obtain ⟨sa, sc, hvd, hs1, hs2, hs3⟩ := id hs
  have hP := law_place ((w.alloc (.cells (x.cells vd) 46)).alloc (.cells #[.int .i64 0, .string (txt []), .int .u64 0, .bool false] 49)) _ x hx sa x.data.length sc vr rs (hr.turn hB0.turn)
  have hform : ∃ s n c, vr = .slice s n c := by
    obtain ⟨cap, _, _, hr3⟩ := hr
    rcases hr3 with ⟨e, _⟩ | ⟨g, e, _⟩
    · exact ⟨_, _, _, e⟩
    · exact ⟨_, _, _, e⟩
  rw [← hvd] at hP
  have hple := placeN_le x hx rs
  have hkind := fun W => law_kind W x.kind hx.k0 hx.k1
  -- what holds behind place
  have after : ∀ W1, Below ((w.alloc (.cells (x.cells vd) 46)).alloc (.cells #[.int .i64 0, .string (txt []), .int .u64 0, .bool false] 49)).heap.size ((w.alloc (.cells (x.cells vd) 46)).alloc (.cells #[.int .i64 0, .string (txt []), .int .u64 0, .bool false] 49)) W1 →
      Bxs w W1 (· ∈ foot S v sp.rooms) x vd ∧ SpAt W1 S v sp ∧ w.heap.size + 2 ≤ W1.heap.size := by
    intro W1 hb
    have b1 := hB0.on (Turn.of_below hb) (fun k hk => hfl k hk)
    have hbw : Below w.heap.size w W1 := (((Below.refl _ w).alloc (Nat.le_refl _) _).alloc (by simp) _).trans (hb.mono (by rw [hsz]; omega))
    exact ⟨b1, h.stay hbw, by have := hb.size; omega⟩
  -- the last step
  have fin : ∀ W1 W2 sp' (o : Out) (blk : Nat), Bxs w W1 (· ∈ foot S v sp.rooms) x vd → w.heap.size + 2 ≤ W1.heap.size → w.heap.size ≤ blk → SpTo W1 S v sp.rooms W2 sp' → doS sp x rs hint blk = sp' → doO sp x rs hint = o → ∀ W3, Turn (· = w.heap.size + 1) W2 W3 →
      (Ending.returned (.agg o.cells) = Ending.returned (.agg (doO sp x rs hint).cells) ∧ ∃ blk, w.heap.size ≤ blk ∧ SpTo w S v sp.rooms W3 (doS sp x rs hint blk)) := by
    intro W1 W2 sp' o blk b1 hsz1 hblk hT e1 e2 W3 h3
    exact ⟨by rw [e2], blk, hblk, by rw [e1]; exact hT.fin b1.turn hsz1 h3 hfl⟩
  obtain ⟨vs, vn, vc, rfl⟩ := hform
  have HAF := hide after
  have HFIN := hide fin
  have HX : Hid (x.ok) := hx
  have HP := hide hP
  subst hvd
  have hkl := kindN_lt x.kind
  have HSRC := hide hs
  clear after fin hP hB0 hsz hs3 h hr hs
  unfold OpN.cells at HP ⊢
  have hcase : kindN x.kind = 2 ∨ kindN x.kind = 3 ∨ kindN x.kind = 4 ∨ kindN x.kind = 5 ∨ kindN x.kind = 7 ∨ kindN x.kind = 8 ∨ kindN x.kind = 10 ∨ kindN x.kind = 0 ∨ kindN x.kind = 1 ∨ kindN x.kind = 6 ∨ kindN x.kind = 9 := by omega
  rcases hcase with hkk | hkk | hkk | hkk | hkk | hkk | hkk | hkk | hkk | hkk | hkk
  · have HS : Hid (∀ b, doS sp x rs hint b = mpS sp (placeN x rs) x.size x.prot x.data) := fun b => by unfold doS; rw [hkk]; rfl
    have HO : Hid (doO sp x rs hint = ⟨mpE sp (placeN x rs) x.size x.prot x.data, [], 0, false⟩) := by unfold Hid doO; rw [hkk]; rfl
    rw [hkk] at hkind
    have HOP := hide (fun W1 (h1 : SpAt W1 S v sp) (hu : Turn (· ∈ foot S v sp.rooms) w W1) => vm_Map W1 S v sp h1 hk (placeN x rs) x.size x.prot _ x.data hple hx.s1 (HSRC.out.turn hu) (by have := hx.d1; omega))
    clear hx hkk hkl
    go_enter Try.func19, Try.ntmps19
    go_wp2_with fail
    refine HP.out.mono ?_
    rintro e W1 ⟨rfl, hb⟩
    obtain ⟨b1, s1, z1⟩ := HAF.out W1 hb
    obtain ⟨c0, c1, c2, c3, c4, c5, c6⟩ := b1.cells
    have B1 := hide b1
    have S1 : Hid (SpAt W1 S v sp) := s1
    clear b1 s1 hb HP
    go_wp2_with (first | (go_at_call 18; refine (hkind _).mono ?_; rintro e w' ⟨rfl, hw⟩; rw [← hw]; clear hw))
    refine (HOP.out W1 S1.out B1.out.turn).mono ?_
    rintro e W2 ⟨rfl, p1, p2⟩
    obtain ⟨a0, a1, a2, a3, f0, f1, f2, f3⟩ := (B1.out.on p2 hfl).ansC
    have P1 : Hid (SpTo W1 S v sp.rooms W2 (mpS sp (placeN x rs) x.size x.prot x.data)) := SpTo.same p1 (mpS_foot _ _ _ _ _ _ _) p2
    clear p1 p2
    go_wp2
    refine bodyPost_ret (v := .agg (Out.cells ⟨mpE sp (placeN x rs) x.size x.prot x.data, [], 0, false⟩)) (by simp [results, Try.results19, go_sem, Out.cells, txt, a0, a1, a2, a3]) rfl (HFIN.out W1 _ _ ⟨mpE sp (placeN x rs) x.size x.prot x.data, [], 0, false⟩ w.heap.size B1.out z1 (Nat.le_refl _) P1.out (HS.out _) HO.out _ (turn_put4 _ _ _ _ _ _))
  · have HS : Hid (∀ b, doS sp x rs hint b = mpS sp (placeN x rs) x.size x.prot x.data) := fun b => by unfold doS; rw [hkk]; rfl
    have HO : Hid (doO sp x rs hint = ⟨mpE sp (placeN x rs) x.size x.prot x.data, [], 0, false⟩) := by unfold Hid doO; rw [hkk]; rfl
    rw [hkk] at hkind
    have HOP := hide (fun W1 (h1 : SpAt W1 S v sp) (hu : Turn (· ∈ foot S v sp.rooms) w W1) => vm_Map W1 S v sp h1 hk (placeN x rs) x.size x.prot _ x.data hple hx.s1 (HSRC.out.turn hu) (by have := hx.d1; omega))
    clear hx hkk hkl
    go_enter Try.func19, Try.ntmps19
    go_wp2_with fail
    refine HP.out.mono ?_
    rintro e W1 ⟨rfl, hb⟩
    obtain ⟨b1, s1, z1⟩ := HAF.out W1 hb
    obtain ⟨c0, c1, c2, c3, c4, c5, c6⟩ := b1.cells
    have B1 := hide b1
    have S1 : Hid (SpAt W1 S v sp) := s1
    clear b1 s1 hb HP
    go_wp2_with (first | (go_at_call 18; refine (hkind _).mono ?_; rintro e w' ⟨rfl, hw⟩; rw [← hw]; clear hw))
    refine (HOP.out W1 S1.out B1.out.turn).mono ?_
    rintro e W2 ⟨rfl, p1, p2⟩
    obtain ⟨a0, a1, a2, a3, f0, f1, f2, f3⟩ := (B1.out.on p2 hfl).ansC
    have P1 : Hid (SpTo W1 S v sp.rooms W2 (mpS sp (placeN x rs) x.size x.prot x.data)) := SpTo.same p1 (mpS_foot _ _ _ _ _ _ _) p2
    clear p1 p2
    go_wp2
    refine bodyPost_ret (v := .agg (Out.cells ⟨mpE sp (placeN x rs) x.size x.prot x.data, [], 0, false⟩)) (by simp [results, Try.results19, go_sem, Out.cells, txt, a0, a1, a2, a3]) rfl (HFIN.out W1 _ _ ⟨mpE sp (placeN x rs) x.size x.prot x.data, [], 0, false⟩ w.heap.size B1.out z1 (Nat.le_refl _) P1.out (HS.out _) HO.out _ (turn_put4 _ _ _ _ _ _))
  · have HS : Hid (∀ b, doS sp x rs hint b = prS sp (placeN x rs) x.size x.prot) := fun b => by unfold doS; rw [hkk]; rfl
    have HO : Hid (doO sp x rs hint = ⟨prE sp (placeN x rs) x.size x.prot, [], 0, false⟩) := by unfold Hid doO; rw [hkk]; rfl
    rw [hkk] at hkind
    have HOP := hide (fun W1 (h1 : SpAt W1 S v sp) (hu : Turn (· ∈ foot S v sp.rooms) w W1) => vm_Protect W1 S v sp h1 hk (placeN x rs) x.size x.prot hple hx.s1)
    clear hx hkk hkl
    go_enter Try.func19, Try.ntmps19
    go_wp2_with fail
    refine HP.out.mono ?_
    rintro e W1 ⟨rfl, hb⟩
    obtain ⟨b1, s1, z1⟩ := HAF.out W1 hb
    obtain ⟨c0, c1, c2, c3, c4, c5, c6⟩ := b1.cells
    have B1 := hide b1
    have S1 : Hid (SpAt W1 S v sp) := s1
    clear b1 s1 hb HP
    go_wp2_with (first | (go_at_call 18; refine (hkind _).mono ?_; rintro e w' ⟨rfl, hw⟩; rw [← hw]; clear hw))
    refine (HOP.out W1 S1.out B1.out.turn).mono ?_
    rintro e W2 ⟨rfl, p1, p2⟩
    obtain ⟨a0, a1, a2, a3, f0, f1, f2, f3⟩ := (B1.out.on p2 hfl).ansC
    have P1 : Hid (SpTo W1 S v sp.rooms W2 (prS sp (placeN x rs) x.size x.prot)) := SpTo.same p1 (prS_foot _ _ _ _ _ _) p2
    clear p1 p2
    go_wp2
    refine bodyPost_ret (v := .agg (Out.cells ⟨prE sp (placeN x rs) x.size x.prot, [], 0, false⟩)) (by simp [results, Try.results19, go_sem, Out.cells, txt, a0, a1, a2, a3]) rfl (HFIN.out W1 _ _ ⟨prE sp (placeN x rs) x.size x.prot, [], 0, false⟩ w.heap.size B1.out z1 (Nat.le_refl _) P1.out (HS.out _) HO.out _ (turn_put4 _ _ _ _ _ _))
  · have HS : Hid (∀ b, doS sp x rs hint b = rlS sp (placeN x rs)) := fun b => by unfold doS; rw [hkk]; rfl
    have HO : Hid (doO sp x rs hint = ⟨rlE sp (placeN x rs), [], 0, false⟩) := by unfold Hid doO; rw [hkk]; rfl
    rw [hkk] at hkind
    have HOP := hide (fun W1 (h1 : SpAt W1 S v sp) (hu : Turn (· ∈ foot S v sp.rooms) w W1) => vm_Release W1 S v sp h1 hk (placeN x rs) hple)
    clear hx hkk hkl
    go_enter Try.func19, Try.ntmps19
    go_wp2_with fail
    refine HP.out.mono ?_
    rintro e W1 ⟨rfl, hb⟩
    obtain ⟨b1, s1, z1⟩ := HAF.out W1 hb
    obtain ⟨c0, c1, c2, c3, c4, c5, c6⟩ := b1.cells
    have B1 := hide b1
    have S1 : Hid (SpAt W1 S v sp) := s1
    clear b1 s1 hb HP
    go_wp2_with (first | (go_at_call 18; refine (hkind _).mono ?_; rintro e w' ⟨rfl, hw⟩; rw [← hw]; clear hw))
    refine (HOP.out W1 S1.out B1.out.turn).mono ?_
    rintro e W2 ⟨rfl, p1, p2⟩
    obtain ⟨a0, a1, a2, a3, f0, f1, f2, f3⟩ := (B1.out.on p2 hfl).ansC
    have P1 : Hid (SpTo W1 S v sp.rooms W2 (rlS sp (placeN x rs))) := (by obtain ⟨v', q1, q2⟩ := p1; exact ⟨⟨v', q1, fun k hk => .inl (rlS_foot _ _ _ _ _ q2 k hk)⟩, p2⟩)
    clear p1 p2
    go_wp2
    refine bodyPost_ret (v := .agg (Out.cells ⟨rlE sp (placeN x rs), [], 0, false⟩)) (by simp [results, Try.results19, go_sem, Out.cells, txt, a0, a1, a2, a3]) rfl (HFIN.out W1 _ _ ⟨rlE sp (placeN x rs), [], 0, false⟩ w.heap.size B1.out z1 (Nat.le_refl _) P1.out (HS.out _) HO.out _ (turn_put4 _ _ _ _ _ _))
  · have HS : Hid (∀ b, doS sp x rs hint b = wrS sp (placeN x rs) x.data) := fun b => by unfold doS; rw [hkk]; rfl
    have HO : Hid (doO sp x rs hint = ⟨wrE sp (placeN x rs) x.data, [], 0, false⟩) := by unfold Hid doO; rw [hkk]; rfl
    rw [hkk] at hkind
    have HOP := hide (fun W1 (h1 : SpAt W1 S v sp) (hu : Turn (· ∈ foot S v sp.rooms) w W1) => vm_Write W1 S v sp h1 hk (placeN x rs) hple _ x.data (HSRC.out.turn hu) (by have := hx.d1; omega))
    clear hx hkk hkl
    go_enter Try.func19, Try.ntmps19
    go_wp2_with fail
    refine HP.out.mono ?_
    rintro e W1 ⟨rfl, hb⟩
    obtain ⟨b1, s1, z1⟩ := HAF.out W1 hb
    obtain ⟨c0, c1, c2, c3, c4, c5, c6⟩ := b1.cells
    have B1 := hide b1
    have S1 : Hid (SpAt W1 S v sp) := s1
    clear b1 s1 hb HP
    go_wp2_with (first | (go_at_call 18; refine (hkind _).mono ?_; rintro e w' ⟨rfl, hw⟩; rw [← hw]; clear hw))
    refine (HOP.out W1 S1.out B1.out.turn).mono ?_
    rintro e W2 ⟨rfl, p1, p2⟩
    obtain ⟨a0, a1, a2, a3, f0, f1, f2, f3⟩ := (B1.out.on p2 hfl).ansC
    have P1 : Hid (SpTo W1 S v sp.rooms W2 (wrS sp (placeN x rs) x.data)) := SpTo.same p1 (wrS_foot _ _ _ _ _) p2
    clear p1 p2
    go_wp2
    refine bodyPost_ret (v := .agg (Out.cells ⟨wrE sp (placeN x rs) x.data, [], 0, false⟩)) (by simp [results, Try.results19, go_sem, Out.cells, txt, a0, a1, a2, a3]) rfl (HFIN.out W1 _ _ ⟨wrE sp (placeN x rs) x.data, [], 0, false⟩ w.heap.size B1.out z1 (Nat.le_refl _) P1.out (HS.out _) HO.out _ (turn_put4 _ _ _ _ _ _))
  · have HS : Hid (∀ b, doS sp x rs hint b = wrS sp (placeN x rs) x.data) := fun b => by unfold doS; rw [hkk]; rfl
    have HO : Hid (doO sp x rs hint = ⟨wrE sp (placeN x rs) x.data, [], 0, false⟩) := by unfold Hid doO; rw [hkk]; rfl
    rw [hkk] at hkind
    have HOP := hide (fun W1 (h1 : SpAt W1 S v sp) (hu : Turn (· ∈ foot S v sp.rooms) w W1) => vm_Write W1 S v sp h1 hk (placeN x rs) hple _ x.data (HSRC.out.turn hu) (by have := hx.d1; omega))
    clear hx hkk hkl
    go_enter Try.func19, Try.ntmps19
    go_wp2_with fail
    refine HP.out.mono ?_
    rintro e W1 ⟨rfl, hb⟩
    obtain ⟨b1, s1, z1⟩ := HAF.out W1 hb
    obtain ⟨c0, c1, c2, c3, c4, c5, c6⟩ := b1.cells
    have B1 := hide b1
    have S1 : Hid (SpAt W1 S v sp) := s1
    clear b1 s1 hb HP
    go_wp2_with (first | (go_at_call 18; refine (hkind _).mono ?_; rintro e w' ⟨rfl, hw⟩; rw [← hw]; clear hw))
    refine (HOP.out W1 S1.out B1.out.turn).mono ?_
    rintro e W2 ⟨rfl, p1, p2⟩
    obtain ⟨a0, a1, a2, a3, f0, f1, f2, f3⟩ := (B1.out.on p2 hfl).ansC
    have P1 : Hid (SpTo W1 S v sp.rooms W2 (wrS sp (placeN x rs) x.data)) := SpTo.same p1 (wrS_foot _ _ _ _ _) p2
    clear p1 p2
    go_wp2
    refine bodyPost_ret (v := .agg (Out.cells ⟨wrE sp (placeN x rs) x.data, [], 0, false⟩)) (by simp [results, Try.results19, go_sem, Out.cells, txt, a0, a1, a2, a3]) rfl (HFIN.out W1 _ _ ⟨wrE sp (placeN x rs) x.data, [], 0, false⟩ w.heap.size B1.out z1 (Nat.le_refl _) P1.out (HS.out _) HO.out _ (turn_put4 _ _ _ _ _ _))
  · have HS : Hid (∀ b, doS sp x rs hint b = wrS sp (placeN x rs) (leN 8 x.hint)) := fun b => by unfold doS; rw [hkk]; rfl
    have HO : Hid (doO sp x rs hint = ⟨wrE sp (placeN x rs) (leN 8 x.hint), [], 0, false⟩) := by unfold Hid doO; rw [hkk]; rfl
    rw [hkk] at hkind
    have HOP := hide (fun W1 (h1 : SpAt W1 S v sp) (hu : Turn (· ∈ foot S v sp.rooms) w W1) => vm_Store W1 S v sp h1 hk (placeN x rs) hple x.hint hx.h1)
    clear hx hkk hkl
    go_enter Try.func19, Try.ntmps19
    go_wp2_with fail
    refine HP.out.mono ?_
    rintro e W1 ⟨rfl, hb⟩
    obtain ⟨b1, s1, z1⟩ := HAF.out W1 hb
    obtain ⟨c0, c1, c2, c3, c4, c5, c6⟩ := b1.cells
    have B1 := hide b1
    have S1 : Hid (SpAt W1 S v sp) := s1
    clear b1 s1 hb HP
    go_wp2_with (first | (go_at_call 18; refine (hkind _).mono ?_; rintro e w' ⟨rfl, hw⟩; rw [← hw]; clear hw))
    refine (HOP.out W1 S1.out B1.out.turn).mono ?_
    rintro e W2 ⟨rfl, p1, p2⟩
    obtain ⟨a0, a1, a2, a3, f0, f1, f2, f3⟩ := (B1.out.on p2 hfl).ansC
    have P1 : Hid (SpTo W1 S v sp.rooms W2 (wrS sp (placeN x rs) (leN 8 x.hint))) := SpTo.same p1 (wrS_foot _ _ _ _ _) p2
    clear p1 p2
    go_wp2
    refine bodyPost_ret (v := .agg (Out.cells ⟨wrE sp (placeN x rs) (leN 8 x.hint), [], 0, false⟩)) (by simp [results, Try.results19, go_sem, Out.cells, txt, a0, a1, a2, a3]) rfl (HFIN.out W1 _ _ ⟨wrE sp (placeN x rs) (leN 8 x.hint), [], 0, false⟩ w.heap.size B1.out z1 (Nat.le_refl _) P1.out (HS.out _) HO.out _ (turn_put4 _ _ _ _ _ _))
  · have HS : Hid (∀ b, doS sp x rs hint b = rvS sp hint (x.size % 70) b) := fun b => by unfold doS; rw [hkk]; rfl
    have HO : Hid (doO sp x rs hint = ⟨rvE sp (x.size % 70), [], rvP sp hint (x.size % 70), rvE sp (x.size % 70) == 0⟩) := by unfold Hid doO; rw [hkk]; rfl
    rw [hkk] at hkind
    have hop := fun W1 (h1 : SpAt W1 S v sp) => vm_Reserve W1 S v sp h1 hk hint (x.size % 70) hh (by omega)
    rw [show ((x.size % 70 : Nat) : Int) = (x.size : Int) % 70 by omega] at hop
    have HOP := hide hop
    have hw0 : IntKind.i64.wrap ((x.size : Int) % 70) = (x.size : Int) % 70 := IntWalk.i64_in _ (by omega)
    clear hx hkk hkl hop
    have hec : (rvE sp (x.size % 70) = 0 ∧ ((rvE sp (x.size % 70) : Int) == 0) = true ∧ (rvE sp (x.size % 70) == 0) = true) ∨ (((rvE sp (x.size % 70) : Int) == 0) = false ∧ (rvE sp (x.size % 70) == 0) = false) := by
      by_cases h : rvE sp (x.size % 70) = 0
      · exact .inl ⟨h, by rw [h]; rfl, by rw [h]; rfl⟩
      · exact .inr ⟨by rw [beq_eq_false_iff_ne]; omega, by rw [beq_eq_false_iff_ne]; exact h⟩
    go_enter Try.func19, Try.ntmps19
    go_wp2_with fail
    refine HP.out.mono ?_
    rintro e W1 ⟨rfl, hb⟩
    obtain ⟨b1, s1, z1⟩ := HAF.out W1 hb
    obtain ⟨c0, c1, c2, c3, c4, c5, c6⟩ := b1.cells
    have B1 := hide b1
    have S1 : Hid (SpAt W1 S v sp) := s1
    clear b1 s1 hb HP
    go_wp2_with (first | (go_at_call 18; refine (hkind _).mono ?_; rintro e w' ⟨rfl, hw⟩; rw [← hw]; clear hw))
    refine (HOP.out W1 S1.out).mono ?_
    rintro e W2 ⟨rfl, p1, p2⟩
    obtain ⟨blk, hblk, P1⟩ := p1.to p2
    obtain ⟨a0, a1, a2, a3, f0, f1, f2, f3⟩ := (B1.out.on p2 hfl).ansC
    have P1 := hide P1
    clear p1 p2
    generalize rvE sp (x.size % 70) = E at *
    generalize rvP sp hint (x.size % 70) = P at *
    rcases hec with ⟨he, he1, he2⟩ | ⟨he1, he2⟩
    · subst he
      go_wp2
      refine bodyPost_ret (v := .agg (Out.cells ⟨0, [], P, true⟩)) (by simp [results, Try.results19, go_sem, Out.cells, txt, a0, a1, a2, a3]) rfl (HFIN.out W1 _ _ ⟨0, [], P, true⟩ blk B1.out z1 (by omega) P1.out (HS.out _) HO.out _ (turn_put4 _ _ _ _ _ _))
    · rw [he2] at HO
      go_wp2
      refine bodyPost_ret (v := .agg (Out.cells ⟨E, [], P, false⟩)) (by simp [results, Try.results19, go_sem, Out.cells, txt, a0, a1, a2, a3]) rfl (HFIN.out W1 _ _ ⟨E, [], P, false⟩ blk B1.out z1 (by omega) P1.out (HS.out _) HO.out _ (turn_put4 _ _ _ _ _ _))
  · have HS : Hid (∀ b, doS sp x rs hint b = rvS sp hint (x.size % 70) b) := fun b => by unfold doS; rw [hkk]; rfl
    have HO : Hid (doO sp x rs hint = ⟨rvE sp (x.size % 70), [], rvP sp hint (x.size % 70), rvE sp (x.size % 70) == 0⟩) := by unfold Hid doO; rw [hkk]; rfl
    rw [hkk] at hkind
    have hop := fun W1 (h1 : SpAt W1 S v sp) => vm_Reserve W1 S v sp h1 hk hint (x.size % 70) hh (by omega)
    rw [show ((x.size % 70 : Nat) : Int) = (x.size : Int) % 70 by omega] at hop
    have HOP := hide hop
    have hw0 : IntKind.i64.wrap ((x.size : Int) % 70) = (x.size : Int) % 70 := IntWalk.i64_in _ (by omega)
    clear hx hkk hkl hop
    have hec : (rvE sp (x.size % 70) = 0 ∧ ((rvE sp (x.size % 70) : Int) == 0) = true ∧ (rvE sp (x.size % 70) == 0) = true) ∨ (((rvE sp (x.size % 70) : Int) == 0) = false ∧ (rvE sp (x.size % 70) == 0) = false) := by
      by_cases h : rvE sp (x.size % 70) = 0
      · exact .inl ⟨h, by rw [h]; rfl, by rw [h]; rfl⟩
      · exact .inr ⟨by rw [beq_eq_false_iff_ne]; omega, by rw [beq_eq_false_iff_ne]; exact h⟩
    go_enter Try.func19, Try.ntmps19
    go_wp2_with fail
    refine HP.out.mono ?_
    rintro e W1 ⟨rfl, hb⟩
    obtain ⟨b1, s1, z1⟩ := HAF.out W1 hb
    obtain ⟨c0, c1, c2, c3, c4, c5, c6⟩ := b1.cells
    have B1 := hide b1
    have S1 : Hid (SpAt W1 S v sp) := s1
    clear b1 s1 hb HP
    go_wp2_with (first | (go_at_call 18; refine (hkind _).mono ?_; rintro e w' ⟨rfl, hw⟩; rw [← hw]; clear hw))
    refine (HOP.out W1 S1.out).mono ?_
    rintro e W2 ⟨rfl, p1, p2⟩
    obtain ⟨blk, hblk, P1⟩ := p1.to p2
    obtain ⟨a0, a1, a2, a3, f0, f1, f2, f3⟩ := (B1.out.on p2 hfl).ansC
    have P1 := hide P1
    clear p1 p2
    generalize rvE sp (x.size % 70) = E at *
    generalize rvP sp hint (x.size % 70) = P at *
    rcases hec with ⟨he, he1, he2⟩ | ⟨he1, he2⟩
    · subst he
      go_wp2
      refine bodyPost_ret (v := .agg (Out.cells ⟨0, [], P, true⟩)) (by simp [results, Try.results19, go_sem, Out.cells, txt, a0, a1, a2, a3]) rfl (HFIN.out W1 _ _ ⟨0, [], P, true⟩ blk B1.out z1 (by omega) P1.out (HS.out _) HO.out _ (turn_put4 _ _ _ _ _ _))
    · rw [he2] at HO
      go_wp2
      refine bodyPost_ret (v := .agg (Out.cells ⟨E, [], P, false⟩)) (by simp [results, Try.results19, go_sem, Out.cells, txt, a0, a1, a2, a3]) rfl (HFIN.out W1 _ _ ⟨E, [], P, false⟩ blk B1.out z1 (by omega) P1.out (HS.out _) HO.out _ (turn_put4 _ _ _ _ _ _))
  · have HS : Hid (∀ b, doS sp x rs hint b = sp) := fun b => by unfold doS; rw [hkk]; rfl
    have HO : Hid (doO sp x rs hint = ⟨rdE sp (placeN x rs) x.size, rdB sp (placeN x rs) x.size, 0, false⟩) := by unfold Hid doO; rw [hkk]; rfl
    rw [hkk] at hkind
    have HOP := hide (fun W1 (h1 : SpAt W1 S v sp) => vm_Read W1 S v sp h1 hk (placeN x rs) x.size hple hx.s1)
    clear hx hkk hkl
    go_enter Try.func19, Try.ntmps19
    go_wp2_with fail
    refine HP.out.mono ?_
    rintro e W1 ⟨rfl, hb⟩
    obtain ⟨b1, s1, z1⟩ := HAF.out W1 hb
    obtain ⟨c0, c1, c2, c3, c4, c5, c6⟩ := b1.cells
    have B1 := hide b1
    have S1 : Hid (SpAt W1 S v sp) := s1
    clear b1 s1 hb HP
    go_wp2_with (first | (go_at_call 18; refine (hkind _).mono ?_; rintro e w' ⟨rfl, hw⟩; rw [← hw]; clear hw))
    refine (HOP.out W1 S1.out).mono ?_
    rintro e W2 ⟨⟨vb, rfl, q1⟩, q2⟩
    have p2 : Turn (· ∈ foot S v sp.rooms) W1 W2 := Turn.of_below q2
    obtain ⟨a0, a1, a2, a3, f0, f1, f2, f3⟩ := (B1.out.on p2 hfl).ansC
    have P1 : Hid (SpTo W1 S v sp.rooms W2 sp) := SpTo.same (S1.out.stay q2) (fun k hk => hk) p2
    have hconv := q1.text
    obtain ⟨ba, bc, rfl, _, _, _⟩ := q1
    clear p2 q2
    generalize rdB sp (placeN x rs) x.size = RB at *
    go_wp2
    refine bodyPost_ret (v := .agg (Out.cells ⟨rdE sp (placeN x rs) x.size, RB, 0, false⟩)) (by simp [results, Try.results19, go_sem, Out.cells, a0, a1, a2, a3]) rfl (HFIN.out W1 _ _ ⟨rdE sp (placeN x rs) x.size, RB, 0, false⟩ w.heap.size B1.out z1 (Nat.le_refl _) P1.out (HS.out _) HO.out _ (turn_put4 _ _ _ _ _ _))
  · have HS : Hid (∀ b, doS sp x rs hint b = sp) := fun b => by unfold doS; rw [hkk]; rfl
    have HO : Hid (doO sp x rs hint = ⟨rdE sp (placeN x rs) 8, leN 8 (ldN sp (placeN x rs)), 0, false⟩) := by unfold Hid doO; rw [hkk]; rfl
    rw [hkk] at hkind
    have HOP := hide (fun W1 (h1 : SpAt W1 S v sp) => vm_Load W1 S v sp h1 hk (placeN x rs) hple)
    have hld : (ldN sp (placeN x rs) : Int) ≤ 18446744073709551615 := ldN_le sp (placeN x rs) hk
    have HPT := hide (fun W1 => ref_Put8 W1 (ldN sp (placeN x rs)) hld)
    clear hx hkk hkl hld
    go_enter Try.func19, Try.ntmps19
    go_wp2_with fail
    refine HP.out.mono ?_
    rintro e W1 ⟨rfl, hb⟩
    obtain ⟨b1, s1, z1⟩ := HAF.out W1 hb
    obtain ⟨c0, c1, c2, c3, c4, c5, c6⟩ := b1.cells
    have B1 := hide b1
    have S1 : Hid (SpAt W1 S v sp) := s1
    clear b1 s1 hb HP
    go_wp2_with (first | (go_at_call 18; refine (hkind _).mono ?_; rintro e w' ⟨rfl, hw⟩; rw [← hw]; clear hw))
    refine (HOP.out W1 S1.out).mono ?_
    rintro e W2 ⟨rfl, q2⟩
    go_wp2_with fail
    refine (HPT.out W2).mono ?_
    rintro e W3 ⟨vb, rfl, q3, q4⟩
    have q5 : Below W1.heap.size W1 W3 := q2.trans (q4.mono q2.size)
    have p2 : Turn (· ∈ foot S v sp.rooms) W1 W3 := Turn.of_below q5
    obtain ⟨a0, a1, a2, a3, f0, f1, f2, f3⟩ := (B1.out.on p2 hfl).ansC
    have P1 : Hid (SpTo W1 S v sp.rooms W3 sp) := SpTo.same (S1.out.stay q5) (fun k hk => hk) p2
    have hconv : (convert 44 9 vb).run Try.prog W3 = .ok (.string (txt (leN 8 (ldN sp (placeN x rs))))) W3 := q3.text (by intro e; have := leN_length 8 (ldN sp (placeN x rs)); rw [e] at this; simp at this)
    obtain ⟨ba, bn, bc, rfl⟩ := q3.isSlice
    clear p2 q2 q4 q5 q3
    generalize leN 8 (ldN sp (placeN x rs)) = RB at *
    go_wp2
    refine bodyPost_ret (v := .agg (Out.cells ⟨rdE sp (placeN x rs) 8, RB, 0, false⟩)) (by simp [results, Try.results19, go_sem, Out.cells, a0, a1, a2, a3]) rfl (HFIN.out W1 _ _ ⟨rdE sp (placeN x rs) 8, RB, 0, false⟩ w.heap.size B1.out z1 (Nat.le_refl _) P1.out (HS.out _) HO.out _ (turn_put4 _ _ _ _ _ _))
end Go.Proofs.Ytdecbnmibjcnaaa
