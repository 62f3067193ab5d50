
/-
  A room's pages are turned; Write and Store keep their contracts.
-/
import Derived.Test.YtdecbnmibjcnaaaVmI
set_option linter.unusedVariables false
namespace Go.Proofs.Ytdecbnmibjcnaaa
open Go.RowKit Go.PlainAid Go.Sort
/-- The blocks of a space. -/
def foot (S : Nat) (v : Value) (l : List Rm) : List Nat := S :: (v.ownBlock.toList ++ l.map Rm.blk)
theorem map_set_same {α β : Type} (f : α → β) (l : List α) (b : Nat) (r y : α) (h : l[b]? = some r) (hf : f y = f r) : (l.set b y).map f = l.map f := by
  apply List.ext_getElem?
  intro j
  rw [List.getElem?_map, List.getElem?_map, List.getElem?_set]
  split
  · rename_i hj
    subst hj
    split
    · rw [h]; simp [hf]
    · rename_i hlt
      rw [List.getElem?_eq_none (by omega)] at h
      cases h
  · rfl
theorem used_map (l : List Rm) : used l = (l.map (fun r => r.pages.length)).sum := by
  induction l with
  | nil => rfl
  | cons r l ih => simp [used, ih]
theorem flatR_map (l : List Rm) : flatR l = (l.map Rm.cells).flatten := by unfold flatR; rw [List.flatMap_def]
theorem mem_set_cases {α : Type} {l : List α} {b : Nat} {x y : α} (h : x ∈ l.set b y) : x = y ∨ ∃ j, j ≠ b ∧ l[j]? = some x := by
  obtain ⟨j, hj⟩ := List.getElem?_of_mem h
  rw [List.getElem?_set] at hj
  split at hj
  · split at hj
    · exact .inl (by injection hj with hj; exact hj.symm)
    · cases hj
  · rename_i hne
    exact .inr ⟨j, fun e => hne e.symm, hj⟩
/-- The space with other pages in one room. -/
def Sp.put (sp : Sp) (b : Nat) (r : Rm) (ps : List Sh) : Sp := { sp with rooms := sp.rooms.set b { r with pages := ps } }
theorem Sp.put_blk (sp : Sp) (b : Nat) (r : Rm) (ps : List Sh) (h : sp.rooms[b]? = some r) : (sp.put b r ps).rooms.map Rm.blk = sp.rooms.map Rm.blk := map_set_same _ _ _ _ _ h rfl
theorem Sp.put_foot (sp : Sp) (b : Nat) (r : Rm) (ps : List Sh) (h : sp.rooms[b]? = some r) (S : Nat) (v : Value) : foot S v (sp.put b r ps).rooms = foot S v sp.rooms := by
  unfold foot; rw [Sp.put_blk sp b r ps h]
theorem Sp.put_ok {sp : Sp} (hk : sp.ok) {b : Nat} {r : Rm} {ps : List Sh} (h : sp.rooms[b]? = some r) (hl : ps.length = r.pages.length) (he : ∀ s ∈ ps, s.ok) : (sp.put b r ps).ok := by
  have hr := hk.each r (List.mem_of_getElem? h)
  have e1 : (sp.put b r ps).rooms.map (fun r => r.pages.length) = sp.rooms.map (fun r => r.pages.length) := map_set_same _ _ _ _ _ h hl
  have e2 : (sp.put b r ps).rooms.map (fun r => (r.pos, r.fin)) = sp.rooms.map (fun r => (r.pos, r.fin)) := map_set_same _ _ _ _ _ h (by simp [Rm.fin, Rm.size, hl])
  refine ⟨hk.b0, hk.b1, ?_, ?_, ?_⟩
  · rw [used_map, e1, ← used_map]; exact hk.use
  · intro x hx
    rcases mem_set_cases hx with rfl | ⟨j, _, hj⟩
    · exact ⟨hr.low, hr.page, by have := hr.top; unfold Rm.fin Rm.size at this ⊢; rw [hl]; exact this, by show 1 ≤ ps.length; rw [hl]; exact hr.one, by show ps.length ≤ 64; rw [hl]; exact hr.most, by show ps.length ≤ r.cap; rw [hl]; exact hr.cap0, hr.cap1, he⟩
    · exact hk.each x (List.mem_of_getElem? hj)
  · have h1 := hk.srt
    have : ((sp.put b r ps).rooms.map (fun r => (r.pos, r.fin))).Pairwise (fun a b => a.2 ≤ b.1) := by
      rw [e2, List.pairwise_map]; exact h1
    rw [List.pairwise_map] at this
    exact this
theorem SpAt.nodB {w : World} {S : Nat} {v : Value} {sp : Sp} (h : SpAt w S v sp) : (sp.rooms.map Rm.blk).Nodup := by
  have := h.nod
  rw [List.nodup_cons] at this
  exact (List.nodup_append.1 this.2).2.1
theorem SpAt.apart {w : World} {S : Nat} {v : Value} {sp : Sp} (h : SpAt w S v sp) {r : Rm} (hr : r ∈ sp.rooms) : S ≠ r.blk ∧ ∀ g, v.ownBlock = some g → g ≠ r.blk := by
  have := h.nod
  rw [List.nodup_cons] at this
  refine ⟨fun e => this.1 (by rw [e]; exact List.mem_append_right _ (List.mem_map_of_mem hr)), fun g hg => ?_⟩
  exact (List.nodup_append.1 this.2).2.2 g (by rw [hg]; simp) r.blk (List.mem_map_of_mem hr)
theorem SpAt.put {w w' : World} {S : Nat} {v : Value} {sp : Sp} (h : SpAt w S v sp) {b : Nat} {r : Rm} (hr : sp.rooms[b]? = some r) {ps : List Sh} (hl : ps.length = r.pages.length)
    (hh : Holds w' r.blk 88 (flatS ps)) (ht : Turn (· = r.blk) w w') : SpAt w' S v (sp.put b r ps) := by
  have hm := List.mem_of_getElem? hr
  obtain ⟨ha, hb⟩ := h.apart hm
  have e1 : flatR (sp.put b r ps).rooms = flatR sp.rooms := by
    rw [flatR_map, flatR_map]
    congr 1
    exact map_set_same _ _ _ _ _ hr (by simp [Rm.cells, Rm.sl, hl])
  have e2 : (sp.put b r ps).rooms.length = sp.rooms.length := by simp [Sp.put]
  refine ⟨by rw [ht.block S h.lt ha]; exact h.head, ?_, ?_, ?_⟩
  · rw [e1, e2]
    refine ⟨h.row.1, ?_⟩
    rcases h.row.2 with h1 | ⟨g, cap, cur, rfl, h2, hg, h3⟩
    · exact .inl h1
    · exact .inr ⟨g, cap, cur, rfl, h2, by rw [ht.block g (Array.getElem?_eq_some_iff.1 hg).1 (hb g rfl)]; exact hg, h3⟩
  · intro x hx
    rcases mem_set_cases hx with rfl | ⟨j, hj, hx⟩
    · exact hh
    · refine (h.pgs x (List.mem_of_getElem? hx)).turn ht (fun e => hj ?_)
      have hjl : j < (sp.rooms.map Rm.blk).length := by
        have := (List.getElem?_eq_some_iff.1 hx).1
        simpa using this
      refine (List.getElem?_inj hjl h.nodB).1 ?_
      rw [List.getElem?_map, List.getElem?_map, hx, hr]
      simp [e]
  · rw [Sp.put_blk sp b r ps hr]; exact h.nod
/-- The pages of a room behind a write. -/
def Rm.laid (r : Rm) (a : Nat) (d : List UInt8) : List Sh := r.pages.take (r.lo a) ++ layL (r.cut a d.length) (a % 256) d ++ r.pages.drop (r.hi a d.length)
theorem Rm.parts (r : Rm) (a n : Nat) (h : r.lo a ≤ r.hi a n) : r.pages.take (r.lo a) ++ r.cut a n ++ r.pages.drop (r.hi a n) = r.pages := by
  unfold Rm.cut
  have : r.hi a n = r.lo a + (r.hi a n - r.lo a) := by omega
  generalize r.hi a n - r.lo a = k at *
  rw [this, List.append_assoc, ← List.drop_drop, List.take_append_drop, List.take_append_drop]
theorem Rm.laid_len (r : Rm) (a : Nat) (d : List UInt8) (h : r.lo a ≤ r.hi a d.length) : (r.laid a d).length = r.pages.length := by
  have := congrArg List.length (r.parts a d.length h)
  unfold Rm.laid
  simp only [List.length_append, layL_len] at this ⊢
  exact this
theorem Rm.laid_ok {r : Rm} (hr : r.ok) (a : Nat) (d : List UInt8) : ∀ s ∈ r.laid a d, s.ok := by
  intro s hs
  unfold Rm.laid at hs
  simp only [List.mem_append] at hs
  rcases hs with (hs | hs) | hs
  · exact hr.each s (List.mem_of_mem_take hs)
  · exact layL_mem (fun x hx => hr.each x (Rm.cut_mem hx)) (by omega) s hs
  · exact hr.each s (List.mem_of_mem_drop hs)
/-- What Write answers, and the space behind it. -/
def wrE (sp : Sp) (a : Nat) (d : List UInt8) : Nat := match got sp.rooms a d.length (some 2) with
  | .error e => e
  | .ok _ => 0
def wrS (sp : Sp) (a : Nat) (d : List UInt8) : Sp := match got sp.rooms a d.length (some 2) with
  | .ok (some r) => sp.put (begun sp.rooms a - 1) r (r.laid a d)
  | _ => sp
theorem got_some {l : List Rm} {a n : Nat} {t : Option Nat} {r : Rm} (h : got l a n t = .ok (some r)) : hit l a n = some r ∧ n ≠ 0 := by
  unfold got at h
  cases hh : hit l a n with
  | none => rw [hh] at h; simp at h
  | some r' =>
    rw [hh] at h
    by_cases hz : n = 0
    · simp [hz] at h
    · simp only [if_neg hz] at h
      split at h
      · cases h
      · cases t with
        | none => simp at h; subst h; exact ⟨rfl, hz⟩
        | some t =>
          simp only at h
          split at h
          · cases h
          · simp at h; subst h; exact ⟨rfl, hz⟩
theorem Src.sub {w : World} {F G : Nat → Prop} {v : Value} {l : List UInt8} (h : Src w F v l) (hs : ∀ k, G k → F k) : Src w G v l := by
  obtain ⟨a, cap, rfl, h1, h2, h3⟩ := h
  refine ⟨a, cap, rfl, h1, h2, ?_⟩
  rcases h3 with h3 | ⟨x, rfl, hx, hc⟩
  · exact .inl h3
  · exact .inr ⟨x, rfl, hx.imp id (fun e h => e (hs _ h)), hc⟩
theorem SpAt.blk_foot {sp : Sp} {S : Nat} {v : Value} {r : Rm} (hr : r ∈ sp.rooms) : r.blk ∈ foot S v sp.rooms := List.mem_cons_of_mem _ (List.mem_append_right _ (List.mem_map_of_mem hr))
set_option maxHeartbeats 2000000 in
theorem vm_Write (w : World) (S : Nat) (v : Value) (sp : Sp) (h : SpAt w S v sp) (hk : sp.ok) (a : Nat) (ha : (a : Int) ≤ 18446744073709551615) (vd : Value) (d : List UInt8) (hs : Src w (· ∈ foot S v sp.rooms) vd d) (hd : d.length ≤ 1000000) :
    Calls Try.prog 24 #[.pointer (some ⟨S, 0, none⟩), .int .u64 a, vd] w fun e w' => e = .returned (.int .i64 (wrE sp a d)) ∧ SpAt w' S v (wrS sp a d) ∧ Turn (· ∈ foot S v sp.rooms) w w' := by
  have hA := vm_allowed w S v sp h hk a d.length 2 ha (by omega) (.inr rfl)
  have HSP : Hid (SpAt w S v sp) := h
  have HSRC : Hid (Src w (· ∈ foot S v sp.rooms) vd d) := hs
  obtain ⟨sa, sc, rfl, hs1, hs2, _⟩ := hs
  have hsc : sc ≤ 9223372036854775807 := by unfold maxLen at hs2; omega
  cases hg : got sp.rooms a d.length (some 2) with
  | error e0 =>
    have he : e0 = 52 ∨ e0 = 54 := by
      unfold got at hg
      cases hh : hit sp.rooms a d.length with
      | none => rw [hh] at hg; simp at hg; omega
      | some r =>
        rw [hh] at hg
        by_cases hz : d.length = 0
        · simp [hz] at hg
        · simp only [if_neg hz] at hg
          split at hg
          · simp at hg; omega
          · split at hg
            · simp at hg; omega
            · cases hg
    have HE : Hid (wrE sp a d = e0 ∧ wrS sp a d = sp) := by unfold Hid wrE wrS; rw [hg]; exact ⟨rfl, rfl⟩
    rw [hg] at hA
    unfold gotV at hA
    clear hg h
    have hne : ((e0 : Int) == 0) = false := by rw [beq_eq_false_iff_ne]; omega
    go_enter Try.func24, Try.ntmps24
    go_wp2_with (go_at_call 38; refine hA.mono ?_; rintro e w1 ⟨rfl, hb⟩)
    go_ret
    exact ⟨by rw [HE.out.1]; rfl, by rw [HE.out.2]; exact HSP.out.stay hb, Turn.of_below hb⟩
  | ok o =>
    cases o with
    | none =>
      have HE : Hid (wrE sp a d = 0 ∧ wrS sp a d = sp) := by unfold Hid wrE wrS; rw [hg]; exact ⟨rfl, rfl⟩
      rw [hg] at hA
      unfold gotV at hA
      clear hg h
      go_enter Try.func24, Try.ntmps24
      go_wp2_with (first | (go_at_call 38; refine hA.mono ?_; rintro e w1 ⟨rfl, hb⟩; clear hA) | (go_at_call 39; refine (vm_lay_nil _ _ _).mono ?_; rintro e w2 ⟨rfl, hw⟩; rw [← hw]; clear hw))
      go_ret
      exact ⟨by rw [HE.out.1]; rfl, by rw [HE.out.2]; exact HSP.out.stay hb, Turn.of_below hb⟩
    | some r =>
      obtain ⟨hh, hz⟩ := got_some hg
      obtain ⟨b, hi⟩ := hit_is hh
      have hr := hi.mem
      have hlen := Rm.cut_len hi.low hi.top hz
      have hlh := Rm.lo_hi hi.low hi.top hz
      have hro := hk.each r hr
      have hmost := hro.most
      have hc0 := hro.cap0
      have hc1 := hro.cap1
      have HE : Hid (wrE sp a d = 0 ∧ wrS sp a d = sp.put b r (r.laid a d)) := by unfold Hid wrE wrS; rw [hg, hi.bg]; exact ⟨rfl, rfl⟩
      have HL : Hid (∀ w1, Below w.heap.size w w1 → Calls Try.prog 39 #[.slice (some ⟨r.blk, r.lo a * 258, none⟩) (r.hi a d.length - r.lo a) (r.cap - r.lo a), .int .u64 ((a : Int) % 256), .slice sa d.length sc] w1 fun e w' => e = .returned (.tuple #[]) ∧ SpAt w' S (v) (sp.put b r (r.laid a d)) ∧ Turn (· ∈ foot S v sp.rooms) w w') := fun w1 hb => by
        have hsp1 := h.stay hb
        have hA1 : (r.pages.take (r.lo a)).length = r.lo a := by rw [List.length_take]; omega
        have := vm_lay w1 r.blk (r.cap - r.lo a) (r.pages.take (r.lo a)) (r.cut a d.length) (r.pages.drop (r.hi a d.length)) (a % 256) d (.slice sa d.length sc) (by omega) (by omega) (by omega) (by omega) (by omega)
          ((HSRC.out.turn (Turn.of_below hb)).sub (fun k hk => by subst hk; exact SpAt.blk_foot hr)) (by rw [r.parts a d.length (by omega)]; exact hsp1.pgs r hr)
          (by rw [r.parts a d.length (by omega)]; exact fun s hs => (hro.each s hs).len)
        rw [hA1, hlen, show ((a % 256 : Nat) : Int) = (a : Int) % 256 by omega] at this
        refine this.mono ?_
        rintro e w' ⟨rfl, h1, h2⟩
        exact ⟨rfl, hsp1.put hi.eq (r.laid_len a d (by omega)) h1 h2, (Turn.of_below hb).trans (h2.mono (fun k _ hk => by subst hk; exact SpAt.blk_foot hr))⟩
      rw [hg] at hA
      unfold gotV Rm.seg at hA
      clear hg h hlen hlh hro hmost hc0 hc1 hi hr hh
      go_enter Try.func24, Try.ntmps24
      go_wp2_with (first | (go_at_call 38; refine hA.mono ?_; rintro e w1 ⟨rfl, hb⟩; clear hA) | (go_at_call 39; refine (HL.out _ hb).mono ?_; rintro e w2 ⟨rfl, h1, h2⟩; have H1 : Hid (SpAt w2 S v (sp.put b r (r.laid a d))) := h1; have H2 : Hid (Turn (· ∈ foot S v sp.rooms) w w2) := h2; clear h1 h2))
      go_ret
      exact ⟨by rw [HE.out.1]; rfl, by rw [HE.out.2]; exact H1.out, H2.out⟩
end Go.Proofs.Ytdecbnmibjcnaaa
