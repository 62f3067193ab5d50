
/-
  What is written is read, and nothing else is turned; what is refused turns nothing: in plain words.
-/
import Derived.Test.YtdecbnmibjcnaaaVmPg
set_option linter.unusedVariables false
namespace Go.Proofs.Ytdecbnmibjcnaaa
open Go.RowKit Go.PlainAid
theorem rvS_same {sp : Sp} {h n blk : Nat} (he : rvE sp n ≠ 0) : rvS sp h n blk = sp := by unfold rvS; rw [if_neg he]
theorem mpS_same {sp : Sp} {a n : Nat} {p : Int} {d : List UInt8} (he : mpE sp a n p d ≠ 0) : mpS sp a n p d = sp := by
  unfold mpE at he
  unfold mpS
  by_cases h1 : a % 256 ≠ 0
  · rw [if_pos h1]
  · rw [if_neg h1] at he ⊢
    by_cases h2 : n = 0 ∨ n < d.length
    · rw [if_pos h2]
    · rw [if_neg h2] at he ⊢
      by_cases h3 : ¬ (0 ≤ p ∧ p ≤ 7)
      · rw [if_pos h3]
      · rw [if_neg h3] at he ⊢
        cases hh : hit sp.rooms a n with
        | none => rfl
        | some r =>
          rw [hh] at he
          by_cases h4 : (r.cut a n).any Sh.there = true
          · simp only [if_pos h4]
          · simp only [if_neg h4] at he
            exact absurd rfl he
theorem prS_same {sp : Sp} {a n : Nat} {p : Int} (he : prE sp a n p ≠ 0) : prS sp a n p = sp := by
  unfold prE at he
  unfold prS
  by_cases h1 : a % 256 ≠ 0
  · rw [if_pos h1]
  · rw [if_neg h1] at he ⊢
    by_cases h3 : ¬ (0 ≤ p ∧ p ≤ 7)
    · rw [if_pos h3]
    · rw [if_neg h3] at he ⊢
      cases hh : got sp.rooms a n none with
      | error e => rfl
      | ok o => rw [hh] at he; exact absurd rfl he
theorem rlS_same {sp : Sp} {a : Nat} (he : rlE sp a ≠ 0) : rlS sp a = sp := by
  unfold rlE at he
  unfold rlS
  split at he
  · exact absurd rfl he
  · rename_i h; rw [if_neg h]
theorem wrS_same {sp : Sp} {a : Nat} {d : List UInt8} (he : wrE sp a d ≠ 0) : wrS sp a d = sp := by
  unfold wrE at he
  unfold wrS
  cases hh : got sp.rooms a d.length (some 2) with
  | error e => rfl
  | ok o => rw [hh] at he; exact absurd rfl he
/-- What is refused turns nothing. -/
theorem doS_same (sp : Sp) (x : OpN) (rs : List Nat) (hint blk : Nat) (he : (doO sp x rs hint).e ≠ 0) : doS sp x rs hint blk = sp := by
  unfold doO at he
  unfold doS
  generalize kindN x.kind = k at *
  match k with
  | 0 | 1 => exact rvS_same he
  | 2 | 3 => exact mpS_same he
  | 4 => exact prS_same he
  | 5 => exact rlS_same he
  | 6 => rfl
  | 7 | 8 => exact wrS_same he
  | 9 => rfl
  | k + 10 => exact wrS_same he
/-- Two rows of pages side by side. -/
def Sides (p n : Nat) : List Pg → List Pg → Prop
  | [], [] => True
  | a :: l, b :: m => PgSame a b p n ∧ Sides p n l m
  | _, _ => False
theorem Sides.nil {p n : Nat} : Sides p n [] [] := trivial
theorem Sides.cons {p n : Nat} {a b : Pg} {l m : List Pg} (h : PgSame a b p n) (k : Sides p n l m) : Sides p n (a :: l) (b :: m) := ⟨h, k⟩
theorem Sides.refl (p n : Nat) (l : List Pg) : Sides p n l l := by
  induction l with
  | nil => exact .nil
  | cons a l ih => exact .cons (PgSame.refl _ _ _) ih
theorem Sides.app {p n : Nat} {c d : List Pg} (k : Sides p n c d) : ∀ {a b : List Pg}, Sides p n a b → Sides p n (a ++ c) (b ++ d)
  | [], [], _ => k
  | [], _ :: _, h => h.elim
  | _ :: _, [], h => h.elim
  | _ :: _, _ :: _, h => ⟨h.1, Sides.app k h.2⟩
theorem Sides.app2 {p n : Nat} {a b c d : List Pg} (h : Sides p n a b) (k : Sides p n c d) : Sides p n (a ++ c) (b ++ d) := Sides.app k h
theorem Sides.len {p n : Nat} : ∀ {a b : List Pg}, Sides p n a b → a.length = b.length
  | [], [], _ => rfl
  | [], _ :: _, h => h.elim
  | _ :: _, [], h => h.elim
  | _ :: _, _ :: _, h => by rw [List.length_cons, List.length_cons, Sides.len h.2]
theorem Sides.get {p n : Nat} : ∀ {a b : List Pg}, Sides p n a b → ∀ i (h1 : i < a.length) (h2 : i < b.length), PgSame a[i] b[i] p n
  | [], [], _, i, h1, _ => by simp at h1
  | [], _ :: _, h, _, _, _ => h.elim
  | _ :: _, [], h, _, _, _ => h.elim
  | _ :: _, _ :: _, h, 0, _, _ => h.1
  | _ :: _, _ :: _, h, i + 1, h1, h2 => Sides.get h.2 i (by simpa using h1) (by simpa using h2)
/-- One page into which bytes are laid. -/
theorem lay_get {s : List UInt8} (hs : s.length = 256) (f : Nat) (hf : f ≤ 256) (d : List UInt8) (k : Nat) :
    (s.take f ++ d.take (256 - f) ++ s.drop (f + min d.length (256 - f)))[k]? = s[k]? ∨ (f ≤ k ∧ k - f < d.length) := by
  by_cases h1 : k < f
  · left
    rw [List.append_assoc, List.getElem?_append_left (by simp; omega), List.getElem?_take_of_lt h1]
  · by_cases h2 : k < f + d.length
    · right; omega
    · by_cases h3 : d.length ≤ 256 - f
      · left
        rw [List.getElem?_append_right (by simp; omega), List.getElem?_drop]
        congr 1
        simp
        omega
      · left
        rw [List.getElem?_eq_none (by simp; omega), List.getElem?_eq_none (by omega)]
theorem sides_lay (P p n : Nat) (l : List Sh) (hl : ∀ s ∈ l, s.data.length = 256) (k f : Nat) (hf : f ≤ 256) (d : List UInt8) (hd : d = [] ∨ (p ≤ P + k * 256 + f ∧ P + k * 256 + f + d.length ≤ p + n)) :
    Sides p n (pgsL P k l) (pgsL P k (layL l f d)) := by
  induction l generalizing k f d with
  | nil => exact .nil
  | cons s l ih =>
    unfold layL
    simp only [pgsL]
    refine Sides.app2 ?_ (ih (fun x hx => hl x (List.mem_cons_of_mem _ hx)) (k + 1) 0 (by omega) _ ?_)
    · by_cases ht : s.there = true
      · rw [if_pos ht, if_pos ht]
        refine .cons ⟨rfl, rfl, fun j h1 h2 => ?_⟩ .nil
        have hg := lay_get (hl s List.mem_cons_self) f hf d j
        rcases hg with hg | ⟨g1, g2⟩
        · left
          have e1 := List.getElem?_eq_getElem h1
          have e2 := List.getElem?_eq_getElem h2
          exact Option.some.inj (e1.symm.trans (hg.symm.trans e2))
        · right
          rcases hd with rfl | ⟨d1, d2⟩
          · simp at g2
          · show p ≤ P + k * 256 + j ∧ P + k * 256 + j - p < n
            omega
      · rw [if_neg ht, if_neg ht]; exact .nil
    · rcases hd with rfl | ⟨d1, d2⟩
      · left; simp
      · by_cases hq : d.length ≤ 256 - f
        · left; rw [Nat.min_eq_left hq]; exact List.drop_length
        · right; rw [List.length_drop]; omega
theorem begun_congr {l m : List Rm} (h : l.map Rm.pos = m.map Rm.pos) (a : Nat) : begun l a = begun m a := by
  induction l generalizing m with
  | nil => cases m with
    | nil => rfl
    | cons r m => simp at h
  | cons r l ih => cases m with
    | nil => simp at h
    | cons r' m =>
      simp only [List.map_cons, List.cons.injEq] at h
      simp only [begun, h.1, ih h.2]
theorem pgsOf_app (l m : List Rm) : pgsOf (l ++ m) = pgsOf l ++ pgsOf m := by unfold pgsOf; rw [List.flatMap_append]
/-- Nothing but what is written is turned. -/
theorem wr_sides {sp : Sp} (hk : sp.ok) (a : Nat) (d : List UInt8) : Sides a d.length (pgsOf sp.rooms) (pgsOf (wrS sp a d).rooms) := by
  unfold wrS
  cases hg : got sp.rooms a d.length (some 2) with
  | error e => exact Sides.refl _ _ _
  | ok o =>
    cases o with
    | none => exact Sides.refl _ _ _
    | some r =>
      obtain ⟨hh, hz⟩ := got_some hg
      obtain ⟨b, hi⟩ := hit_is hh
      have hl := Rm.lo_hi hi.low hi.top hz
      have hr := hk.each r hi.mem
      simp only [hi.bg, Nat.add_sub_cancel]
      have e1 : sp.rooms = sp.rooms.take b ++ r :: sp.rooms.drop (b + 1) := by
        have := List.take_append_drop b sp.rooms
        rw [List.drop_eq_getElem_cons hi.lt] at this
        have e2 := hi.eq
        rw [List.getElem?_eq_getElem hi.lt] at e2
        rw [Option.some.inj e2] at this
        exact this.symm
      have e2 : (sp.put b r (r.laid a d)).rooms = sp.rooms.take b ++ { r with pages := r.laid a d } :: sp.rooms.drop (b + 1) := List.set_eq_take_append_cons_drop.trans (if_pos hi.lt)
      rw [e2]
      conv => lhs; rw [e1]
      rw [pgsOf_app, pgsOf_app]
      refine Sides.app2 (Sides.refl _ _ _) ?_
      show Sides _ _ (pgsL r.pos 0 r.pages ++ pgsOf _) (pgsL r.pos 0 (r.laid a d) ++ pgsOf _)
      refine Sides.app2 ?_ (Sides.refl _ _ _)
      conv => lhs; rw [← r.parts a d.length (by omega)]
      unfold Rm.laid
      rw [pgsL_app, pgsL_app, pgsL_app, pgsL_app, List.length_append, List.length_append, layL_len]
      refine Sides.app2 (Sides.app2 (Sides.refl _ _ _) ?_) (Sides.refl _ _ _)
      refine sides_lay _ _ _ _ (fun s hs => (hr.each s (Rm.cut_mem hs)).len) _ _ (by omega) _ (.inr ?_)
      have h1 : (r.pages.take (r.lo a)).length = r.lo a := by rw [List.length_take]; omega
      have h2 := hi.low
      have h3 := hr.page
      rw [h1]
      have h4 : r.pos + (0 + r.lo a) * 256 + a % 256 = a := by unfold Rm.lo; omega
      rw [h4]
      omega
theorem dat_lay (l : List Sh) (hl : ∀ s ∈ l, s.data.length = 256) (f : Nat) (hf : f ≤ 256) (d : List UInt8) (hd : f + d.length ≤ l.length * 256) : ((dat (layL l f d)).drop f).take d.length = d := by
  induction l generalizing f d with
  | nil =>
    have : d = [] := List.eq_nil_of_length_eq_zero (by rw [List.length_nil] at hd; omega)
    subst this; simp
  | cons s l ih =>
    have hs := hl s List.mem_cons_self
    have e : dat (layL (s :: l) f d) = s.data.take f ++ (d.take (256 - f) ++ (s.data.drop (f + min d.length (256 - f)) ++ dat (layL l 0 (d.drop (min d.length (256 - f)))))) := by
      show (s.data.take f ++ d.take (256 - f) ++ s.data.drop (f + min d.length (256 - f))) ++ dat (layL l 0 (d.drop (min d.length (256 - f)))) = _
      simp
    have ef : (s.data.take f).length = f := by rw [List.length_take]; omega
    rw [e, List.drop_append_of_le_length (by omega), List.drop_eq_nil_of_le (by omega), List.nil_append]
    by_cases hq : d.length ≤ 256 - f
    · rw [List.take_of_length_le hq, List.take_append_of_le_length (Nat.le_refl _), List.take_of_length_le (Nat.le_refl _)]
    · have hm : min d.length (256 - f) = 256 - f := Nat.min_eq_right (by omega)
      rw [hm, show f + (256 - f) = 256 by omega, List.drop_eq_nil_of_le (show s.data.length ≤ 256 by omega), List.nil_append]
      have := ih (fun x hx => hl x (List.mem_cons_of_mem _ hx)) 0 (by omega) (d.drop (256 - f)) (by rw [List.length_drop]; simp at hd; omega)
      rw [List.drop_zero, List.length_drop] at this
      rw [List.take_append, List.take_of_length_le (by rw [List.length_take]; omega), List.length_take, Nat.min_eq_left (by omega), this, List.take_append_drop]
theorem layL_any (q : Sh → Bool) (hq : ∀ s x, q { s with data := x } = q s) (l : List Sh) (f : Nat) (d : List UInt8) : (layL l f d).any q = l.any q := by
  induction l generalizing f d with
  | nil => rfl
  | cons s l ih => unfold layL; rw [List.any_cons, List.any_cons, ih, hq]
/-- What is written is read, or reading is not allowed. -/
theorem wr_rd {sp : Sp} (hk : sp.ok) (a : Nat) (d : List UInt8) (he : wrE sp a d = 0) : rdE (wrS sp a d) a d.length = 54 ∨ (rdE (wrS sp a d) a d.length = 0 ∧ rdB (wrS sp a d) a d.length = d) := by
  unfold wrE at he
  unfold wrS
  cases hg : got sp.rooms a d.length (some 2) with
  | error e =>
    rw [hg] at he
    exfalso
    unfold got at hg
    cases hh : hit sp.rooms a d.length with
    | none => rw [hh] at hg; simp at hg; simp at he; omega
    | some r =>
      rw [hh] at hg
      simp only at hg he
      split at hg
      · cases hg
      · split at hg
        · injection hg with hg; omega
        · split at hg
          · injection hg with hg; omega
          · cases hg
  | ok o =>
    cases o with
    | none =>
      have hz : d.length = 0 ∧ got sp.rooms a d.length (some 4) = .ok none := by
        unfold got at hg ⊢
        cases hh : hit sp.rooms a d.length with
        | none => rw [hh] at hg; simp at hg
        | some r =>
          rw [hh] at hg
          simp only at hg ⊢
          by_cases hz : d.length = 0
          · exact ⟨hz, if_pos hz⟩
          · rw [if_neg hz] at hg
            split at hg
            · cases hg
            · split at hg
              · cases hg
              · cases hg
      right
      unfold rdE rdB
      simp only [hz.2]
      exact ⟨trivial, (List.eq_nil_of_length_eq_zero hz.1).symm⟩
    | some r =>
      obtain ⟨hh, hz⟩ := got_some hg
      obtain ⟨b, hi⟩ := hit_is hh
      have hl := Rm.lo_hi hi.low hi.top hz
      have hr := hk.each r hi.mem
      simp only [hi.bg, Nat.add_sub_cancel]
      have eb : begun (sp.put b r (r.laid a d)).rooms a = b + 1 := by
        rw [← hi.bg]
        exact begun_congr (map_set_same Rm.pos sp.rooms b r { r with pages := r.laid a d } hi.eq rfl) a
      have eg : (sp.put b r (r.laid a d)).rooms[b]? = some { r with pages := r.laid a d } := List.getElem?_set_self hi.lt
      have ll := r.laid_len a d (by omega)
      have eh : hit (sp.put b r (r.laid a d)).rooms a d.length = some { r with pages := r.laid a d } := by
        unfold hit
        rw [eb, if_neg (by omega), Nat.add_sub_cancel, eg]
        refine if_pos ?_
        have := hi.top
        unfold Rm.fin Rm.size at this ⊢
        simp only [ll]
        exact this
      have h1 : (r.pages.take (r.lo a)).length = r.lo a := by rw [List.length_take]; omega
      have cl := Rm.cut_len hi.low hi.top hz
      have ec : ({ r with pages := r.laid a d } : Rm).cut a d.length = layL (r.cut a d.length) (a % 256) d := by
        show ((r.laid a d).drop (r.lo a)).take (r.hi a d.length - r.lo a) = _
        unfold Rm.laid
        rw [List.append_assoc, List.drop_append_of_le_length (by omega), List.drop_eq_nil_of_le (by omega), List.nil_append, List.take_append_of_le_length (by rw [layL_len]; omega), List.take_of_length_le (by rw [layL_len]; omega)]
      have eth : (r.cut a d.length).any (fun s => !s.there) = false := by
        unfold got at hg
        rw [hh] at hg
        simp only [if_neg hz] at hg
        split at hg
        · cases hg
        · rename_i h; simpa using h
      have g4 : got (sp.put b r (r.laid a d)).rooms a d.length (some 4) = if (r.cut a d.length).any (lacks 4) then .error 54 else .ok (some { r with pages := r.laid a d }) := by
        unfold got
        rw [eh]
        simp only [if_neg hz, ec]
        rw [layL_any (fun s => !s.there) (fun _ _ => rfl), eth, layL_any (lacks 4) (fun _ _ => rfl)]
        rfl
      unfold rdE rdB
      rw [g4]
      by_cases hla : (r.cut a d.length).any (lacks 4) = true
      · left; simp only [if_pos hla]
      · right
        simp only [if_neg hla]
        refine ⟨trivial, ?_⟩
        rw [ec]
        refine dat_lay _ (fun s hs => (hr.each s (Rm.cut_mem hs)).len) _ (by omega) _ ?_
        rw [cl]
        have h2 := hi.low
        have h3 := hr.page
        unfold Rm.hi Rm.lo
        omega
end Go.Proofs.Ytdecbnmibjcnaaa
