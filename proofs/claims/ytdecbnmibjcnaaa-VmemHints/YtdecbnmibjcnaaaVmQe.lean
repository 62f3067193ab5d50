
/-
  Two spaces that differ in where their rooms lie, through one call.
-/
import Derived.Test.YtdecbnmibjcnaaaVmQd
set_option linter.unusedVariables false
namespace Go.Proofs.Ytdecbnmibjcnaaa
open Go.RowKit Go.PlainAid
structure Two (sp sp' : Sp) (xs ys : List Nat) (ps : List (List Sh)) : Prop where
  ma : Made sp xs ps
  mb : Made sp' ys ps
  bud : sp.budget = sp'.budget
  ka : sp.ok
  kb : sp'.ok
theorem Two.used {sp sp' : Sp} {xs ys : List Nat} {ps : List (List Sh)} (h : Two sp sp' xs ys ps) : Go.Proofs.Ytdecbnmibjcnaaa.used sp.rooms = Go.Proofs.Ytdecbnmibjcnaaa.used sp'.rooms := h.ma.used.trans h.mb.used.symm
theorem Two.cnt {sp sp' : Sp} {xs ys : List Nat} {ps : List (List Sh)} (h : Two sp sp' xs ys ps) : (pgsOf sp.rooms).length = (pgsOf sp'.rooms).length := h.ma.cnt.trans h.mb.cnt.symm
theorem doS_bud (sp : Sp) (x : OpN) (rs : List Nat) (hint blk : Nat) : (doS sp x rs hint blk).budget = sp.budget := by
  have h1 : ∀ h n b, (rvS sp h n b).budget = sp.budget := fun h n b => by unfold rvS; split <;> rfl
  have h2 : ∀ a n p d, (mpS sp a n p d).budget = sp.budget := fun a n p d => by
    unfold mpS
    split
    · rfl
    · split
      · rfl
      · split
        · rfl
        · split
          · rfl
          · split <;> rfl
  have h3 : ∀ a n p, (prS sp a n p).budget = sp.budget := fun a n p => by
    unfold prS
    split
    · rfl
    · split
      · rfl
      · split <;> rfl
  have h4 : ∀ a, (rlS sp a).budget = sp.budget := fun a => by unfold rlS; split <;> rfl
  have h5 : ∀ a d, (wrS sp a d).budget = sp.budget := fun a d => by unfold wrS; split <;> rfl
  unfold doS
  split <;> first | exact h1 _ _ _ | exact h2 _ _ _ _ | exact h3 _ _ _ | exact h4 _ | exact h5 _ _ | rfl
/-- A call that stays in a room. -/
theorem Two.at_ {sp sp' : Sp} {xs ys : List Nat} {ps : List (List Sh)} (h : Two sp sp' xs ys ps) (x : OpN) (hne : ps ≠ []) (j : Nat) (hj : x.room.toNat % ps.length = j) (h2 : j < ps.length) (hs : Stays x ps[j].length) (hint hint' blk blk' : Nat) :
    (doO sp x xs hint).e = (doO sp' x ys hint').e ∧ (doO sp x xs hint).b = (doO sp' x ys hint').b ∧ (doO sp x xs hint).room = false ∧ (doO sp' x ys hint').room = false ∧
      ∃ qs, qs.map List.length = ps.map List.length ∧ Two (doS sp x xs hint blk) (doS sp' x ys hint' blk') xs ys qs := by
  have la := h.ma.len
  have lb := h.mb.len
  have na : xs ≠ [] := fun e => hne (List.eq_nil_of_length_eq_zero (by rw [← la, e]; rfl))
  have nb : ys ≠ [] := fun e => hne (List.eq_nil_of_length_eq_zero (by rw [← lb, e]; rfl))
  obtain ⟨a1, a2, a3, a4⟩ := one_at h.ka h.ma x na j (by rw [la]; exact hj) (by omega) h2 hs hint blk
  obtain ⟨b1, b2, b3, b4⟩ := one_at h.kb h.mb x nb j (by rw [lb]; exact hj) (by omega) h2 hs hint' blk'
  refine ⟨a1.trans b1.symm, a2.trans b2.symm, a3, b3, ps.set j (opQ ps[j] x), ?_, a4, b4, ?_, doS_ok h.ka _ _ _ _, doS_ok h.kb _ _ _ _⟩
  · rw [List.map_set, opQ_len _ _ hs]
    apply List.ext_getElem?
    intro i
    rw [List.getElem?_set]
    by_cases hij : j = i
    · subst hij; rw [if_pos rfl, if_pos (by rw [List.length_map]; exact h2), List.getElem?_map, List.getElem?_eq_getElem h2]; rfl
    · rw [if_neg hij]
  · rw [doS_bud, doS_bud]; exact h.bud
/-- A new room. -/
theorem Two.rv {sp sp' : Sp} {xs ys : List Nat} {ps : List (List Sh)} (h : Two sp sp' xs ys ps) (x : OpN) (hk : kindN x.kind ≤ 1) (hint hint' blk blk' : Nat) :
    (doO sp x xs hint).e = (doO sp' x ys hint').e ∧ (doO sp x xs hint).b = (doO sp' x ys hint').b ∧ (doO sp x xs hint).room = (doO sp' x ys hint').room ∧
      ((doO sp x xs hint).room = false → Two (doS sp x xs hint blk) (doS sp' x ys hint' blk') xs ys ps) ∧
      ((doO sp x xs hint).room = true → Two (doS sp x xs hint blk) (doS sp' x ys hint' blk') (xs ++ [(doO sp x xs hint).at_]) (ys ++ [(doO sp' x ys hint').at_]) (ps ++ [List.replicate (x.size % 70) blank])) := by
  have hE := rvE_same h.ma h.mb h.bud (x.size % 70)
  have e1 : ∀ (s : Sp) rs hi, doO s x rs hi = ⟨rvE s (x.size % 70), [], rvP s hi (x.size % 70), rvE s (x.size % 70) == 0⟩ := by
    intro s rs hi
    unfold doO
    generalize kindN x.kind = k at *
    match k, hk with
    | 0, _ => rfl
    | 1, _ => rfl
  have e2 : ∀ (s : Sp) rs hi bl, doS s x rs hi bl = rvS s hi (x.size % 70) bl := by
    intro s rs hi bl
    unfold doS
    generalize kindN x.kind = k at *
    match k, hk with
    | 0, _ => rfl
    | 1, _ => rfl
  have o1 := doS_ok h.ka x xs hint blk
  have o2 := doS_ok h.kb x ys hint' blk'
  have g1 := doS_bud sp x xs hint blk
  have g2 := doS_bud sp' x ys hint' blk'
  rw [e2] at o1 o2 g1 g2
  rw [e1, e1, e2, e2]
  refine ⟨hE, rfl, by show (rvE sp _ == 0) = (rvE sp' _ == 0); rw [hE], fun hf => ?_, fun ht => ?_⟩
  · have n1 : rvE sp (x.size % 70) ≠ 0 := fun e => by simp [e] at hf
    rw [rvS_same n1, rvS_same (by rw [← hE]; exact n1)]
    exact h
  · have n1 : rvE sp (x.size % 70) = 0 := eq_of_beq ht
    have n2 : rvE sp' (x.size % 70) = 0 := by rw [← hE]; exact n1
    have p1 : rvP sp hint (x.size % 70) = rvAt sp hint (x.size % 70) := by unfold rvP; rw [if_pos n1]
    have p2 : rvP sp' hint' (x.size % 70) = rvAt sp' hint' (x.size % 70) := by unfold rvP; rw [if_pos n2]
    show Two _ _ (xs ++ [rvP sp hint (x.size % 70)]) (ys ++ [rvP sp' hint' (x.size % 70)]) _
    rw [p1, p2]
    exact ⟨h.ma.rv hint _ blk n1, h.mb.rv hint' _ blk' n2, by rw [g1, g2]; exact h.bud, o1, o2⟩
theorem Two.start (b : Nat) (h0 : 1 ≤ b) (h1 : b ≤ 1024) : Two ⟨b, []⟩ ⟨b, []⟩ [] [] [] :=
  have hk : (⟨b, []⟩ : Sp).ok := ⟨h0, h1, Nat.zero_le _, fun r hr => absurd hr (by simp), List.Pairwise.nil⟩
  ⟨Made.none b, Made.none b, rfl, hk, hk⟩
end Go.Proofs.Ytdecbnmibjcnaaa
