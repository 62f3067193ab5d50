
/-
  A region that draws its order, whose operations only read and call such as lay memory behind what was there, and which ends with a variable that is made and stored: whatever order is drawn, one walk in the order of the text serves.
-/
import Derived.Test.YtdclofiifcpkkaaProg
import Derived.Lib.QuietBelow
import Derived.BigQuiet
set_option linter.unusedVariables false
namespace Go.Proofs.Ytdclofiifcpkkaa
open Go.RowKit Go.Sort
namespace RgV
/-- The worlds that come of W by what only lays memory behind. -/
abbrev cls (W : World) : World → Prop := fun w' => ∃ p : Regrown, w' = grow (redrawn W p.d) p.os
theorem cls_self (W : World) : cls W W := ⟨⟨W.drawn, #[]⟩, by rw [grow_empty]; rfl⟩
theorem cls_below {W w' : World} (h : cls W w') : Below W.heap.size W w' := by
  obtain ⟨⟨d, os⟩, rfl⟩ := h
  exact below_regrown _ _ _
section
variable {P : Program} {ops0 ops : Array Oper} {aF : Act} {w0 : World}
theorem put_other (b : Act) (x : Option Tmp) (v : Value) (d : Nat) (h : x ≠ some d) : (b.put x v).tmps[d]? = b.tmps[d]? := by
  cases x with
  | none => rfl
  | some e =>
    have hne : e ≠ d := fun h' => h (by rw [h'])
    simp [Act.put, Array.getElem?_setIfInBounds_ne hne]
theorem set_self (L : Array Bool) (i : Nat) : (L.setIfInBounds i true).getD i true = true := by
  by_cases h : i < L.size
  · simp [h]
  · simp [h]
theorem un_set {L : Array Bool} {i j : Nat} (h : (L.setIfInBounds i true).getD j true = false) : j ≠ i ∧ L.getD j true = false := by
  by_cases e : j = i
  · subst e; rw [set_self] at h; cases h
  · exact ⟨e, by rw [getD_set_ne true (Ne.symm e)] at h; exact h⟩
theorem slot_same {C : World → Prop} (d : Nat) : ∀ (fuel : Nat) (L : Array Bool) (b : Act), (∀ (j : Nat) (o : Oper), ops0[j]? = some o → L.getD j true = false → o.dst ≠ some d) →
    wpAnyQ P .any ops0 C (fun a => a = aF) fuel L b → b.tmps[d]? = aF.tmps[d]?
  | 0, L, b, _, h => by rw [h.2]
  | fuel + 1, L, b, hj, h => by
    by_cases hr : Region.ready .any ops0 L = []
    · rw [h.1 hr]
    · obtain ⟨i, hi⟩ := List.exists_mem_of_ne_nil _ hr
      obtain ⟨hun, o, ho, _⟩ := mem_ready.1 hi
      obtain ⟨v, _, hk⟩ := yieldsIn_of_qOp ho (h.2 i hi)
      have := slot_same d fuel (L.setIfInBounds i true) (b.put o.dst v) (fun j o' ho' hl => hj j o' ho' (un_set hl).2) hk
      rw [← this, put_other b o.dst v d (hj i o ho hun)]
/-- From here on the walk goes through over whatever world, and comes to one frame. -/
def HW (P : Program) (ops0 : Array Oper) (aF : Act) (w0 : World) (fuel : Nat) (L : Array Bool) (a : Act) : Prop :=
  ∀ W, Below w0.heap.size w0 W → wpAnyQ P .any ops0 (cls W) (fun a' => a' = aF) fuel L a
theorem HW.step (hd : ∀ (i j : Nat) (oi oj : Oper) (d : Tmp), ops0[i]? = some oi → ops0[j]? = some oj → i ≠ j → oi.dst = some d → oj.dst ≠ some d) {fuel : Nat} {L : Array Bool} {a : Act} {i : Nat} {o : Oper}
    (h : HW P ops0 aF w0 (fuel + 1) L a) (hi : i ∈ Region.ready .any ops0 L) (ho : ops0[i]? = some o) (W : World) (hW : Below w0.heap.size w0 W) :
    ∃ v, YieldsIn P ops0 (cls W) o v a ∧ HW P ops0 aF w0 fuel (L.setIfInBounds i true) (a.put o.dst v) := by
  obtain ⟨v, hy, hk⟩ := yieldsIn_of_qOp ho ((h W hW).2 i hi)
  refine ⟨v, hy, fun W' hW' => ?_⟩
  obtain ⟨v', hy', hk'⟩ := yieldsIn_of_qOp ho ((h W' hW').2 i hi)
  have e : a.put o.dst v' = a.put o.dst v := by
    cases hdst : o.dst with
    | none => rfl
    | some d =>
      have cond : ∀ (j : Nat) (o' : Oper), ops0[j]? = some o' → (L.setIfInBounds i true).getD j true = false → o'.dst ≠ some d := fun j o' ho' hl => hd i j o o' d ho ho' (Ne.symm (un_set hl).1) hdst
      have s1 := slot_same d fuel _ _ cond hk
      have s2 := slot_same d fuel _ _ cond hk'
      rw [hdst] at s1 s2
      by_cases hsz : d < a.tmps.size
      · simp [Act.put, hsz] at s1 s2
        have : some v' = some v := s2.trans s1.symm
        injection this with this
        rw [this]
      · simp only [Act.put]
        rw [Array.setIfInBounds_eq_of_size_le (Nat.le_of_not_lt hsz), Array.setIfInBounds_eq_of_size_le (Nat.le_of_not_lt hsz)]
  rw [← e]; exact hk'
theorem HW.done {fuel : Nat} {L : Array Bool} {a : Act} (h : HW P ops0 aF w0 fuel L a) (hr : Region.ready .any ops0 L = []) : a = aF := by
  have := h w0 (Below.refl _ _)
  cases fuel with
  | zero => exact this.2
  | succ f => exact this.1 hr
/-! ### What may come up -/
structure Rel (n : Nat) (M L : Array Bool) (b c : Bool) : Prop where
  size : M.size = n + 2
  lsize : L.size = n
  same : ∀ j, j < n → M[j]? = L[j]?
  al : M[n]? = some b
  st : M[n + 1]? = some c
theorem Rel.getD {n : Nat} {M L : Array Bool} {b c : Bool} (h : Rel n M L b c) (d : Bool) {j : Nat} (hj : j < n) : M.getD j d = L.getD j d := by
  simp only [Array.getD_eq_getD_getElem?]; rw [h.same j hj]
theorem Rel.set {n : Nat} {M L : Array Bool} {b c : Bool} (h : Rel n M L b c) {i : Nat} (hi : i < n) : Rel n (M.setIfInBounds i true) (L.setIfInBounds i true) b c := by
  refine ⟨by simp [h.size], by simp [h.lsize], fun j hj => ?_, ?_, ?_⟩
  · by_cases e : i = j
    · subst e
      rw [Array.getElem?_setIfInBounds_self_of_lt (by rw [h.size]; omega), Array.getElem?_setIfInBounds_self_of_lt (by rw [h.lsize]; omega)]
    · rw [Array.getElem?_setIfInBounds_ne e, Array.getElem?_setIfInBounds_ne e, h.same j hj]
  · rw [Array.getElem?_setIfInBounds_ne (by omega), h.al]
  · rw [Array.getElem?_setIfInBounds_ne (by omega), h.st]
theorem Rel.setA {n : Nat} {M L : Array Bool} {b c : Bool} (h : Rel n M L b c) : Rel n (M.setIfInBounds n true) L true c := by
  refine ⟨by simp [h.size], h.lsize, fun j hj => ?_, ?_, ?_⟩
  · rw [Array.getElem?_setIfInBounds_ne (by omega), h.same j hj]
  · rw [Array.getElem?_setIfInBounds_self_of_lt (by rw [h.size]; omega)]
  · rw [Array.getElem?_setIfInBounds_ne (by omega), h.st]
/-- What the region must be like. -/
structure Fit (n : Nat) (ops0 ops : Array Oper) (oa os : Oper) : Prop where
  size0 : ops0.size = n
  size : ops.size = n + 2
  same : ∀ j, j < n → ops[j]? = ops0[j]?
  al : ops[n]? = some oa
  st : ops[n + 1]? = some os
  dsts : ∀ (i j : Nat) (oi oj : Oper) (d : Tmp), ops0[i]? = some oi → ops0[j]? = some oj → i ≠ j → oi.dst = some d → oj.dst ≠ some d
  topo : ∀ (i : Nat) (o : Oper), ops0[i]? = some o → ∀ e ∈ o.after, Region.binds .any e = true → e.on < i
  gd : ∀ (i : Nat) (o : Oper), ops0[i]? = some o → ∀ j b, o.guard = some (j, b) → j < n
  apart : ∀ (i : Nat) (o : Oper), ops0[i]? = some o → oa.apart ops o = true
  nosel : ∀ (i : Nat) (o : Oper) (cs : Array SelectCase) (b : Bool), ops0[i]? = some o → o.op ≠ .select cs b
  ga : oa.guard = none
  gs : os.guard = none
  aa : ∀ e ∈ oa.after, Region.binds .any e = true → False
  sa : ∃ e ∈ os.after, Region.binds .any e = true ∧ e.on = n
  sn : ∀ e ∈ os.after, Region.binds .any e = true → e.on ≤ n
  cov : ∀ j, j < n → (∃ e ∈ os.after, Region.binds .any e = true ∧ e.on = j) ∨ (∃ (i : Nat) (o : Oper), j < i ∧ ops0[i]? = some o ∧ ∃ e ∈ o.after, Region.binds .any e = true ∧ e.on = j)
variable {n : Nat} {oa os : Oper}
theorem Fit.lt (F : Fit n ops0 ops oa os) {i : Nat} {o : Oper} (h : ops0[i]? = some o) : i < n := by
  have := (Array.getElem?_eq_some_iff.1 h).1
  rw [F.size0] at this; exact this
theorem ready_down (F : Fit n ops0 ops oa os) {M L : Array Bool} {b c : Bool} (R : Rel n M L b c) {i : Nat} (hi : i < n) (h : i ∈ Region.ready .any ops M) : i ∈ Region.ready .any ops0 L := by
  obtain ⟨h1, o, h2, h3⟩ := mem_ready.1 h
  rw [F.same i hi] at h2
  refine mem_ready.2 ⟨by rw [← R.getD true hi]; exact h1, o, h2, fun e he hb => ?_⟩
  have := F.topo i o h2 e he hb
  rw [← R.getD false (by omega)]; exact h3 e he hb
theorem ready_up (F : Fit n ops0 ops oa os) {M L : Array Bool} {b c : Bool} (R : Rel n M L b c) {i : Nat} (h : i ∈ Region.ready .any ops0 L) : i ∈ Region.ready .any ops M := by
  obtain ⟨h1, o, h2, h3⟩ := mem_ready.1 h
  have hi := F.lt h2
  refine mem_ready.2 ⟨by rw [R.getD true hi]; exact h1, o, by rw [F.same i hi]; exact h2, fun e he hb => ?_⟩
  have := F.topo i o h2 e he hb
  rw [R.getD false (by omega)]; exact h3 e he hb
def Closed (ops0 : Array Oper) (L : Array Bool) : Prop := ∀ (i : Nat) (o : Oper), ops0[i]? = some o → L.getD i false = true → ∀ e ∈ o.after, Region.binds .any e = true → L.getD e.on false = true
theorem Closed.set {L : Array Bool} (h : Closed ops0 L) {i : Nat} (hi : i ∈ Region.ready .any ops0 L) : Closed ops0 (L.setIfInBounds i true) := by
  intro j o ho hl e he hb
  by_cases e1 : j = i
  · subst e1
    obtain ⟨_, o', h2, h3⟩ := mem_ready.1 hi
    rw [ho] at h2
    injection h2 with h2
    subst h2
    exact getD_set_true (h3 e he hb)
  · rw [getD_set_ne false (Ne.symm e1)] at hl
    exact getD_set_true (h j o ho hl e he hb)
theorem all_listed (F : Fit n ops0 ops oa os) {M L : Array Bool} {b c : Bool} (R : Rel n M L b c) (hc : Closed ops0 L) (h : n + 1 ∈ Region.ready .any ops M) : ∀ j, j < n → L.getD j false = true := by
  obtain ⟨_, o, h2, h3⟩ := mem_ready.1 h
  rw [F.st] at h2
  injection h2 with h2
  subst h2
  have key : ∀ k j, n - j ≤ k → j < n → L.getD j false = true := by
    intro k
    induction k with
    | zero => intro j h1 h2; omega
    | succ k ih =>
      intro j h1 h2
      rcases F.cov j h2 with ⟨e, he, hb, rfl⟩ | ⟨i, o, hji, ho, e, he, hb, rfl⟩
      · rw [← R.getD false h2]; exact h3 e he hb
      · have hin := F.lt ho
        exact hc i o ho (ih i (by omega) hin) e he hb
  exact fun j hj => key (n - j) j (Nat.le_refl _) hj
theorem none_ready (F : Fit n ops0 ops oa os) {L : Array Bool} (h : ∀ j, j < n → L.getD j false = true) : Region.ready .any ops0 L = [] := by
  rcases hr : Region.ready .any ops0 L with _ | ⟨i, t⟩
  · rfl
  · exfalso
    have hi : i ∈ Region.ready .any ops0 L := by rw [hr]; simp
    obtain ⟨h1, o, h2, _⟩ := mem_ready.1 hi
    have := h i (F.lt h2)
    simp only [Array.getD_eq_getD_getElem?] at h1 this
    cases hx : L[i]? with
    | none => rw [hx] at this; cases this
    | some b => rw [hx] at this h1; simp at this h1; rw [this] at h1; cases h1
theorem listed_of_none (F : Fit n ops0 ops oa os) {L : Array Bool} (hs : L.size = n) (h : Region.ready .any ops0 L = []) : ∀ j, j < n → L.getD j false = true := by
  have key : ∀ k j, j < k → j < n → L.getD j false = true := by
    intro k
    induction k with
    | zero => intro j h1 _; omega
    | succ k ih =>
      intro j h1 h2
      obtain ⟨o, ho⟩ : ∃ o, ops0[j]? = some o := ⟨ops0[j]'(by rw [F.size0]; exact h2), Array.getElem?_eq_getElem (by rw [F.size0]; exact h2)⟩
      cases hx : L.getD j false with
      | true => rfl
      | false =>
        exfalso
        have hm : j ∈ Region.ready .any ops0 L := by
          refine mem_ready.2 ⟨?_, o, ho, fun e he hb => ?_⟩
          · simp only [Array.getD_eq_getD_getElem?] at hx ⊢
            have hl : L[j]? = some (L[j]'(by omega)) := Array.getElem?_eq_getElem (by omega)
            rw [hl] at hx ⊢
            simpa using hx
          · have := F.topo j o ho e he hb
            exact ih e.on (by omega) (by omega)
        rw [h] at hm; cases hm
  exact fun j hj => key (j + 1) j (by omega) hj
theorem ready_end (F : Fit n ops0 ops oa os) {M L : Array Bool} (R : Rel n M L true false) (h : ∀ j, j < n → L.getD j false = true) : Region.ready .any ops (M.setIfInBounds (n + 1) true) = [] := by
  rcases hr : Region.ready .any ops (M.setIfInBounds (n + 1) true) with _ | ⟨i, t⟩
  · rfl
  · exfalso
    have hi : i ∈ Region.ready .any ops (M.setIfInBounds (n + 1) true) := by rw [hr]; simp
    obtain ⟨h1, o, h2, _⟩ := mem_ready.1 hi
    obtain ⟨h3, h4⟩ := un_set h1
    have hlt := (Array.getElem?_eq_some_iff.1 h2).1
    rw [F.size] at hlt
    by_cases e : i < n
    · have := h i e
      rw [R.getD true e] at h4
      simp only [Array.getD_eq_getD_getElem?] at h4 this
      cases hx : L[i]? with
      | none => rw [hx] at this; cases this
      | some b => rw [hx] at this h4; simp at this h4; rw [this] at h4; cases h4
    · have e2 : i = n := by omega
      subst e2
      simp only [Array.getD_eq_getD_getElem?, R.al] at h4
      cases h4
theorem wanted_ops (F : Fit n ops0 ops oa os) {i : Nat} {o : Oper} (ho : ops0[i]? = some o) (t : Array Value) : Region.wanted o (yielded ops t) = Region.wanted o (yielded ops0 t) := by
  unfold Region.wanted
  cases hg : o.guard with
  | none => rfl
  | some jb =>
    obtain ⟨j, b⟩ := jb
    have := F.same j (F.gd i o ho j b hg)
    simp only [yielded, this]
def ptr (p : Nat) : Value := .pointer (some ⟨p, 0, none⟩)
theorem wp_quiet {Q : Exit → Act → World → Prop} {o : Oper} {v : Value} {a b : Act} {w : World} {K : Act → World → Prop} (he : execOp b.eval o = execOp a.eval o) (hq : ∀ w', cls w w' → o.quietAt P a (cls w) w' v) (hK : ∀ w', cls w w' → K (b.put o.dst v) w') : o.wp P b w K Q := by
  have h := hq w (cls_self w)
  unfold Oper.quietAt at h
  unfold Oper.wp
  rw [he]
  generalize (execOp a.eval o).run P w = r at *
  cases r with
  | ok nx w' =>
    cases nx <;> simp only [Oper.quietUpon] at h <;> simp only [Oper.upon]
    case value u =>
      obtain ⟨e1, e2⟩ := h
      rw [e1, e2]
      exact hK _ (cls_self w)
    case skip =>
      obtain ⟨e1, e2⟩ := h
      rw [e1, ← e2]
      exact hK _ (cls_self w)
    case enter f args =>
      obtain ⟨e1, hc⟩ := h
      rw [e1]
      exact hc.mono fun e w'' ⟨he, hw''⟩ => by subst he; exact hK _ hw''
  | halt x w' => simp only [Oper.quietUpon] at h
theorem any_end {Q : Exit → Act → World → Prop} {M : Array Bool} (hr : Region.ready .any ops M = []) (fuel : Nat) (a : Act) (w : World) (h : Q .normal a w) : wpAny P .any ops Q fuel M a w := by
  cases fuel with
  | zero => exact ⟨hr, h⟩
  | succ f => exact ⟨fun _ => h, fun i hi => by rw [hr] at hi; cases hi⟩
theorem phaseB {Q : Exit → Act → World → Prop} {z : Obj} (F : Fit n ops0 ops oa os)
    (hS : ∀ w p, Below w0.heap.size w0 w → w0.heap.size ≤ p → w.heap[p]? = some z → os.wp P (aF.put oa.dst (ptr p)) w (fun a' w' => Q .normal a' w') Q) :
    ∀ (fuel : Nat) (M L : Array Bool) (a : Act) (w : World) (p : Nat), HW P ops0 aF w0 fuel L a → Rel n M L true false → Closed ops0 L → Below w0.heap.size w0 w → w0.heap.size ≤ p → w.heap[p]? = some z →
      wpAny P .any ops Q (fuel + 1) M (a.put oa.dst (ptr p)) w := by
  intro fuel
  induction fuel with
  | zero =>
    intro M L a w p H R hc hb hp hz
    have h0 : Region.ready .any ops0 L = [] := (H w0 (Below.refl _ _)).1
    have hall := listed_of_none F R.lsize h0
    have hst : n + 1 ∈ Region.ready .any ops M := mem_ready.2 ⟨by simp only [Array.getD_eq_getD_getElem?, R.st]; rfl, os, F.st, fun e he hbb => by
      have := F.sn e he hbb
      by_cases e1 : e.on = n
      · rw [e1]; simp only [Array.getD_eq_getD_getElem?, R.al]; rfl
      · rw [R.getD false (by omega)]; exact hall _ (by omega)⟩
    obtain rfl := H.done h0
    refine ⟨fun hr => (by rw [hr] at hst; cases hst), fun i hi => ?_⟩
    obtain ⟨h1, o, h2, h3⟩ := mem_ready.1 hi
    have hlt := (Array.getElem?_eq_some_iff.1 h2).1
    rw [F.size] at hlt
    by_cases e : i < n
    · have := ready_down F R e hi; rw [h0] at this; cases this
    by_cases e2 : i = n
    · subst e2; simp only [Array.getD_eq_getD_getElem?, R.al] at h1; cases h1
    obtain rfl : i = n + 1 := by omega
    unfold wpOp
    simp only [F.st]
    rw [if_pos (by simp [Region.wanted, F.gs])]
    exact .inl (Oper.wp_mono (fun a' w' h => any_end (ready_end F R hall) _ _ _ h) (hS w p hb hp hz))
  | succ fuel ih =>
    intro M L a w p H R hc hb hp hz
    refine ⟨fun hr => ?_, fun i hi => ?_⟩
    · exfalso
      have h0 : Region.ready .any ops0 L = [] := by
        rcases hx : Region.ready .any ops0 L with _ | ⟨i, t⟩
        · rfl
        · have : i ∈ Region.ready .any ops M := ready_up F R (by rw [hx]; simp)
          rw [hr] at this; cases this
      have hall := listed_of_none F R.lsize h0
      have hst : n + 1 ∈ Region.ready .any ops M := mem_ready.2 ⟨by simp only [Array.getD_eq_getD_getElem?, R.st]; rfl, os, F.st, fun e he hbb => by
        have := F.sn e he hbb
        by_cases e1 : e.on = n
        · rw [e1]; simp only [Array.getD_eq_getD_getElem?, R.al]; rfl
        · rw [R.getD false (by omega)]; exact hall _ (by omega)⟩
      rw [hr] at hst; cases hst
    · obtain ⟨h1, o, h2, h3⟩ := mem_ready.1 hi
      have hlt := (Array.getElem?_eq_some_iff.1 h2).1
      rw [F.size] at hlt
      by_cases e : i < n
      · have hi0 := ready_down F R e hi
        have ho : ops0[i]? = some o := by rw [← F.same i e]; exact h2
        obtain ⟨v, hy, hk⟩ := H.step F.dsts hi0 ho w hb
        obtain ⟨g1, g2, g3⟩ := Oper.apart_spec (F.apart i o ho)
        unfold wpOp
        simp only [h2]
        rw [wanted_put o a oa.dst (ptr p) g1, wanted_ops F ho]
        have hput : ∀ u, (a.put oa.dst (ptr p)).put o.dst u = (a.put o.dst u).put oa.dst (ptr p) := fun u => Act.put_comm a _ _ g2
        rcases hy with ⟨hw, hq⟩ | ⟨hw, rfl⟩
        · rw [if_pos hw]
          refine .inl (wp_quiet (execOp_put (ops := ops) o (fun cs b => F.nosel i o cs b ho) a oa.dst (ptr p) g1) hq fun w' hw' => ?_)
          rw [hput]
          have hb' := cls_below hw'
          have hpl : p < w.heap.size := (Array.getElem?_eq_some_iff.1 hz).1
          exact ih _ _ _ w' p hk (R.set e) (hc.set hi0) (hb.trans (hb'.mono hb.size)) hp (by rw [hb'.block p hpl]; exact hz)
        · rw [if_neg (by rw [hw]; simp), hput]
          exact ih _ _ _ w p hk (R.set e) (hc.set hi0) hb hp hz
      by_cases e2 : i = n
      · subst e2; simp only [Array.getD_eq_getD_getElem?, R.al] at h1; cases h1
      obtain rfl : i = n + 1 := by omega
      have hall := all_listed F R hc hi
      have h0 := none_ready F hall
      obtain rfl := H.done h0
      unfold wpOp
      simp only [F.st]
      rw [if_pos (by simp [Region.wanted, F.gs])]
      exact .inl (Oper.wp_mono (fun a' w' h => any_end (ready_end F R hall) _ _ _ h) (hS w p hb hp hz))
theorem phaseA {Q : Exit → Act → World → Prop} {z : Obj} (F : Fit n ops0 ops oa os)
    (hA : ∀ (a : Act) (w : World) (K : Act → World → Prop), K (a.put oa.dst (ptr w.heap.size)) (w.alloc z) → oa.wp P a w K Q)
    (hS : ∀ w p, Below w0.heap.size w0 w → w0.heap.size ≤ p → w.heap[p]? = some z → os.wp P (aF.put oa.dst (ptr p)) w (fun a' w' => Q .normal a' w') Q) :
    ∀ (fuel : Nat) (M L : Array Bool) (a : Act) (w : World), HW P ops0 aF w0 fuel L a → Rel n M L false false → Closed ops0 L → Below w0.heap.size w0 w →
      wpAny P .any ops Q (fuel + 2) M a w := by
  intro fuel
  induction fuel with
  | zero =>
    intro M L a w H R hc hb
    have hal : n ∈ Region.ready .any ops M := mem_ready.2 ⟨by simp only [Array.getD_eq_getD_getElem?, R.al]; rfl, oa, F.al, fun e he hbb => (F.aa e he hbb).elim⟩
    refine ⟨fun hr => (by rw [hr] at hal; cases hal), fun i hi => ?_⟩
    obtain ⟨h1, o, h2, h3⟩ := mem_ready.1 hi
    have hlt := (Array.getElem?_eq_some_iff.1 h2).1
    rw [F.size] at hlt
    by_cases e : i < n
    · have := ready_down F R e hi; rw [(H w0 (Below.refl _ _)).1] at this; cases this
    by_cases e2 : i = n
    · subst e2
      unfold wpOp
      simp only [F.al]
      rw [if_pos (by simp [Region.wanted, F.ga])]
      refine .inl (hA a w _ ?_)
      exact phaseB F hS 0 _ L a _ w.heap.size H R.setA hc (hb.alloc hb.size z) hb.size (by show (w.heap.push z)[w.heap.size]? = _; simp)
    · exfalso
      obtain rfl : i = n + 1 := by omega
      rw [F.st] at h2
      injection h2 with h2
      subst h2
      obtain ⟨e3, he, hbb, heq⟩ := F.sa
      have := h3 e3 he hbb
      rw [heq] at this
      simp only [Array.getD_eq_getD_getElem?, R.al] at this
      cases this
  | succ fuel ih =>
    intro M L a w H R hc hb
    have hal : n ∈ Region.ready .any ops M := mem_ready.2 ⟨by simp only [Array.getD_eq_getD_getElem?, R.al]; rfl, oa, F.al, fun e he hbb => (F.aa e he hbb).elim⟩
    refine ⟨fun hr => (by rw [hr] at hal; cases hal), fun i hi => ?_⟩
    obtain ⟨h1, o, h2, h3⟩ := mem_ready.1 hi
    have hlt := (Array.getElem?_eq_some_iff.1 h2).1
    rw [F.size] at hlt
    by_cases e : i < n
    · have hi0 := ready_down F R e hi
      have ho : ops0[i]? = some o := by rw [← F.same i e]; exact h2
      obtain ⟨v, hy, hk⟩ := H.step F.dsts hi0 ho w hb
      unfold wpOp
      simp only [h2]
      rw [wanted_ops F ho]
      rcases hy with ⟨hw, hq⟩ | ⟨hw, rfl⟩
      · rw [if_pos hw]
        refine .inl (wp_quiet rfl hq fun w' hw' => ?_)
        have hb' := cls_below hw'
        exact ih _ _ _ w' hk (R.set e) (hc.set hi0) (hb.trans (hb'.mono hb.size))
      · rw [if_neg (by rw [hw]; simp)]
        exact ih _ _ _ w hk (R.set e) (hc.set hi0) hb
    by_cases e2 : i = n
    · subst e2
      unfold wpOp
      simp only [F.al]
      rw [if_pos (by simp [Region.wanted, F.ga])]
      refine .inl (hA a w _ ?_)
      exact phaseB F hS (fuel + 1) _ L a _ w.heap.size H R.setA hc (hb.alloc hb.size z) hb.size (by show (w.heap.push z)[w.heap.size]? = _; simp)
    · exfalso
      obtain rfl : i = n + 1 := by omega
      rw [F.st] at h2
      injection h2 with h2
      subst h2
      obtain ⟨e3, he, hbb, heq⟩ := F.sa
      have := h3 e3 he hbb
      rw [heq] at this
      simp only [Array.getD_eq_getD_getElem?, R.al] at this
      cases this
end
/-! ### The Bool -/
def afB (o : Oper) (f : Nat → Bool) : Bool := o.after.all fun e => !Region.binds .any e || f e.on
def onB (o : Oper) (j : Nat) : Bool := o.after.any fun e => Region.binds .any e && e.on == j
def varB (l0 : List Oper) (oa os : Oper) : Bool :=
  let n := l0.length
  let ops := (l0 ++ [oa, os]).toArray
  ((List.range n).all fun i => (List.range n).all fun j => match l0[i]?, l0[j]? with
    | some oi, some oj => i == j || (match oi.dst with | some d => oj.dst != some d | none => true)
    | _, _ => true) &&
  ((List.range n).all fun i => match l0[i]? with
    | some o => afB o (fun k => decide (k < i)) && (match o.guard with | some (j, _) => decide (j < n) | none => true) && oa.apart ops o
    | none => true) &&
  (oa.guard.isNone && os.guard.isNone && afB oa (fun _ => false) && onB os n && afB os (fun k => decide (k ≤ n))) &&
  ((List.range n).all fun j => onB os j || (List.range n).any fun i => decide (j < i) && (match l0[i]? with | some o => onB o j | none => false))
theorem afB_spec {o : Oper} {f : Nat → Bool} (h : afB o f = true) : ∀ e ∈ o.after, Region.binds .any e = true → f e.on = true := by
  intro e he hb
  have := Array.all_eq_true_iff_forall_mem.1 h e he
  rw [hb] at this
  simpa using this
theorem onB_spec {o : Oper} {j : Nat} (h : onB o j = true) : ∃ e ∈ o.after, Region.binds .any e = true ∧ e.on = j := by
  unfold onB at h
  rw [Array.any_eq_true'] at h
  obtain ⟨e, he, h⟩ := h
  simp at h
  exact ⟨e, he, h.1, h.2⟩
theorem fit_of {l0 : List Oper} {oa os : Oper} (hs : Region.noSelect l0.toArray = true) (h : varB l0 oa os = true) : Fit l0.length l0.toArray (l0 ++ [oa, os]).toArray oa os := by
  simp only [varB, Bool.and_eq_true, List.all_eq_true, List.mem_range] at h
  obtain ⟨⟨⟨h1, h2⟩, ⟨⟨⟨⟨h3, h4⟩, h5⟩, h6⟩, h7⟩⟩, h8⟩ := h
  have lt : ∀ {i : Nat} {o : Oper}, l0.toArray[i]? = some o → i < l0.length ∧ l0[i]? = some o := fun {i o} hi => by
    rw [List.getElem?_toArray] at hi
    exact ⟨(List.getElem?_eq_some_iff.1 hi).1, hi⟩
  refine ⟨by simp, by simp, fun j hj => ?_, ?_, ?_, ?_, ?_, ?_, ?_, fun i o cs b ho => Region.noSelect_spec hs i o cs b ho, by simpa using h3, by simpa using h4, fun e he hb => (by have := afB_spec h5 e he hb; cases this), onB_spec h6, fun e he hb => (by have := afB_spec h7 e he hb; simpa using this), ?_⟩
  · rw [List.getElem?_toArray, List.getElem?_toArray, List.getElem?_append_left hj]
  · rw [List.getElem?_toArray, List.getElem?_append_right (Nat.le_refl _)]; simp
  · rw [List.getElem?_toArray, List.getElem?_append_right (by omega)]; simp
  · intro i j oi oj d hi hj hne hd
    obtain ⟨a1, a2⟩ := lt hi
    obtain ⟨b1, b2⟩ := lt hj
    have := h1 i a1 j b1
    rw [a2, b2] at this
    simp only [hd, Bool.or_eq_true] at this
    rcases this with e | e
    · exact absurd (by simpa using e) hne
    · simpa using e
  · intro i o ho e he hb
    obtain ⟨a1, a2⟩ := lt ho
    have := h2 i a1
    rw [a2] at this
    simp only [Bool.and_eq_true] at this
    have := afB_spec this.1.1 e he hb
    simpa using this
  · intro i o ho j b hg
    obtain ⟨a1, a2⟩ := lt ho
    have := h2 i a1
    rw [a2] at this
    simp only [Bool.and_eq_true, hg] at this
    simpa using this.1.2
  · intro i o ho
    obtain ⟨a1, a2⟩ := lt ho
    have := h2 i a1
    rw [a2] at this
    simp only [Bool.and_eq_true] at this
    exact this.2
  · intro j hj
    have := h8 j hj
    simp only [Bool.or_eq_true, List.any_eq_true, List.mem_range, Bool.and_eq_true] at this
    rcases this with e | ⟨i, hi, hji, e⟩
    · exact .inl (onB_spec e)
    · refine .inr ⟨i, l0[i], by simpa using hji, by rw [List.getElem?_toArray, List.getElem?_eq_getElem hi], ?_⟩
      rw [List.getElem?_eq_getElem hi] at e
      exact onB_spec e
/-- A region that ends with a variable that is made and stored. -/
theorem wp_region_var {P : Program} {Q : Exit → Act → World → Prop} {id : Nat} {l0 : List Oper} {oa os : Oper} {a : Act} {w : World} (aF : Act) (z : Obj) (hm : P.follows .mixedOrders = true) (hB : Region.lexB .any l0.toArray = true) (hV : varB l0 oa os = true)
    (H : ∀ W, Below w.heap.size w W → wpQuiet P l0.toArray (fun w' => ∃ p : Regrown, w' = grow (redrawn W p.d) p.os) (fun a' => a' = aF) l0 a)
    (hA : ∀ (a : Act) (w : World) (K : Act → World → Prop), K (a.put oa.dst (ptr w.heap.size)) (w.alloc z) → oa.wp P a w K Q)
    (hS : ∀ w1 p, Below w.heap.size w w1 → w.heap.size ≤ p → w1.heap[p]? = some z → os.wp P (aF.put oa.dst (ptr p)) w1 (fun a' w' => Q .normal a' w') Q) :
    (Code.region id (l0 ++ [oa, os]).toArray true).wp P Q a w := by
  simp only [Region.lexB, Bool.and_eq_true] at hB
  have F := fit_of hB.1 hV
  refine wp_region_any hm ?_
  have e : (l0 ++ [oa, os]).toArray.size = l0.length + 2 := by simp
  rw [e]
  refine phaseA F hA hS l0.length (Array.replicate (l0.length + 2) false) (Array.replicate l0.length false) a _ (fun W hW => ?_) ⟨by simp, by simp, fun j hj => ?_, ?_, ?_⟩ ?_ (Below.refl _ _).drew
  · have := wpAnyQ_lex (C := cls W) (md := .any) hB.1 l0 0 (Array.replicate l0.toArray.size false) a (by simp) (by simpa using hB.2) (H W hW)
    simpa using this
  · rw [Array.getElem?_replicate, Array.getElem?_replicate, if_pos (by omega), if_pos hj]
  · rw [Array.getElem?_replicate, if_pos (by omega)]
  · rw [Array.getElem?_replicate, if_pos (by omega)]
  · intro i o ho hl
    simp only [Array.getD_eq_getD_getElem?, Array.getElem?_replicate] at hl
    split at hl <;> cases hl
/-- The same for a region that is written out: its first n operations, and the two behind them. -/
theorem wp_region_var_at {P : Program} {Q : Exit → Act → World → Prop} {id : Nat} {l : List Oper} {a : Act} {w : World} (n : Nat) (oa os : Oper) (hl : l.drop n = [oa, os]) (aF : Act) (z : Obj) (hm : P.follows .mixedOrders = true) (hB : Region.lexB .any (l.take n).toArray = true) (hV : varB (l.take n) oa os = true)
    (H : ∀ W, Below w.heap.size w W → wpQuiet P (l.take n).toArray (fun w' => ∃ p : Regrown, w' = grow (redrawn W p.d) p.os) (fun a' => a' = aF) (l.take n) a)
    (hA : ∀ (a : Act) (w : World) (K : Act → World → Prop), K (a.put oa.dst (.pointer (some ⟨w.heap.size, 0, none⟩))) (w.alloc z) → oa.wp P a w K Q)
    (hS : ∀ w1 p, Below w.heap.size w w1 → w.heap.size ≤ p → w1.heap[p]? = some z → os.wp P (aF.put oa.dst (.pointer (some ⟨p, 0, none⟩))) w1 (fun a' w' => Q .normal a' w') Q) :
    (Code.region id l.toArray true).wp P Q a w := by
  have e : l = l.take n ++ [oa, os] := by rw [← hl, List.take_append_drop]
  have k := wp_region_var (id := id) aF z hm hB hV H hA hS
  rw [← e] at k
  exact k
end RgV
end Go.Proofs.Ytdclofiifcpkkaa
