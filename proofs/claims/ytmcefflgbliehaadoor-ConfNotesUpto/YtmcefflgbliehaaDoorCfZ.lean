
/-
  Layer 18 (conf): what one line says whose value has no sign of the language.
-/
import Derived.Test.YtmcefflgbliehaaDoorCfY
set_option linter.unusedVariables false
namespace Go.Proofs.YtmcefflgbliehaaDoor
/-- A byte of a value without signs. -/
def vB (c : UInt8) : Bool := decide (33 ≤ c.toNat) && decide (c.toNat ≤ 126) && decide (c.toNat ≠ 35)
def signOf (more : Bool) : List UInt8 := if more then [32, 43, 61, 32] else [32, 61, 32]
theorem inN_vB {c : UInt8} (h : inN c = true) : vB c = true ∧ c ≠ 61 ∧ c ≠ 91 ∧ c ≠ 43 := by
  unfold inN at h
  unfold vB
  simp only [Bool.or_eq_true, Bool.and_eq_true, decide_eq_true_eq] at h ⊢
  refine ⟨by omega, ?_, ?_, ?_⟩
  all_goals
    rintro rfl
    revert h
    decide
theorem vB_bl {c : UInt8} (h : vB c = true) : bl c = false ∧ plB c = true ∧ c ≠ 35 ∧ c ≠ 10 := by
  unfold vB at h
  simp only [Bool.and_eq_true, decide_eq_true_eq] at h
  have e : bl c = false := by
    unfold bl
    have a1 : c ≠ 32 := by rintro rfl; revert h; decide
    have a2 : c ≠ 9 := by rintro rfl; revert h; decide
    have a3 : c ≠ 13 := by rintro rfl; revert h; decide
    simp [a1, a2, a3]
  refine ⟨e, ?_, ?_, ?_⟩
  · unfold plB
    rw [e]
    simp
    omega
  · rintro rfl; revert h; decide
  · rintro rfl; revert h; decide
theorem dw_stop {p : UInt8 → Bool} {l : List UInt8} (h : ∀ c ∈ l, p c = false) : l.dropWhile p = l := by
  cases l with
  | nil => rfl
  | cons a b => rw [List.dropWhile_cons_of_neg (by rw [h a List.mem_cons_self]; simp)]
theorem bl_set (c : UInt8) : [32, 9, 13].contains c = bl c := by
  unfold bl
  simp only [List.contains_cons, List.contains_nil, Bool.or_false]
  rw [Bool.or_assoc]
theorem trim_eq (l : List UInt8) : trimC l = ((l.reverse.dropWhile bl).reverse).dropWhile bl := by
  unfold trimC Lib.trimS Lib.trimLeftS Lib.trimRightS
  have : (fun c => [32, 9, 13].contains c) = bl := by funext c; exact bl_set c
  simp only [this]
/-- Blanks at both ends go, if what is between begins and ends with none. -/
theorem trim_mid (a m b : List UInt8) (ha : ∀ c ∈ a, bl c = true) (hb : ∀ c ∈ b, bl c = true) (h1 : ∀ x, m.head? = some x → bl x = false) (h2 : ∀ x, m.getLast? = some x → bl x = false) : trimC (a ++ m ++ b) = m := by
  rw [trim_eq, List.reverse_append, List.reverse_append]
  have hdw : ∀ (x y : List UInt8), (∀ c ∈ x, bl c = true) → (x ++ y).dropWhile bl = y.dropWhile bl := by
    intro x y hx
    induction x with
    | nil => rfl
    | cons c x ih => rw [List.cons_append, List.dropWhile_cons_of_pos (hx c List.mem_cons_self)]; exact ih fun z hz => hx z (List.mem_cons_of_mem _ hz)
  rw [hdw _ _ (fun c hc => hb c (List.mem_reverse.1 hc))]
  cases m with
  | nil =>
    have e : ∀ (x : List UInt8), (∀ c ∈ x, bl c = true) → x.dropWhile bl = [] := fun x hx => by have := hdw x [] hx; simpa using this
    have e2 : ([] : List UInt8).reverse ++ a.reverse = a.reverse := rfl
    rw [e2, e _ (fun c hc => ha c (List.mem_reverse.1 hc))]
    rfl
  | cons z m =>
    have hl : ∃ y m', (z :: m).reverse = y :: m' ∧ bl y = false := by
      cases hr : (z :: m).reverse with
      | nil => simp at hr
      | cons y m' =>
        refine ⟨y, m', rfl, h2 y ?_⟩
        rw [← List.head?_reverse, hr]; rfl
    obtain ⟨y, m', e, hy⟩ := hl
    rw [e, List.cons_append, List.dropWhile_cons_of_neg (by rw [hy]; simp), ← List.cons_append, ← e, ← List.reverse_append, List.reverse_reverse]
    rw [hdw _ _ ha, List.dropWhile_cons_of_neg (by rw [h1 z rfl]; simp)]
theorem index_app (c : UInt8) : ∀ (a b : List UInt8), c ∉ a → Lib.index (a ++ c :: b) [c] = (a.length : Int)
  | [], b, _ => index_cons_eq c b
  | x :: a, b, h => by
    have hx : ¬ x = c := fun e => h (by simp [e])
    rw [List.cons_append, index_cons_ne x c _ hx, index_app c a b (fun e => h (List.mem_cons_of_mem _ e))]
    have : (((a.length : Int)) == -1) = false := by simp
    rw [this]
    simp
theorem cut_app (c : UInt8) (a b : List UInt8) (h : c ∉ a) : Lib.cut (a ++ c :: b) [c] = (a, b, true) := by
  unfold Lib.cut
  rw [index_app c a b h]
  simp
theorem cut_none (c : UInt8) (a : List UInt8) (h : c ∉ a) : Lib.cut a [c] = (a, [], false) := by
  unfold Lib.cut
  rw [index_no c a (fun j hj => h (List.mem_of_getElem? hj))]
  rfl
/-- What stands ahead of the sign of the line. -/
def aheadOf (nm : List UInt8) (more : Bool) : List UInt8 := nm ++ (if more then [32, 43] else [32])
/-- The line without the blanks at its end. -/
def bodyOf (nm va : List UInt8) (more : Bool) : List UInt8 := aheadOf nm more ++ 61 :: (if va = [] then [] else 32 :: va)
theorem name_mem {nm : List UInt8} (h : nameC nm = true) : (∀ c ∈ nm, inN c = true) ∧ nm ≠ [] := by
  unfold nameC at h
  simp only [Bool.and_eq_true, List.all_eq_true] at h
  exact ⟨h.1, by simpa using h.2.1⟩
theorem ahead_mem {nm : List UInt8} (h : nameC nm = true) (more : Bool) : ∀ c ∈ aheadOf nm more, c ≠ 61 ∧ c ≠ 35 ∧ c ≠ 10 ∧ plB c = true := by
  intro c hc
  unfold aheadOf at hc
  rcases List.mem_append.1 hc with hc | hc
  · have h1 := inN_vB ((name_mem h).1 c hc)
    have h2 := vB_bl h1.1
    exact ⟨h1.2.1, h2.2.2.1, h2.2.2.2, h2.2.1⟩
  · cases more
    · simp at hc; subst hc; decide
    · simp at hc; rcases hc with rfl | rfl <;> decide
theorem body_line (nm va : List UInt8) (more : Bool) : ∃ b, nm ++ signOf more ++ va = bodyOf nm va more ++ b ∧ ∀ c ∈ b, bl c = true := by
  unfold signOf bodyOf aheadOf
  by_cases h : va = []
  · refine ⟨[32], ?_, by simp [bl]⟩
    subst h
    cases more <;> simp
  · refine ⟨[], ?_, by simp⟩
    rw [if_neg h]
    cases more <;> simp
theorem body_head {nm : List UInt8} (h : nameC nm = true) (va : List UInt8) (more : Bool) : ∃ c r, bodyOf nm va more = c :: r ∧ inN c = true := by
  obtain ⟨h1, h2⟩ := name_mem h
  cases nm with
  | nil => exact absurd rfl h2
  | cons c r => exact ⟨c, _, rfl, h1 c List.mem_cons_self⟩
theorem body_last (nm va : List UInt8) (more : Bool) (hv : ∀ c ∈ va, vB c = true) : ∀ x, (bodyOf nm va more).getLast? = some x → bl x = false := by
  intro x hx
  unfold bodyOf at hx
  by_cases h : va = []
  · rw [if_pos h, List.getLast?_append] at hx
    simp at hx
    subst hx; decide
  · rw [if_neg h] at hx
    have e : aheadOf nm more ++ 61 :: 32 :: va = (aheadOf nm more ++ [61, 32]) ++ va := by simp
    rw [e, List.getLast?_append] at hx
    cases hl : va.getLast? with
    | none => exact absurd (List.getLast?_eq_none_iff.1 hl) h
    | some y =>
      rw [hl] at hx
      simp at hx
      subst hx
      exact (vB_bl (hv _ (List.mem_of_getLast? hl))).1
theorem body_bytes {nm : List UInt8} (h : nameC nm = true) (va : List UInt8) (more : Bool) (hv : ∀ c ∈ va, vB c = true) : ∀ c ∈ bodyOf nm va more, c ≠ 35 ∧ c ≠ 10 ∧ plB c = true := by
  intro c hc
  unfold bodyOf at hc
  rcases List.mem_append.1 hc with hc | hc
  · have := ahead_mem h more c hc
    exact ⟨this.2.1, this.2.2.1, this.2.2.2⟩
  · rcases List.mem_cons.1 hc with rfl | hc
    · decide
    · by_cases e : va = []
      · rw [if_pos e] at hc; cases hc
      · rw [if_neg e] at hc
        rcases List.mem_cons.1 hc with rfl | hc
        · decide
        · have := vB_bl (hv c hc)
          exact ⟨this.2.2.1, this.2.2.2, this.2.1⟩
theorem bl_more {c : UInt8} (h : bl c = true) : c ≠ 35 ∧ plB c = true := by
  unfold bl at h
  simp only [Bool.or_eq_true, beq_iff_eq] at h
  rcases h with (rfl | rfl) | rfl <;> decide
theorem line_plain {nm : List UInt8} (h : nameC nm = true) (va : List UInt8) (more : Bool) (hv : ∀ c ∈ va, vB c = true) : plainC (nm ++ signOf more ++ va) = true ∧ saidC (nm ++ signOf more ++ va) = bodyOf nm va more := by
  obtain ⟨b, e, hb⟩ := body_line nm va more
  rw [e]
  have h35 : (35 : UInt8) ∉ bodyOf nm va more ++ b := fun hm => by
    rcases List.mem_append.1 hm with hm | hm
    · exact (body_bytes h va more hv _ hm).1 rfl
    · exact (bl_more (hb _ hm)).1 rfl
  refine ⟨?_, ?_⟩
  · unfold plainC
    rw [List.all_eq_true]
    intro c hc
    rcases List.mem_append.1 hc with hc | hc
    · exact (body_bytes h va more hv c hc).2.2
    · exact (bl_more (hb c hc)).2
  · unfold saidC
    rw [cut_none 35 _ h35]
    obtain ⟨c, r, hr, hc⟩ := body_head h va more
    have := trim_mid [] (bodyOf nm va more) b (by simp) hb (fun x hx => by rw [hr] at hx; simp at hx; subst hx; exact (vB_bl (inN_vB hc).1).1) (body_last nm va more hv)
    simpa using this
theorem trim_vB {l : List UInt8} (hv : ∀ c ∈ l, vB c = true) (a b : List UInt8) (ha : ∀ c ∈ a, bl c = true) (hb : ∀ c ∈ b, bl c = true) : trimC (a ++ l ++ b) = l :=
  trim_mid a l b ha hb (fun x hx => (vB_bl (hv x (List.mem_of_head? hx))).1) (fun x hx => (vB_bl (hv x (List.mem_of_getLast? hx))).1)
theorem body_read {nm : List UInt8} (h : nameC nm = true) (va : List UInt8) (more : Bool) (hv : ∀ c ∈ va, vB c = true) : readB (bodyOf nm va more) = true ∧ readT (bodyOf nm va more) = ⟨nm, va, more⟩ := by
  have hc : Lib.cut (bodyOf nm va more) [61] = (aheadOf nm more, (if va = [] then [] else 32 :: va), true) := cut_app 61 _ _ (fun hm => (ahead_mem h more _ hm).1 rfl)
  have hnv : ∀ c ∈ nm, vB c = true := fun c hc => (inN_vB ((name_mem h).1 c hc)).1
  have hva : trimC (if va = [] then [] else 32 :: va) = va := by
    by_cases e : va = []
    · rw [if_pos e, e]; decide
    · rw [if_neg e]
      have := trim_vB hv [32] [] (by simp [bl]) (by simp)
      simpa using this
  have hnm : trimC (nm ++ [32]) = nm := by
    have := trim_vB hnv [] [32] (by simp) (by simp [bl])
    simpa using this
  have hs : Lib.trimSuffix (aheadOf nm more) [43] = nm ++ [32] ∧ Lib.hasSuffix (aheadOf nm more) [43] = more := by
    unfold aheadOf Lib.trimSuffix Lib.hasSuffix
    cases more
    · have : ([43] : List UInt8).isSuffixOf (nm ++ [32]) = false := by
        rw [Bool.eq_false_iff]
        intro hh
        rw [List.isSuffixOf_iff_suffix] at hh
        obtain ⟨t, ht⟩ := hh
        have := congrArg List.getLast? ht
        simp at this
      simp [this]
    · have : ([43] : List UInt8).isSuffixOf (nm ++ [32, 43]) = true := by
        rw [List.isSuffixOf_iff_suffix]
        exact ⟨nm ++ [32], by simp⟩
      simp [this]
      rw [show nm.length + 1 = (nm ++ [32]).length by simp, show nm ++ [32, 43] = (nm ++ [32]) ++ [43] by simp]
      exact List.take_left' rfl
  have hr : readT (bodyOf nm va more) = ⟨nm, va, more⟩ := by
    unfold readT
    rw [hc]
    simp only []
    rw [hs.1, hs.2, hnm, hva]
  refine ⟨?_, hr⟩
  unfold readB
  rw [hr, hc]
  simpa using h
/-- The line in a configuration that has a part. -/
theorem take_line {F : Cf} {nm : List UInt8} (h : nameC nm = true) (va : List UInt8) (more : Bool) (hv : ∀ c ∈ va, vB c = true) (hF : F.secs ≠ []) (k : Int) : takeC F (nm ++ signOf more ++ va) k = (⟨F.dirs, tellS F.secs ⟨nm, va, more⟩ k⟩, 0) := by
  obtain ⟨h1, h2⟩ := line_plain h va more hv
  obtain ⟨h3, h4⟩ := body_read h va more hv
  obtain ⟨c, r, hr, hc⟩ := body_head h va more
  have := take_6 (F := F) (n := k) h1 (by rw [h2, hr]; simp) (by rw [h2, hr]; unfold Lib.hasPrefix; simp [List.isPrefixOf]; exact fun e => (inN_vB hc).2.2.1 e.symm) (by rw [h2]; exact h3) hF
  rw [this, h2, h4]
theorem take_empty (F : Cf) (k : Int) : takeC F [] k = (F, 0) := take_2 (by decide) (by decide)
/-- The configuration with that line behind it. -/
theorem parse_more {a : List UInt8} {F : Cf} (ha : parseC a = (F, 0, 0)) (hF : F.secs ≠ []) {nm : List UInt8} (h : nameC nm = true) (va : List UInt8) (more : Bool) (hv : ∀ c ∈ va, vB c = true) (hl : (a ++ 10 :: (nm ++ signOf more ++ va ++ [10])).length ≤ 16384) :
    ∃ k, parseC (a ++ 10 :: (nm ++ signOf more ++ va ++ [10])) = (⟨F.dirs, tellS F.secs ⟨nm, va, more⟩ k⟩, 0, 0) := by
  have hla : ¬ 16384 < a.length := by rw [List.length_append] at hl; omega
  unfold parseC at ha ⊢
  rw [if_neg hla] at ha
  rw [if_neg (by omega), sp_append]
  have h10 : (10 : UInt8) ∉ nm ++ signOf more ++ va := by
    obtain ⟨b, e, hb⟩ := body_line nm va more
    rw [e]
    intro hm
    rcases List.mem_append.1 hm with hm | hm
    · exact (body_bytes h va more hv _ hm).2.1 rfl
    · have := hb _ hm; revert this; decide
  have hs : sp 10 (nm ++ signOf more ++ va ++ [10]) = [nm ++ signOf more ++ va, []] := by
    have := sp_append 10 (nm ++ signOf more ++ va) []
    rw [sp_one 10 _ h10] at this
    simpa [sp] using this
  rw [hs, goC_app _ _ _ _ _ ha]
  refine ⟨1 + ((sp 10 a).length : Int), ?_⟩
  rw [goC, take_line h va more hv hF]
  simp only [if_true]
  rw [goC, take_empty]
  simp only [if_true]
  rw [goC]
end Go.Proofs.YtmcefflgbliehaaDoor
