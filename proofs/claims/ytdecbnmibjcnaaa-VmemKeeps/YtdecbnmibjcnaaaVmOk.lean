
/-
  A space stays as it must be, whatever is done with it.
-/
import Derived.Test.YtdecbnmibjcnaaaVmJd
set_option linter.unusedVariables false
namespace Go.Proofs.Ytdecbnmibjcnaaa
open Go.RowKit Go.PlainAid
theorem Rm.ok.fin_page {r : Rm} (h : r.ok) : r.fin % 256 = 0 ∧ r.pos + 256 ≤ r.fin := by
  have h1 := h.page
  have h2 := h.one
  unfold Rm.fin Rm.size
  omega
/-- What is known of a place that was found free. -/
structure GapIs (l : List Rm) (f n q : Nat) : Prop where
  le : f ≤ q
  page : q % 256 = 0
  free : ∀ r ∈ l, r.fin ≤ q ∨ q + n ≤ r.pos
theorem gap_is {l : List Rm} (ho : ∀ r ∈ l, r.ok) (hs : l.Pairwise (fun a b => a.fin ≤ b.pos)) (f n : Nat) (hf : f % 256 = 0) : GapIs l f n (gapAt l f n) := by
  induction l generalizing f with
  | nil => exact ⟨Nat.le_refl _, hf, fun r hr => absurd hr (by simp)⟩
  | cons r l ih =>
    have hr := ho r List.mem_cons_self
    obtain ⟨hfp, hfl⟩ := hr.fin_page
    obtain ⟨hs1, hs2⟩ := List.pairwise_cons.1 hs
    unfold gapAt
    split
    · rename_i h
      refine ⟨Nat.le_refl _, hf, fun x hx => .inr ?_⟩
      rcases List.mem_cons.1 hx with rfl | hx
      · exact h
      · have := hs1 x hx; omega
    · have := ih (fun x hx => ho x (List.mem_cons_of_mem _ hx)) hs2 (max f r.fin) (by
        by_cases hm : f ≤ r.fin
        · rw [Nat.max_eq_right hm]; exact hfp
        · rw [Nat.max_eq_left (by omega)]; exact hf)
      refine ⟨by have := this.le; omega, this.page, fun x hx => ?_⟩
      rcases List.mem_cons.1 hx with rfl | hx
      · left; have := this.le; omega
      · exact this.free x hx
theorem startOf_page (h : Nat) : startOf h % 256 = 0 ∧ 256 ≤ startOf h := by
  unfold startOf
  generalize h % 1099511627776 = b
  by_cases hm : b - b % 256 ≤ 256
  · rw [Nat.max_eq_right hm]; omega
  · rw [Nat.max_eq_left (by omega)]; omega
/-- Where a room is taken it is free. -/
theorem rvAt_is {sp : Sp} (hk : sp.ok) (h n : Nat) (hn : n ≤ 64) : rvAt sp h n % 256 = 0 ∧ 256 ≤ rvAt sp h n ∧ rvAt sp h n + n * 256 ≤ 1099511627776 ∧ ∀ r ∈ sp.rooms, r.fin ≤ rvAt sp h n ∨ rvAt sp h n + n * 256 ≤ r.pos := by
  unfold rvAt
  split
  · rename_i hc
    have g := gap_is hk.each hk.srt (startOf h) (n * 256) (startOf_page h).1
    exact ⟨g.page, Nat.le_trans (startOf_page h).2 g.le, hc, g.free⟩
  · have g := gap_is hk.each hk.srt 256 (n * 256) (by decide)
    exact ⟨g.page, g.le, hk.gap2 n hn, g.free⟩
theorem mem_take_idx {α : Type} {l : List α} {i : Nat} {x : α} (h : x ∈ l.take i) : ∃ j, j < i ∧ ∃ hj : j < l.length, l[j] = x := by
  obtain ⟨j, hj, e⟩ := List.getElem_of_mem h
  rw [List.length_take] at hj
  exact ⟨j, by omega, by omega, by rw [← e, List.getElem_take]⟩
theorem mem_drop_idx {α : Type} {l : List α} {i : Nat} {x : α} (h : x ∈ l.drop i) : ∃ j, i ≤ j ∧ ∃ hj : j < l.length, l[j] = x := by
  obtain ⟨j, hj, e⟩ := List.getElem_of_mem h
  rw [List.length_drop] at hj
  exact ⟨i + j, by omega, by omega, by rw [← e, List.getElem_drop]⟩
theorem rvS_ok {sp : Sp} (hk : sp.ok) (h n blk : Nat) : (rvS sp h n blk).ok := by
  unfold rvS
  split
  · rename_i hE
    have hn : 1 ≤ n ∧ n ≤ 64 ∧ used sp.rooms + n ≤ sp.budget := by
      unfold rvE at hE
      split at hE
      · cases hE
      · split at hE
        · cases hE
        · omega
    obtain ⟨a1, a2, a3, a4⟩ := rvAt_is hk h n hn.2.1
    have hr : (rvR sp h n blk).ok := by
      have hpl : (rvR sp h n blk).pages.length = n := List.length_replicate
      refine ⟨a2, a1, ?_, by rw [hpl]; exact hn.1, by rw [hpl]; exact hn.2.1, by rw [hpl]; exact Nat.le_refl _, ?_, fun s hs => ?_⟩
      · unfold Rm.fin Rm.size; rw [hpl]; exact a3
      · show n ≤ maxLen; unfold maxLen; omega
      · rw [(List.mem_replicate.1 hs).2]; exact blank_ok
    have hlo : ∀ x ∈ sp.rooms.take (begun sp.rooms (rvAt sp h n)), x.fin ≤ rvAt sp h n := by
      intro x hx
      obtain ⟨j, hj, hjl, rfl⟩ := mem_take_idx hx
      have h1 := begun_lo sp.rooms _ j hj hjl
      rcases a4 _ (List.getElem_mem hjl) with e | e
      · exact e
      · omega
    have hhi : ∀ x ∈ sp.rooms.drop (begun sp.rooms (rvAt sp h n)), rvAt sp h n + n * 256 ≤ x.pos := by
      intro x hx
      obtain ⟨j, hj, hjl, rfl⟩ := mem_drop_idx hx
      have h1 := begun_hi sp.rooms hk.srt _ j hj hjl
      have h2 := (hk.each _ (List.getElem_mem hjl)).fin_page
      rcases a4 _ (List.getElem_mem hjl) with e | e
      · omega
      · exact e
    refine ⟨hk.b0, hk.b1, ?_, ?_, ?_⟩
    · show used (sp.rooms.take _ ++ rvR sp h n blk :: sp.rooms.drop _) ≤ sp.budget
      have e := used_append (sp.rooms.take (begun sp.rooms (rvAt sp h n))) (sp.rooms.drop (begun sp.rooms (rvAt sp h n)))
      rw [List.take_append_drop] at e
      have hpl : (rvR sp h n blk).pages.length = n := List.length_replicate
      rw [used_append, used, hpl]
      omega
    · intro x hx
      rcases List.mem_append.1 hx with e | e
      · exact hk.each x (List.mem_of_mem_take e)
      · rcases List.mem_cons.1 e with rfl | e
        · exact hr
        · exact hk.each x (List.mem_of_mem_drop e)
    · have hs := hk.srt
      rw [← List.take_append_drop (begun sp.rooms (rvAt sp h n)) sp.rooms] at hs
      obtain ⟨s1, s2, s3⟩ := List.pairwise_append.1 hs
      refine List.pairwise_append.2 ⟨s1, List.pairwise_cons.2 ⟨fun x hx => ?_, s2⟩, fun x hx y hy => ?_⟩
      · have hpl : (rvR sp h n blk).pages.length = n := List.length_replicate
        have := hhi x hx
        unfold Rm.fin Rm.size
        rw [hpl]
        exact this
      · rcases List.mem_cons.1 hy with rfl | hy
        · exact hlo x hx
        · exact s3 x hx y hy
  · exact hk
theorem rlS_ok {sp : Sp} (hk : sp.ok) (a : Nat) : (rlS sp a).ok := by
  unfold rlS
  split
  · have hs := List.eraseIdx_sublist sp.rooms (begun sp.rooms a - 1)
    refine ⟨hk.b0, hk.b1, ?_, fun r hr => hk.each r (List.mem_of_mem_eraseIdx hr), hk.srt.sublist hs⟩
    have e : sp.rooms.eraseIdx (begun sp.rooms a - 1) = sp.rooms.take (begun sp.rooms a - 1) ++ sp.rooms.drop (begun sp.rooms a - 1 + 1) := List.eraseIdx_eq_take_drop_succ _ _
    have e2 := used_append (sp.rooms.take (begun sp.rooms a - 1)) (sp.rooms.drop (begun sp.rooms a - 1))
    rw [List.take_append_drop] at e2
    have h3 : used (sp.rooms.drop (begun sp.rooms a - 1 + 1)) ≤ used (sp.rooms.drop (begun sp.rooms a - 1)) := by
      rw [← List.drop_drop]
      cases sp.rooms.drop (begun sp.rooms a - 1) with
      | nil => simp
      | cons r l => simp [used]
    have := hk.use
    show used (sp.rooms.eraseIdx (begun sp.rooms a - 1)) ≤ sp.budget
    rw [e, used_append]
    omega
  · exact hk
theorem wrS_ok {sp : Sp} (hk : sp.ok) (a : Nat) (d : List UInt8) : (wrS sp a d).ok := by
  unfold wrS
  cases hg : got sp.rooms a d.length (some 2) with
  | error e => exact hk
  | ok o =>
    cases o with
    | none => exact hk
    | some r =>
      obtain ⟨hh, hz⟩ := got_some hg
      obtain ⟨b, hi⟩ := hit_is hh
      have hl := Rm.lo_hi hi.low hi.top hz
      simp only [hi.bg, Nat.add_sub_cancel]
      exact Sp.put_ok hk hi.eq (r.laid_len a d (by omega)) (Rm.laid_ok (hk.each r hi.mem) a d)
theorem prS_ok {sp : Sp} (hk : sp.ok) (a n : Nat) (p : Int) : (prS sp a n p).ok := by
  unfold prS
  split
  · exact hk
  · split
    · exact hk
    · rename_i hp
      cases hg : got sp.rooms a n none with
      | error e => exact hk
      | ok o =>
        cases o with
        | none => exact hk
        | some r =>
          obtain ⟨hh, hz⟩ := got_some hg
          obtain ⟨b, hi⟩ := hit_is hh
          have hl := Rm.lo_hi hi.low hi.top hz
          simp only [hi.bg, Nat.add_sub_cancel]
          exact Sp.put_ok hk hi.eq (r.with_len a n _ (by omega)) (Rm.with_ok (hk.each r hi.mem) a n _ (fun s hs => ⟨by show 0 ≤ p; omega, by show p ≤ 7; omega, hs.len⟩))
theorem mpS_ok {sp : Sp} (hk : sp.ok) (a n : Nat) (p : Int) (d : List UInt8) : (mpS sp a n p d).ok := by
  unfold mpS
  split
  · exact hk
  · split
    · exact hk
    · rename_i hn
      split
      · exact hk
      · rename_i hp
        cases hh : hit sp.rooms a n with
        | none => exact hk
        | some r =>
          obtain ⟨b, hi⟩ := hit_is hh
          have hl := Rm.lo_hi hi.low hi.top (show n ≠ 0 by omega)
          simp only [hi.bg, Nat.add_sub_cancel]
          split
          · exact hk
          · exact Sp.put_ok hk hi.eq (r.mapped_len a n p d (by omega)) (Rm.mapped_ok (hk.each r hi.mem) a n p d (by omega))
theorem doS_ok {sp : Sp} (hk : sp.ok) (x : OpN) (rs : List Nat) (hint blk : Nat) : (doS sp x rs hint blk).ok := by
  unfold doS
  split
  · exact rvS_ok hk _ _ _
  · exact rvS_ok hk _ _ _
  · exact mpS_ok hk _ _ _ _
  · exact mpS_ok hk _ _ _ _
  · exact prS_ok hk _ _ _
  · exact rlS_ok hk _
  · exact hk
  · exact wrS_ok hk _ _
  · exact wrS_ok hk _ _
  · exact hk
  · exact wrS_ok hk _ _
end Go.Proofs.Ytdecbnmibjcnaaa
