
/-
  What is told of regions and of pages.
-/
import Derived.Test.YtdecbnmibjcnaaaVmPd
set_option linter.unusedVariables false
namespace Go.Proofs.Ytdecbnmibjcnaaa
open Go.RowKit Go.PlainAid
theorem OwnP.cells {w : World} {B : Nat} {s : Option Addr} {n cap : Nat} {l : List Pg} (h : OwnP w B (.slice s n cap) l) (hne : 0 < l.length) (hd : ∀ p ∈ l, p.data.length = 256) : ∃ g, s = some ⟨g, 0, none⟩ ∧ n = l.length ∧ B ≤ g ∧ g < w.heap.size ∧ l.length ≤ cap ∧ cap ≤ maxLen ∧ ∀ j (hj : j < l.length), w.cell? ⟨g, j * 258, none⟩ = some (.int .u64 (l[j].pos : Nat)) := by
  have hc := fun g hg => World.ownsRow.cells h (g := g) hg
  rcases h.2 with ⟨_, hn⟩ | ⟨g, cap', cur, e, hB, hg, h1, h2, h3, h4⟩
  · omega
  · injection e with e1 e2 e3
    subst e1 e2 e3
    refine ⟨g, rfl, rfl, hB, (Array.getElem?_eq_some_iff.1 hg).1, h1, h2, fun j hj => ?_⟩
    have key : ∀ (l : List Pg) (_ : ∀ p ∈ l, p.data.length = 256) (j : Nat) (hj : j < l.length), (flatP l)[j * 258]? = some (.int .u64 (l[j].pos : Nat)) := by
      intro l
      induction l with
      | nil => intro _ j hj; simp at hj
      | cons r l ih =>
        intro hd j hj
        have hl := r.cells_len (hd r List.mem_cons_self)
        have e : flatP (r :: l) = r.cells ++ flatP l := rfl
        cases j with
        | zero => rw [e, Nat.zero_mul, List.getElem?_append_left (by omega)]; rfl
        | succ j =>
          rw [e, List.getElem?_append_right (by omega), hl, show (j + 1) * 258 - 258 = j * 258 by omega]
          exact ih (fun p hp => hd p (List.mem_cons_of_mem _ hp)) j (by simpa using hj)
    have a1 := hc g rfl _ _ (key l hd j hj)
    rwa [add_lit] at a1
/-- What is known of the pages that are told. -/
theorem pgsL_mem {p k : Nat} {l : List Sh} {x : Pg} (h : x ∈ pgsL p k l) : ∃ i, k ≤ i ∧ i < k + l.length ∧ x.pos = p + i * 256 ∧ ∃ s ∈ l, x.data = s.data ∧ x.prot = s.prot := by
  induction l generalizing k with
  | nil => simp [pgsL] at h
  | cons s l ih =>
    unfold pgsL at h
    rcases List.mem_append.1 h with h | h
    · split at h
      · simp at h
        subst h
        exact ⟨k, Nat.le_refl _, by simp, rfl, s, List.mem_cons_self, rfl, rfl⟩
      · simp at h
    · obtain ⟨i, h1, h2, h3, s', hs, h4⟩ := ih h
      exact ⟨i, by omega, by rw [List.length_cons]; omega, h3, s', List.mem_cons_of_mem _ hs, h4⟩
theorem pgsL_sorted (p k : Nat) (l : List Sh) : (pgsL p k l).Pairwise (fun a b => a.pos < b.pos) := by
  induction l generalizing k with
  | nil => exact List.Pairwise.nil
  | cons s l ih =>
    unfold pgsL
    refine List.pairwise_append.2 ⟨?_, ih _, fun a ha b hb => ?_⟩
    · split <;> simp
    · obtain ⟨i, h1, _, h3, _⟩ := pgsL_mem hb
      split at ha
      · simp at ha
        subst ha
        rw [h3]
        show p + k * 256 < p + i * 256
        omega
      · simp at ha
theorem pgsOf_mem {l : List Rm} {x : Pg} (h : x ∈ pgsOf l) : ∃ r ∈ l, r.pos ≤ x.pos ∧ x.pos < r.fin ∧ (x.pos - r.pos) % 256 = 0 ∧ ∃ s ∈ r.pages, x.data = s.data := by
  obtain ⟨r, hr, hx⟩ := List.mem_flatMap.1 h
  obtain ⟨i, _, h2, h3, s, hs, h4, _⟩ := pgsL_mem hx
  refine ⟨r, hr, by omega, ?_, ?_, s, hs, h4⟩
  · unfold Rm.fin Rm.size; omega
  · rw [h3]; omega
theorem pgsOf_sorted {l : List Rm} (hs : l.Pairwise (fun a b => a.fin ≤ b.pos)) : (pgsOf l).Pairwise (fun a b => a.pos < b.pos) := by
  induction l with
  | nil => exact List.Pairwise.nil
  | cons r l ih =>
    obtain ⟨h1, h2⟩ := List.pairwise_cons.1 hs
    have e : pgsOf (r :: l) = pgsL r.pos 0 r.pages ++ pgsOf l := rfl
    rw [e]
    refine List.pairwise_append.2 ⟨pgsL_sorted _ _ _, ih h2, fun a ha b hb => ?_⟩
    obtain ⟨i, _, hi, h3, _⟩ := pgsL_mem ha
    obtain ⟨r', hr', h4, _⟩ := pgsOf_mem hb
    have := h1 r' hr'
    unfold Rm.fin Rm.size at this
    omega
end Go.Proofs.Ytdecbnmibjcnaaa
