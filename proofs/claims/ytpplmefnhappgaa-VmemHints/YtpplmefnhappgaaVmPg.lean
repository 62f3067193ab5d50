/-
  Two rows of pages side by side: the law's own pages keeps its contract.
-/
import Derived.Test.YtpplmefnhappgaaVmPe
set_option linter.unusedVariables false
namespace Go.Proofs.Ytpplmefnhappgaa
open Go.RowKit Go.PlainAid
/-- v is a slice of pages that reads as l. -/
def PgRow (w : World) (v : Value) (l : List Pg) : Prop :=
  ∃ s cap, v = .slice s l.length cap ∧ l.length ≤ cap ∧ cap ≤ maxLen ∧ (∀ p ∈ l, p.data.length = 256) ∧ (l = [] ∨ ∃ g, s = some ⟨g, 0, none⟩ ∧ g < w.heap.size ∧ ∀ i (hi : i < l.length) k v, l[i].cells[k]? = some v → w.cell? ⟨g, i * 258 + k, none⟩ = some v)
theorem OwnP.row {w : World} {B : Nat} {v : Value} {l : List Pg} (h : OwnP w B v l) (hd : ∀ p ∈ l, p.data.length = 256) : PgRow w v l := by
  have hc := fun g hg => World.ownsRow.cells h (g := g) hg
  rcases h.2 with ⟨rfl, hn⟩ | ⟨g, cap, cur, rfl, hB, hg, h1, h2, h3, h4⟩
  · exact ⟨none, 0, by rw [hn], by omega, by simp, hd, .inl (List.eq_nil_of_length_eq_zero hn)⟩
  · refine ⟨_, cap, rfl, h1, h2, hd, .inr ⟨g, rfl, (Array.getElem?_eq_some_iff.1 hg).1, fun i hi k u hu => ?_⟩⟩
    have key : ∀ (l : List Pg) (_ : ∀ p ∈ l, p.data.length = 256) (i : Nat) (hi : i < l.length) (k : Nat), k < 258 → (flatP l)[i * 258 + k]? = l[i].cells[k]? := by
      intro l
      induction l with
      | nil => intro _ i hi; simp at hi
      | cons r l ih =>
        intro hd i hi k hk
        have hl := r.cells_len (hd r List.mem_cons_self)
        have e : flatP (r :: l) = r.cells ++ flatP l := rfl
        cases i with
        | zero => rw [e, Nat.zero_mul, Nat.zero_add, List.getElem?_append_left (by omega)]; rfl
        | succ i =>
          rw [e, List.getElem?_append_right (by omega), hl, show (i + 1) * 258 + k - 258 = i * 258 + k by omega]
          exact ih (fun p hp => hd p (List.mem_cons_of_mem _ hp)) i (by simpa using hi) k hk
    have hk : k < 258 := by rw [← (l[i]).cells_len (hd _ (List.getElem_mem hi))]; exact (List.getElem?_eq_some_iff.1 hu).1
    have a1 := hc g rfl (i * 258 + k) u (by rw [key l hd i hi k hk]; exact hu)
    rwa [add_lit] at a1
theorem PgRow.stay {w w' : World} {v : Value} {l : List Pg} (h : PgRow w v l) (hb : Below w.heap.size w w') : PgRow w' v l := by
  obtain ⟨s, cap, rfl, h1, h2, h3, h4⟩ := h
  refine ⟨s, cap, rfl, h1, h2, h3, ?_⟩
  rcases h4 with h4 | ⟨g, rfl, hg, hc⟩
  · exact .inl h4
  · exact .inr ⟨g, rfl, Nat.lt_of_lt_of_le hg hb.size, fun i hi k u hu => by rw [hb.cell (p := ⟨g, i * 258 + k, none⟩) hg]; exact hc i hi k u hu⟩
/-- Two pages are the same but for so many bytes from a place on. -/
structure PgSame (a b : Pg) (p n : Nat) : Prop where
  pos : a.pos = b.pos
  prot : a.prot = b.prot
  data : ∀ k (h1 : k < a.data.length) (h2 : k < b.data.length), a.data[k] = b.data[k] ∨ (p ≤ a.pos + k ∧ a.pos + k - p < n)
theorem PgSame.refl (a : Pg) (p n : Nat) : PgSame a a p n := ⟨rfl, rfl, fun _ _ _ => .inl rfl⟩
theorem Pg.cell2 (a : Pg) (k : Nat) (h : k < a.data.length) : a.cells[2 + k]? = some (.int .u8 (a.data[k].toNat : Int)) := by
  unfold Pg.cells dv
  rw [show 2 + k = k + 1 + 1 by omega]
  simp [List.getElem?_eq_getElem h]
end Go.Proofs.Ytpplmefnhappgaa
