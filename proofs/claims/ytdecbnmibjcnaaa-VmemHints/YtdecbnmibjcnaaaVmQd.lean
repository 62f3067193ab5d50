
/-
  A call of any kind that stays in one room, told by that room's pages; two spaces side by side.
-/
import Derived.Test.YtdecbnmibjcnaaaVmQc
set_option linter.unusedVariables false
namespace Go.Proofs.Ytdecbnmibjcnaaa
open Go.RowKit Go.PlainAid
/-- What a call answers and does, by the pages of its room. -/
def opE (q : List Sh) (x : OpN) : Nat := match kindN x.kind with
  | 2 | 3 => mpEP q x.off x.size x.prot x.data
  | 4 => prEP q x.off x.size x.prot
  | 6 => errP q x.off x.size (some 4)
  | 7 | 8 => errP q x.off x.data.length (some 2)
  | 9 => errP q x.off 8 (some 4)
  | _ => errP q x.off (leN 8 x.hint).length (some 2)
def opB (q : List Sh) (x : OpN) : List UInt8 := match kindN x.kind with
  | 6 => rdP q x.off x.size
  | 9 => leN 8 (rdN (rdP q x.off 8))
  | _ => []
def opQ (q : List Sh) (x : OpN) : List Sh := match kindN x.kind with
  | 2 | 3 => mpP q x.off x.size x.prot x.data
  | 4 => prP q x.off x.size x.prot
  | 6 => q
  | 7 | 8 => wrP q x.off x.data
  | 9 => q
  | _ => wrP q x.off (leN 8 x.hint)
/-- A call stays in a room of so many pages. -/
structure Stays (x : OpN) (n : Nat) : Prop where
  k1 : 2 ≤ kindN x.kind
  k5 : kindN x.kind ≠ 5
  room : 0 ≤ x.room
  size : x.off + x.size ≤ n * 256
  more : 6 < kindN x.kind → x.off + x.data.length + 8 ≤ n * 256
theorem Made.set_self {sp : Sp} {xs : List Nat} {ps : List (List Sh)} (h : Made sp xs ps) {j : Nat} (h2 : j < ps.length) : Made sp xs (ps.set j ps[j]) := by
  rw [List.set_getElem_self]
  exact h
theorem one_at {sp : Sp} (hk : sp.ok) {xs : List Nat} {ps : List (List Sh)} (h : Made sp xs ps) (x : OpN) (hne : xs ≠ []) (j : Nat) (hj : x.room.toNat % xs.length = j) (h1 : j < xs.length) (h2 : j < ps.length) (hs : Stays x ps[j].length) (hint blk : Nat) :
    (doO sp x xs hint).e = opE ps[j] x ∧ (doO sp x xs hint).b = opB ps[j] x ∧ (doO sp x xs hint).room = false ∧ Made (doS sp x xs hint blk) xs (ps.set j (opQ ps[j] x)) := by
  obtain ⟨b, r, hb, e1, e2⟩ := h.room j h1 h2
  have hr := hk.each r (List.mem_of_getElem? hb)
  have htop := hr.top
  have hs1 := hs.size
  have hs2 := hs.more
  have hk1 := hs.k1
  have hk5 := hs.k5
  have hrm := hs.room
  unfold Rm.fin Rm.size at htop
  have hpl : placeN x xs = r.pos + x.off := by
    unfold placeN
    rw [if_neg (by rintro (e | e); omega; exact hne e), hj, List.getD, List.getElem?_eq_getElem h1, e1]
    show (xs[j] + x.off) % _ = _
    rw [e2] at htop
    rw [← e1]
    omega
  have hl8 : (leN 8 x.hint).length = 8 := leN_length 8 x.hint
  have hput := fun q => h.put hb h1 h2 e1 e2 q
  rw [← e2] at hs1 hs2 ⊢
  have hself : Made sp xs (ps.set j r.pages) := by rw [e2]; exact h.set_self h2
  unfold doO doS opE opB opQ
  rw [hpl]
  generalize kindN x.kind = k at *
  match k with
  | 0 | 1 => omega
  | 2 | 3 =>
    obtain ⟨m1, m2⟩ := mp_at hk hb x.off x.size x.prot x.data hs1
    exact ⟨m1, rfl, rfl, by show Made (mpS _ _ _ _ _) _ _; rw [m2]; exact hput _⟩
  | 4 =>
    obtain ⟨m1, m2⟩ := pr_at hk hb x.off x.size x.prot hs1
    exact ⟨m1, rfl, rfl, by show Made (prS _ _ _ _) _ _; rw [m2]; exact hput _⟩
  | 5 => exact absurd rfl hk5
  | 6 =>
    obtain ⟨m1, m2⟩ := rd_at hk hb x.off x.size hs1
    exact ⟨m1, m2, rfl, hself⟩
  | 7 | 8 =>
    obtain ⟨m1, m2⟩ := wr_at hk hb x.off x.data (by have := hs2 (by omega); omega)
    exact ⟨m1, rfl, rfl, by show Made (wrS _ _ _) _ _; rw [m2]; exact hput _⟩
  | 9 =>
    obtain ⟨m1, m2⟩ := rd_at hk hb x.off 8 (by have := hs2 (by omega); omega)
    exact ⟨m1, by show leN 8 (ldN _ _) = _; unfold ldN; rw [m2]; rfl, rfl, hself⟩
  | k + 10 =>
    obtain ⟨m1, m2⟩ := wr_at hk hb x.off (leN 8 x.hint) (by have := hs2 (by omega); omega)
    exact ⟨m1, rfl, rfl, by show Made (wrS _ _ _) _ _; rw [m2]; exact hput _⟩
theorem laidP_len (q : List Sh) (off : Nat) (d : List UInt8) (h : off + d.length ≤ q.length * 256) (hz : d.length ≠ 0) : (laidP q off d).length = q.length := by
  unfold laidP cutP
  simp only [List.length_append, layL_len, List.length_take, List.length_drop]
  omega
theorem opQ_len (q : List Sh) (x : OpN) (hs : Stays x q.length) : (opQ q x).length = q.length := by
  have hs1 := hs.size
  have hs2 := hs.more
  have hk1 := hs.k1
  have hk5 := hs.k5
  have hl8 : (leN 8 x.hint).length = 8 := leN_length 8 x.hint
  have hw : ∀ d : List UInt8, x.off + d.length ≤ q.length * 256 → (wrP q x.off d).length = q.length := by
    intro d hd
    unfold wrP
    by_cases hz : d.length = 0
    · rw [if_pos hz]
    · rw [if_neg hz]
      by_cases he : errP q x.off d.length (some 2) = 0
      · rw [if_pos he]; exact laidP_len q x.off d hd hz
      · rw [if_neg he]
  have hm : (mpP q x.off x.size x.prot x.data).length = q.length := by
    unfold mpP
    by_cases h1 : x.off % 256 ≠ 0
    · rw [if_pos h1]
    · rw [if_neg h1]
      by_cases h2 : x.size = 0 ∨ x.size < x.data.length
      · rw [if_pos h2]
      · rw [if_neg h2]
        by_cases h3 : ¬ (0 ≤ x.prot ∧ x.prot ≤ 7)
        · rw [if_pos h3]
        · rw [if_neg h3]
          by_cases h4 : (cutP q x.off x.size).any Sh.there = true
          · rw [if_pos h4]
          · rw [if_neg h4]
            unfold mappedP cutP
            simp only [List.length_append, layL_len, List.length_map, List.length_take, List.length_drop]
            omega
  have hp : (prP q x.off x.size x.prot).length = q.length := by
    unfold prP
    by_cases h1 : x.off % 256 ≠ 0
    · rw [if_pos h1]
    · rw [if_neg h1]
      by_cases h3 : ¬ (0 ≤ x.prot ∧ x.prot ≤ 7)
      · rw [if_pos h3]
      · rw [if_neg h3]
        by_cases h2 : x.size = 0
        · rw [if_pos h2]
        · rw [if_neg h2]
          by_cases h4 : errP q x.off x.size none = 0
          · rw [if_pos h4]
            unfold withP cutP
            simp only [List.length_append, List.length_map, List.length_take, List.length_drop]
            omega
          · rw [if_neg h4]
  unfold opQ
  generalize kindN x.kind = k at *
  match k with
  | 0 | 1 => omega
  | 2 | 3 => exact hm
  | 4 => exact hp
  | 5 => exact absurd rfl hk5
  | 6 => rfl
  | 7 | 8 => exact hw _ (by have := hs2 (by omega); omega)
  | 9 => rfl
  | k + 10 => exact hw _ (by have := hs2 (by omega); omega)
/-- How many pages are there. -/
theorem pgsL_cnt (p k : Nat) (l : List Sh) : (pgsL p k l).length = l.countP Sh.there := by
  induction l generalizing k with
  | nil => rfl
  | cons s l ih =>
    simp only [pgsL, List.length_append, ih, List.countP_cons]
    cases s.there <;> simp <;> omega
theorem pgsOf_cnt (l : List Rm) : (pgsOf l).length = ((l.map fun r => (r.pos, r.pages)).map fun x => x.2.countP Sh.there).sum := by
  induction l with
  | nil => rfl
  | cons r l ih =>
    have e : pgsOf (r :: l) = pgsL r.pos 0 r.pages ++ pgsOf l := rfl
    rw [e, List.length_append, ih, pgsL_cnt]
    simp
theorem zip_cnt {xs : List Nat} {ps : List (List Sh)} (h : xs.length = ps.length) : (xs.zip ps).map (fun x => x.2.countP Sh.there) = ps.map (List.countP Sh.there) := by
  induction xs generalizing ps with
  | nil => cases ps with
    | nil => rfl
    | cons p ps => simp at h
  | cons x xs ih => cases ps with
    | nil => simp at h
    | cons p ps => simp only [List.zip_cons_cons, List.map_cons, ih (by simpa using h)]
theorem Made.cnt {sp : Sp} {xs : List Nat} {ps : List (List Sh)} (h : Made sp xs ps) : (pgsOf sp.rooms).length = (ps.map (List.countP Sh.there)).sum := by
  rw [pgsOf_cnt, (h.perm.map (fun x => x.2.countP Sh.there)).sum_nat, zip_cnt h.len]
end Go.Proofs.Ytdecbnmibjcnaaa
