
/-
  Calls of one kind each, told by one room's pages; a new room.
-/
import Derived.Test.YtdecbnmibjcnaaaVmQb
set_option linter.unusedVariables false
namespace Go.Proofs.Ytdecbnmibjcnaaa
open Go.RowKit Go.PlainAid
/-- Guarding, by the room's pages. -/
def withP (q : List Sh) (off n : Nat) (f : Sh → Sh) : List Sh := q.take (off / 256) ++ (cutP q off n).map f ++ q.drop ((off + n + 255) / 256)
theorem with_is (r : Rm) (off n : Nat) (f : Sh → Sh) : r.with (r.pos + off) n f = withP r.pages off n f := by
  unfold Rm.with withP
  rw [cut_is]
  unfold Rm.lo Rm.hi
  rw [Nat.add_sub_cancel_left]
def prEP (q : List Sh) (off n : Nat) (p : Int) : Nat := if off % 256 ≠ 0 then 11 else if ¬ (0 ≤ p ∧ p ≤ 7) then 54 else errP q off n none
def prP (q : List Sh) (off n : Nat) (p : Int) : List Sh := if off % 256 ≠ 0 then q else if ¬ (0 ≤ p ∧ p ≤ 7) then q else if n = 0 then q else if errP q off n none = 0 then withP q off n (fun s => { s with prot := p }) else q
theorem pr_at {sp : Sp} (hk : sp.ok) {b : Nat} {r : Rm} (hb : sp.rooms[b]? = some r) (off n : Nat) (p : Int) (hn : off + n ≤ r.pages.length * 256) :
    prE sp (r.pos + off) n p = prEP r.pages off n p ∧ prS sp (r.pos + off) n p = sp.put b r (prP r.pages off n p) := by
  have hp := (hk.each r (List.mem_of_getElem? hb)).page
  unfold prE prS prEP prP
  rw [show (r.pos + off) % 256 = off % 256 by omega]
  by_cases h1 : off % 256 ≠ 0
  · simp only [if_pos h1]; exact ⟨trivial, (put_same hb).symm⟩
  · simp only [if_neg h1]
    by_cases h2 : ¬ (0 ≤ p ∧ p ≤ 7)
    · simp only [if_pos h2]; exact ⟨trivial, (put_same hb).symm⟩
    · simp only [if_neg h2]
      by_cases hz : n = 0
      · rw [hz, got_zero hk hb off (by omega)]
        exact ⟨rfl, (put_same hb).symm⟩
      · rw [got_in hk hb off n hz hn, if_neg hz]
        by_cases he : errP r.pages off n none = 0
        · simp only [if_pos he, begun_in hk hb off (by omega), Nat.add_sub_cancel, with_is]
          exact ⟨he.symm, trivial⟩
        · simp only [if_neg he]
          exact ⟨trivial, (put_same hb).symm⟩
def mappedP (q : List Sh) (off n : Nat) (p : Int) (d : List UInt8) : List Sh := q.take (off / 256) ++ layL ((cutP q off n).map (fun _ => fresh p)) 0 d ++ q.drop ((off + n + 255) / 256)
theorem mapped_is (r : Rm) (off n : Nat) (p : Int) (d : List UInt8) : r.mapped (r.pos + off) n p d = mappedP r.pages off n p d := by
  unfold Rm.mapped mappedP
  rw [cut_is]
  unfold Rm.lo Rm.hi
  rw [Nat.add_sub_cancel_left]
def mpEP (q : List Sh) (off n : Nat) (p : Int) (d : List UInt8) : Nat := if off % 256 ≠ 0 then 11 else if n = 0 ∨ n < d.length then 51 else if ¬ (0 ≤ p ∧ p ≤ 7) then 54 else if (cutP q off n).any Sh.there then 53 else 0
def mpP (q : List Sh) (off n : Nat) (p : Int) (d : List UInt8) : List Sh := if off % 256 ≠ 0 then q else if n = 0 ∨ n < d.length then q else if ¬ (0 ≤ p ∧ p ≤ 7) then q else if (cutP q off n).any Sh.there then q else mappedP q off n p d
theorem mp_at {sp : Sp} (hk : sp.ok) {b : Nat} {r : Rm} (hb : sp.rooms[b]? = some r) (off n : Nat) (p : Int) (d : List UInt8) (hn : off + n ≤ r.pages.length * 256) :
    mpE sp (r.pos + off) n p d = mpEP r.pages off n p d ∧ mpS sp (r.pos + off) n p d = sp.put b r (mpP r.pages off n p d) := by
  have hp := (hk.each r (List.mem_of_getElem? hb)).page
  unfold mpE mpS mpEP mpP
  rw [show (r.pos + off) % 256 = off % 256 by omega]
  by_cases h1 : off % 256 ≠ 0
  · simp only [if_pos h1]; exact ⟨trivial, (put_same hb).symm⟩
  · simp only [if_neg h1]
    by_cases h3 : n = 0 ∨ n < d.length
    · simp only [if_pos h3]; exact ⟨trivial, (put_same hb).symm⟩
    · simp only [if_neg h3]
      by_cases h2 : ¬ (0 ≤ p ∧ p ≤ 7)
      · simp only [if_pos h2]; exact ⟨trivial, (put_same hb).symm⟩
      · simp only [if_neg h2]
        rw [hit_in hk hb off n (by omega) hn]
        simp only [cut_is]
        by_cases he : (cutP r.pages off n).any Sh.there = true
        · simp only [if_pos he]; exact ⟨trivial, (put_same hb).symm⟩
        · simp only [if_neg he, begun_in hk hb off (by omega), Nat.add_sub_cancel, mapped_is]
          exact ⟨trivial, trivial⟩
/-- A new room is the last one made. -/
theorem Made.rv {sp : Sp} {xs : List Nat} {ps : List (List Sh)} (h : Made sp xs ps) (hint n blk : Nat) (he : rvE sp n = 0) : Made (rvS sp hint n blk) (xs ++ [rvAt sp hint n]) (ps ++ [List.replicate n blank]) := by
  refine ⟨by rw [List.length_append, List.length_append, h.len]; rfl, ?_⟩
  unfold rvS
  rw [if_pos he]
  have e : (xs ++ [rvAt sp hint n]).zip (ps ++ [List.replicate n blank]) = xs.zip ps ++ [(rvAt sp hint n, List.replicate n blank)] := by rw [List.zip_append h.len]; rfl
  rw [e]
  show ((sp.rooms.take _ ++ rvR sp hint n blk :: sp.rooms.drop _).map _).Perm _
  rw [List.map_append, List.map_cons]
  refine (perm_mid _ _ _).trans ?_
  rw [← List.map_append, List.take_append_drop]
  exact ((h.perm.cons _).trans (List.perm_append_singleton _ _).symm)
theorem rvE_same {sp sp' : Sp} {xs ys : List Nat} {ps : List (List Sh)} (h : Made sp xs ps) (h' : Made sp' ys ps) (hb : sp.budget = sp'.budget) (n : Nat) : rvE sp n = rvE sp' n := by
  unfold rvE
  rw [h.used, h'.used, hb]
theorem Made.none (b : Nat) : Made ⟨b, []⟩ [] [] := ⟨rfl, List.Perm.nil⟩
end Go.Proofs.Ytdecbnmibjcnaaa
