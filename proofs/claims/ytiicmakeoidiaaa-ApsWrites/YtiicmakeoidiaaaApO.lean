
/-
  Layer 14 (aps), plain: groups that are written are read as they were; what the document's way of writing comes to is the program's.
-/
import Derived.Test.YtiicmakeoidiaaaApN
set_option linter.unusedVariables false
namespace Go.Proofs.Ytiicmakeoidiaaa
open Go.RowKit Go.PlainAid
theorem relN_left (rela : Bool) (f st inf : Int) : ∀ (n : Nat) (s : Ts), relN rela f st inf (n + 1) s = relN rela f st inf n (relT rela f st inf s)
  | 0, s => rfl
  | n + 1, s => by
    have := relN_left rela f st inf n s
    rw [relN, this]; rfl
theorem good_add {rela : Bool} {r : Rl} (h : rlGood rela r = true) : rela = false → r.add = 0 := by
  intro e
  unfold rlGood at h
  simp [e] at h
  exact h.2
theorem rels_back (rela : Bool) (st inf : Int) : ∀ (l : List Rl) (pl : Nat) (ad : Int) (N : List Int) (out : List Rl), (∀ r ∈ l, r.ok ∧ rlGood rela r = true ∧ infoR r = inf) → pl < 18446744073709551616 → i64r ad → (rela = false → ad = 0) →
    relN rela (flagN rela) st inf l.length ⟨rowE rela pl ad l ++ N, false, sg pl, ad, out⟩ = ⟨N, false, sg (lastP pl l), lastA ad l, out ++ l⟩
  | [], pl, ad, N, out, _, _, _, _ => by simp [rowE, relN, lastP, lastA]
  | r :: l, pl, ad, N, out, h, hp, had, h0 => by
    have hr := h r (by simp)
    have ih := rels_back rela st inf l r.pl r.add N (out ++ [r]) (fun x hx => h x (by simp [hx])) (by have := hr.1.pl; omega) ⟨hr.1.lo, hr.1.hi⟩ (good_add hr.2.1)
    have e := rel_back rela pl ad r hr.1 hr.2.1 hp had h0 st (rowE rela r.pl r.add l ++ N) out
    rw [hr.2.2] at e
    rw [List.length_cons, relN_left, rowE, List.append_assoc, e, ih, lastP, lastA, List.append_assoc]; rfl
theorem same_info {a b : Rl} (h : sameR a b = true) : infoR a = infoR b := by
  unfold sameR at h
  simp at h
  unfold infoR; rw [h.1, h.2]
theorem last_ok (rela : Bool) : ∀ (l : List Rl) (pl : Nat) (ad : Int), (∀ r ∈ l, r.ok ∧ rlGood rela r = true) → pl < 18446744073709551616 → i64r ad → (rela = false → ad = 0) → lastP pl l < 18446744073709551616 ∧ i64r (lastA ad l) ∧ (rela = false → lastA ad l = 0)
  | [], pl, ad, _, h1, h2, h3 => ⟨h1, h2, h3⟩
  | r :: l, pl, ad, h, h1, h2, h3 => by
    have hr := h r (by simp)
    exact last_ok rela l r.pl r.add (fun x hx => h x (by simp [hx])) (by have := hr.1.pl; omega) ⟨hr.1.lo, hr.1.hi⟩ (good_add hr.2)
theorem grp_hd (rela : Bool) (m : Nat) (r : Rl) (X : List Int) (P ad : Int) (out : List Rl) : (Ts.mk (headN rela m r ++ X) false P ad out).hd = (m : Int) ∧ (Ts.mk (headN rela m r ++ X) false P ad out).tl.hd = flagN rela ∧ (Ts.mk (headN rela m r ++ X) false P ad out).tl.tl = ⟨infoR r :: X, false, P, ad, out⟩ := by
  unfold headN
  generalize infoR r = J
  generalize flagN rela = F
  exact ⟨rfl, rfl, rfl⟩
theorem grp_in (rela : Bool) (J : Int) (X : List Int) (P ad : Int) (out : List Rl) (n : Nat) (h0 : rela = false → ad = 0) : grpIn rela (flagN rela) n ⟨J :: X, false, P, ad, out⟩ = relN rela (flagN rela) 0 J n ⟨X, false, P, ad, out⟩ := by
  unfold grpIn
  cases rela with
  | true =>
    have f2 : fb (flagN true) 2 = false := by decide
    have f1 : fb (flagN true) 1 = true := by decide
    have f8 : fb (flagN true) 8 = true := by decide
    have f4 : fb (flagN true) 4 = false := by decide
    unfold grpC
    rw [f1, f2, f8, f4]
    simp only [tkN, tkS, tkA, Ts.tl, Ts.hd, if_true, Bool.false_eq_true, if_false, List.headD_cons, List.tail_cons, List.isEmpty_cons, Bool.or_false]
  | false =>
    have f2 : fb (flagN false) 2 = false := by decide
    have f1 : fb (flagN false) 1 = true := by decide
    have f8 : fb (flagN false) 8 = false := by decide
    have e0 := h0 rfl
    subst e0
    unfold grpC
    rw [f1, f2, f8]
    simp only [tkN, tkS, Ts.tl, Ts.hd, Ts.setAdd, if_true, Bool.false_eq_true, if_false, List.headD_cons, List.tail_cons, List.isEmpty_cons, Bool.or_false]
/-- A whole group is read. -/
theorem grp_back (rela : Bool) (r : Rl) (l : List Rl) (m : Nat) (hme : alikeN r (r :: l) = m) (pl : Nat) (ad : Int) (N : List Int) (out : List Rl) (h : ∀ x ∈ r :: l, x.ok ∧ rlGood rela x = true) (hp : pl < 18446744073709551616) (had : i64r ad) (h0 : rela = false → ad = 0) :
    grpIn rela (flagN rela) m ⟨infoR r :: (rowE rela pl ad ((r :: l).take m) ++ N), false, sg pl, ad, out⟩ = ⟨N, false, sg (lastP pl ((r :: l).take m)), lastA ad ((r :: l).take m), out ++ (r :: l).take m⟩ := by
  have hm : m ≤ (r :: l).length := by rw [← hme]; exact alike_le r (r :: l)
  have hall : ∀ x ∈ (r :: l).take m, x.ok ∧ rlGood rela x = true ∧ infoR x = infoR r := by
    intro x hx
    obtain ⟨i, hi, rfl⟩ := List.getElem_of_mem hx
    have hi2 : i < m := by rw [List.length_take] at hi; omega
    rw [List.getElem_take]
    have hx2 := h _ (List.getElem_mem (show i < (r :: l).length by omega))
    exact ⟨hx2.1, hx2.2, same_info (alike_same r (r :: l) i (by omega) (by rw [hme]; exact hi2))⟩
  have key := rels_back rela 0 (infoR r) ((r :: l).take m) pl ad N out hall hp had h0
  rw [List.length_take_of_le hm] at key
  rw [grp_in rela _ _ _ _ _ _ h0, key]
theorem run_back (rela : Bool) : ∀ (j k : Nat) (l : List Rl) (pl : Nat) (ad : Int) (out : List Rl) (many : Int), l.length ≤ j → many = (out.length : Int) + (l.length : Int) → (l.length : Int) < (k : Int) → (∀ x ∈ l, x.ok ∧ rlGood rela x = true) → pl < 18446744073709551616 → i64r ad → (rela = false → ad = 0) →
    ∃ p a, runT rela many k ⟨encG rela j pl ad l, false, sg pl, ad, out⟩ = some ⟨[], false, p, a, out ++ l⟩
  | j, k, [], pl, ad, out, many, _, hm, _, _, _, _, _ => by
    have e : encG rela j pl ad [] = [] := by cases j <;> rfl
    rw [e, run_end _ _ _ _ (by simp at hm; simp [hm])]
    exact ⟨sg pl, ad, by simp⟩
  | 0, k, r :: l, pl, ad, out, many, h, _, _, _, _, _, _ => by simp at h
  | j + 1, 0, r :: l, pl, ad, out, many, _, _, hk, _, _, _, _ => by simp at hk; omega
  | j + 1, k + 1, r :: l, pl, ad, out, many, hj, hm, hk, h, hp, had, h0 => by
    have hal := alike_le r (r :: l)
    have hap := alike_pos r l
    simp only [encG]
    generalize hM : alikeN r (r :: l) = M at *
    have g3 := grp_back rela r l M hM pl ad (encG rela j (lastP pl ((r :: l).take M)) (lastA ad ((r :: l).take M)) ((r :: l).drop M)) out h hp had h0
    obtain ⟨g1, g2, g4⟩ := grp_hd rela M r (rowE rela pl ad ((r :: l).take M) ++ encG rela j (lastP pl ((r :: l).take M)) (lastA ad ((r :: l).take M)) ((r :: l).drop M)) (sg pl) ad out
    have hlo := last_ok rela ((r :: l).take M) pl ad (fun x hx => h x (List.mem_of_mem_take hx)) hp had h0
    have hlen : ((r :: l).drop M).length = (r :: l).length - M := List.length_drop
    have hlt : ((r :: l).take M).length = M := List.length_take_of_le hal
    simp only [List.length_cons] at hal hj hm hk hlen
    rw [run_next rela many k _ (by show (out.length : Int) < many; omega) (by
      show ¬ grpNo rela (many - (out.length : Int)) _ _
      rw [g1, g2]
      rintro (e | e | e | e | ⟨e, e2⟩)
      · omega
      · omega
      · unfold flagN at e; split at e <;> omega
      · unfold flagN at e; split at e <;> omega
      · rw [e2] at e; revert e; decide)]
    rw [g4, g2, g1, Int.toNat_natCast, g3]
    have ih := run_back rela j k ((r :: l).drop M) (lastP pl ((r :: l).take M)) (lastA ad ((r :: l).take M)) (out ++ (r :: l).take M) many (by omega) (by rw [List.length_append, hlt, hlen]; omega) (by omega) (fun x hx => h x (List.mem_of_mem_drop hx)) hlo.1 hlo.2.1 hlo.2.2
    obtain ⟨p, a, e⟩ := ih
    exact ⟨p, a, by rw [e, List.append_assoc, List.take_append_drop]⟩
theorem aps_back {l : List Rl} {rela : Bool} {b : List UInt8} (hok : ∀ r ∈ l, r.ok) (h : encA l rela = some b) : apsZ b rela = some l := by
  unfold encA at h
  split at h
  · rename_i hc
    injection h with h
    subst h
    have hgood : ∀ x ∈ l, x.ok ∧ rlGood rela x = true := fun x hx => ⟨hok x hx, List.all_eq_true.1 hc.2 x hx⟩
    have hr : ∀ n ∈ ((l.length : Int) :: 0 :: encG rela l.length 0 0 l), i64r n := by
      intro n hn
      simp only [List.mem_cons] at hn
      rcases hn with rfl | rfl | hn
      · unfold i64r; omega
      · unfold i64r; omega
      · exact encG_r rela _ _ _ _ (by omega) n hn
    unfold apsZ
    have e1 : ([65, 80, 83, 50] ++ lebs ((l.length : Int) :: 0 :: encG rela l.length 0 0 l)).take 4 = [65, 80, 83, 50] := rfl
    have e2 : ([65, 80, 83, 50] ++ lebs ((l.length : Int) :: 0 :: encG rela l.length 0 0 l)).drop 4 = lebs ((l.length : Int) :: 0 :: encG rela l.length 0 0 l) := rfl
    rw [if_pos e1, e2, nums_lebs _ hr]
    unfold decN
    have e3 : ((l.length : Int) :: 0 :: encG rela l.length 0 0 l).headD 0 = (l.length : Int) := rfl
    rw [e3, if_neg (by omega)]
    have e4 : startT ((l.length : Int) :: 0 :: encG rela l.length 0 0 l) = ⟨encG rela l.length 0 0 l, false, sg 0, 0, []⟩ := rfl
    obtain ⟨p, a, e⟩ := run_back rela l.length 513 l 0 0 [] (l.length : Int) (Nat.le_refl _) (by simp) (by omega) hgood (by omega) ⟨by decide, by decide⟩ (fun _ => rfl)
    rw [e4, e]
    simp [finT]
  · cases h
/-! ### The document's way: relocation by relocation -/
/-- The numbers behind a relocation p (none: at the beginning). -/
def prevP : Option Rl → Nat
  | none => 0
  | some p => p.pl
def prevA : Option Rl → Int
  | none => 0
  | some p => p.add
def isNew (p : Option Rl) (r : Rl) : Bool :=
  match p with
  | none => true
  | some q => !sameR r q
def goN (rela : Bool) : Option Rl → List Rl → List Int
  | _, [] => []
  | p, r :: l => (if isNew p r = true then headN rela (alikeN r l + 1) r else []) ++ (oneN rela (prevP p) (prevA p) r ++ goN rela (some r) l)
theorem same_trans {a b c : Rl} (h1 : sameR a b = true) (h2 : sameR c b = true) : sameR a c = true := by
  unfold sameR at *
  simp at *
  exact ⟨h1.1.trans h2.1.symm, h1.2.trans h2.2.symm⟩
theorem goN_run (rela : Bool) (q : Rl) : ∀ (xs ys : List Rl) (p : Rl), sameR p q = true → (∀ x ∈ xs, sameR x q = true) →
    goN rela (some p) (xs ++ ys) = rowE rela p.pl p.add xs ++ goN rela (some ((p :: xs).getLast (by simp))) ys
  | [], ys, p, _, _ => by simp [rowE]
  | x :: xs, ys, p, hp, h => by
    have hx := h x (by simp)
    have ih := goN_run rela q xs ys x hx (fun y hy => h y (by simp [hy]))
    have hn : isNew (some p) x = false := by simp [isNew, same_trans hx hp]
    simp only [List.cons_append, goN, hn, rowE, prevP, prevA, List.append_assoc, Bool.false_eq_true, if_false, List.nil_append]
    rw [ih]
    simp
theorem lastP_get : ∀ (l : List Rl) (p : Nat) (r : Rl), lastP p (r :: l) = ((r :: l).getLast (by simp)).pl
  | [], p, r => rfl
  | x :: l, p, r => by
    have := lastP_get l r.pl x
    rw [List.getLast_cons (by simp)]
    rw [← this]; rfl
theorem lastA_get : ∀ (l : List Rl) (p : Int) (r : Rl), lastA p (r :: l) = ((r :: l).getLast (by simp)).add
  | [], p, r => rfl
  | x :: l, p, r => by
    have := lastA_get l r.add x
    rw [List.getLast_cons (by simp)]
    rw [← this]; rfl
theorem goN_is (rela : Bool) : ∀ (k : Nat) (l : List Rl) (p : Option Rl), l.length ≤ k → (∀ r t, l = r :: t → isNew p r = true) → goN rela p l = encG rela k (prevP p) (prevA p) l
  | k, [], p, _, _ => by cases k <;> rfl
  | 0, r :: l, p, h, _ => by simp at h
  | k + 1, r :: l, p, h, hn => by
    have hnew := hn r l rfl
    have hap := alike_pos r l
    have hal := alike_le r l
    have hsp : l = l.take (alikeN r l) ++ l.drop (alikeN r l) := (List.take_append_drop _ _).symm
    have hrun := goN_run rela r (l.take (alikeN r l)) (l.drop (alikeN r l)) r (same_self r) (fun x hx => by
      obtain ⟨i, hi, rfl⟩ := List.getElem_of_mem hx
      rw [List.length_take] at hi
      rw [List.getElem_take]
      exact alike_same r l i (by omega) (by omega))
    rw [← hsp] at hrun
    have e1 : (r :: l).take (alikeN r l + 1) = r :: l.take (alikeN r l) := rfl
    have e2 : (r :: l).drop (alikeN r l + 1) = l.drop (alikeN r l) := rfl
    simp only [goN, hnew, if_true, encG, hap, e1, e2, rowE, lastP_get, lastA_get, List.append_assoc]
    rw [hrun]
    congr 3
    have ih := goN_is rela k (l.drop (alikeN r l)) (some ((r :: l.take (alikeN r l)).getLast (by simp))) (by rw [List.length_drop]; simp at h; omega) (by
      intro x t hx
      have hlt : alikeN r l < l.length := by
        rcases Nat.lt_or_ge (alikeN r l) l.length with h | h
        · exact h
        · rw [List.drop_of_length_le h] at hx; cases hx
      have hst := alike_stop r l hlt
      have hx0 : x = l[alikeN r l] := by
        have := congrArg List.head? hx
        rw [List.head?_drop, List.getElem?_eq_getElem hlt] at this
        simp at this; exact this.symm
      have hlast : sameR ((r :: l.take (alikeN r l)).getLast (by simp)) r = true := by
        have hm := List.getLast_mem (l := r :: l.take (alikeN r l)) (by simp)
        simp only [List.mem_cons] at hm
        rcases hm with e | hm
        · rw [e]; exact same_self r
        · obtain ⟨i, hi, e⟩ := List.getElem_of_mem hm
          rw [← e]
          rw [List.length_take] at hi
          rw [List.getElem_take]
          exact alike_same r l i (by omega) (by omega)
      show (!sameR x _) = true
      cases hh : sameR x ((r :: l.take (alikeN r l)).getLast (by simp)) with
      | false => rfl
      | true =>
        have h3 : sameR x r = true := by
          unfold sameR at hh hlast ⊢
          simp at hh hlast ⊢
          exact ⟨hh.1.trans hlast.1, hh.2.trans hlast.2⟩
        rw [hx0, hst] at h3; cases h3)
    exact ih
end Go.Proofs.Ytiicmakeoidiaaa
