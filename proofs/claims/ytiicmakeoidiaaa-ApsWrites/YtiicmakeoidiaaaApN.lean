
/-
  Layer 14 (aps), plain: the numbers that tell a list of relocations; that they are read as they were written.
-/
import Derived.Test.YtiicmakeoidiaaaApM
set_option linter.unusedVariables false
namespace Go.Proofs.Ytiicmakeoidiaaa
open Go.RowKit Go.PlainAid
def rlGood (rela : Bool) (r : Rl) : Bool := (r.has == rela) && (rela || r.add == 0)
def sameR (a b : Rl) : Bool := a.type == b.type && a.sym == b.sym
/-- How many relocations, from the first on, have its type and symbol. -/
def alikeN (r : Rl) : List Rl → Nat
  | [] => 0
  | x :: l => if sameR x r = true then alikeN r l + 1 else 0
def flagN (rela : Bool) : Int := if rela = true then 9 else 1
def infoR (r : Rl) : Int := sg (r.sym * 4294967296 + r.type)
def stepR (pl : Nat) (r : Rl) : Int := sg (us ((r.pl : Int) - (pl : Int)))
def addR (rela : Bool) (ad : Int) (r : Rl) : List Int := if rela = true then [w64 (r.add - ad)] else []
def oneN (rela : Bool) (pl : Nat) (ad : Int) (r : Rl) : List Int := stepR pl r :: addR rela ad r
def rowE (rela : Bool) : Nat → Int → List Rl → List Int
  | _, _, [] => []
  | pl, ad, r :: l => oneN rela pl ad r ++ rowE rela r.pl r.add l
def lastP : Nat → List Rl → Nat
  | p, [] => p
  | _, r :: l => lastP r.pl l
def lastA : Int → List Rl → Int
  | p, [] => p
  | _, r :: l => lastA r.add l
def headN (rela : Bool) (n : Nat) (r : Rl) : List Int := [(n : Int), flagN rela, infoR r]
def encG (rela : Bool) : Nat → Nat → Int → List Rl → List Int
  | 0, _, _, _ => []
  | _ + 1, _, _, [] => []
  | k + 1, pl, ad, r :: l => headN rela (alikeN r (r :: l)) r ++ (rowE rela pl ad ((r :: l).take (alikeN r (r :: l))) ++
      encG rela k (lastP pl ((r :: l).take (alikeN r (r :: l)))) (lastA ad ((r :: l).take (alikeN r (r :: l)))) ((r :: l).drop (alikeN r (r :: l))))
def lebs (ns : List Int) : List UInt8 := ns.flatMap (lebS 10)
def encA (l : List Rl) (rela : Bool) : Option (List UInt8) :=
  if l.length ≤ 512 ∧ l.all (rlGood rela) = true then some ([65, 80, 83, 50] ++ lebs ((l.length : Int) :: 0 :: encG rela l.length 0 0 l)) else none
theorem lebs_app (a b : List Int) : lebs (a ++ b) = lebs a ++ lebs b := by simp [lebs]
theorem lebS_len : ∀ (f : Nat) (n : Int), (lebS f n).length ≤ f
  | 0, n => by simp [lebS]
  | f + 1, n => by
    unfold lebS
    split
    · simp
    · have := lebS_len f (n / 128); simp; omega
theorem lebs_len (ns : List Int) : (lebs ns).length ≤ 10 * ns.length := by
  induction ns with
  | nil => simp [lebs]
  | cons n ns ih =>
    have e : lebs (n :: ns) = lebS 10 n ++ lebs ns := by simp [lebs]
    have := lebS_len 10 n
    rw [e, List.length_append, List.length_cons]; omega
theorem oneN_len (rela : Bool) (pl : Nat) (ad : Int) (r : Rl) : (oneN rela pl ad r).length ≤ 2 := by
  unfold oneN addR; split <;> simp
theorem rowE_len (rela : Bool) : ∀ (l : List Rl) (pl : Nat) (ad : Int), (rowE rela pl ad l).length ≤ 2 * l.length
  | [], _, _ => by simp [rowE]
  | r :: l, pl, ad => by
    have := rowE_len rela l r.pl r.add
    have := oneN_len rela pl ad r
    simp only [rowE, List.length_append, List.length_cons]; omega
theorem rowE_snoc (rela : Bool) : ∀ (l : List Rl) (pl : Nat) (ad : Int) (r : Rl), rowE rela pl ad (l ++ [r]) = rowE rela pl ad l ++ oneN rela (lastP pl l) (lastA ad l) r
  | [], pl, ad, r => by simp [rowE, lastP, lastA]
  | x :: l, pl, ad, r => by
    have := rowE_snoc rela l x.pl x.add r
    simp only [List.cons_append, rowE, this, lastP, lastA, List.append_assoc]
theorem lastP_snoc : ∀ (l : List Rl) (p : Nat) (r : Rl), lastP p (l ++ [r]) = r.pl
  | [], p, r => rfl
  | x :: l, p, r => by simp only [List.cons_append, lastP]; exact lastP_snoc l _ r
theorem lastA_snoc : ∀ (l : List Rl) (p : Int) (r : Rl), lastA p (l ++ [r]) = r.add
  | [], p, r => rfl
  | x :: l, p, r => by simp only [List.cons_append, lastA]; exact lastA_snoc l _ r
theorem alike_le (r : Rl) : ∀ l : List Rl, alikeN r l ≤ l.length
  | [] => by simp [alikeN]
  | x :: l => by
    have := alike_le r l
    simp only [alikeN]
    split
    · simpa using this
    · simp
theorem same_self (r : Rl) : sameR r r = true := by simp [sameR]
theorem alike_pos (r : Rl) (l : List Rl) : alikeN r (r :: l) = alikeN r l + 1 := by simp [alikeN, same_self]
theorem alike_same (r : Rl) : ∀ (l : List Rl) (i : Nat) (h : i < l.length), i < alikeN r l → sameR l[i] r = true
  | [], i, h, _ => by simp at h
  | x :: l, i, h, hi => by
    simp only [alikeN] at hi
    split at hi
    · rename_i hx
      cases i with
      | zero => exact hx
      | succ i => exact alike_same r l i (by simpa using h) (by omega)
    · omega
theorem alike_stop (r : Rl) : ∀ (l : List Rl) (h : alikeN r l < l.length), sameR (l[alikeN r l]'h) r = false
  | [], h => by simp at h
  | x :: l, h => by
    by_cases hx : sameR x r = true
    · have e : alikeN r (x :: l) = alikeN r l + 1 := by simp [alikeN, hx]
      have h2 : alikeN r l < l.length := by rw [e] at h; simpa using h
      have := alike_stop r l h2
      simp only [e, List.getElem_cons_succ]
      exact this
    · have e : alikeN r (x :: l) = 0 := by simp [alikeN, hx]
      simp only [e, List.getElem_cons_zero]
      simpa using hx
theorem alike_is (r : Rl) (l : List Rl) (n : Nat) (h1 : n ≤ l.length) (h2 : ∀ i (h : i < l.length), i < n → sameR l[i] r = true) (h3 : ∀ h : n < l.length, sameR l[n] r = false) : alikeN r l = n := by
  rcases Nat.lt_trichotomy (alikeN r l) n with h | h | h
  · have e := alike_stop r l (by omega)
    have := h2 (alikeN r l) (by omega) h
    rw [this] at e; cases e
  · exact h
  · have hl := alike_le r l
    have := alike_same r l n (by omega) h
    rw [h3 (by omega)] at this; cases this
/-! ### What is written is read -/
theorem okS_leb (n : Int) (m : List UInt8) (h : i64r n) : okS (lebS 10 n ++ m) ∧ valS (lebS 10 n ++ m) = n ∧ dropS (lebS 10 n ++ m) = m := by
  obtain ⟨h1, h2, h3⟩ := lebS_says 10 n (by omega) (roomS_start h.1 h.2)
  have W := ends_whole (m := m) h1 h3
  have S := S_reads (m := m) h1 h3 h2 h.1 h.2
  refine ⟨⟨W.1, S.1⟩, ?_, ?_⟩
  · unfold valS; rw [W.2.1]; exact S.2
  · unfold dropS; rw [W.2.1]; exact W.2.2.2
theorem nums_lebs : ∀ (ns : List Int), (∀ n ∈ ns, i64r n) → numsZ (lebs ns) = (ns, true)
  | [], _ => rfl
  | n :: ns, h => by
    have e : lebs (n :: ns) = lebS 10 n ++ lebs ns := by simp [lebs]
    obtain ⟨h1, h2, h3⟩ := okS_leb n (lebs ns) (h n (by simp))
    rw [e, numsZ_ok h1, h2, h3, nums_lebs ns (fun m hm => h m (by simp [hm]))]
theorem sg_r (n : Nat) : i64r (sg n) := ⟨sg_lo n, sg_hi n⟩
theorem encG_r (rela : Bool) : ∀ (k pl : Nat) (ad : Int) (l : List Rl), l.length ≤ 1000 → ∀ n ∈ encG rela k pl ad l, i64r n
  | 0, _, _, _, _, n, h => by simp [encG] at h
  | k + 1, pl, ad, [], _, n, h => by simp [encG] at h
  | k + 1, pl, ad, r :: l, hl, n, h => by
    have ha := alike_le r (r :: l)
    have hrow : ∀ (l : List Rl) (pl : Nat) (ad : Int), ∀ n ∈ rowE rela pl ad l, i64r n := by
      intro l
      induction l with
      | nil => intro pl ad n h; simp [rowE] at h
      | cons r l ih =>
        intro pl ad n h
        simp only [rowE, oneN, addR, List.mem_append, List.mem_cons] at h
        rcases h with (h | h) | h
        · rw [h]; exact sg_r _
        · split at h
          · simp at h; rw [h]; exact w64_bd _
          · simp at h
        · exact ih _ _ n h
    simp only [encG, headN, List.mem_append, List.mem_cons, List.not_mem_nil, or_false] at h
    rcases h with (h | h | h) | h | h
    · rw [h]; unfold i64r; omega
    · rw [h]; unfold flagN i64r; split <;> omega
    · rw [h]; exact sg_r _
    · exact hrow _ _ _ n h
    · exact encG_r rela k _ _ _ (by rw [List.length_drop]; omega) n h
theorem sg_form (n : Nat) : ∃ a : Int, sg n = (n : Int) + 18446744073709551616 * a := by
  refine ⟨-(((n : Int) + 9223372036854775808) / 18446744073709551616), ?_⟩
  have e1 : sg n = ((n : Int) + 9223372036854775808) % 18446744073709551616 - 9223372036854775808 := wrap_i64_is _
  rw [e1]; omega
theorem us_form (z : Int) : ∃ a : Int, ((us z : Nat) : Int) = z + 18446744073709551616 * a := by
  refine ⟨-(z / 18446744073709551616), ?_⟩
  rw [us_is, IntKind.wrap_u64]; omega
theorem w64_form (z : Int) : ∃ a : Int, w64 z = z + 18446744073709551616 * a := by
  refine ⟨-((z + 9223372036854775808) / 18446744073709551616), ?_⟩
  rw [← i64_w64, wrap_i64_is]; omega
theorem r_same {x y : Int} (hx : i64r x) (hy : i64r y) (k : Int) (h : x = y + 18446744073709551616 * k) : x = y := by
  obtain ⟨h1, h2⟩ := hx
  obtain ⟨h3, h4⟩ := hy
  omega
theorem step_back (p q : Nat) : w64 (sg p + sg (us ((q : Int) - (p : Int)))) = sg q := by
  obtain ⟨a, ha⟩ := sg_form p
  obtain ⟨b, hb⟩ := sg_form (us ((q : Int) - (p : Int)))
  obtain ⟨c, hc⟩ := us_form ((q : Int) - (p : Int))
  obtain ⟨d, hd⟩ := sg_form q
  obtain ⟨e, he⟩ := w64_form (sg p + sg (us ((q : Int) - (p : Int))))
  refine r_same (w64_bd _) (sg_r q) (a + b + c + e - d) ?_
  rw [he, ha, hb, hc, hd]
  omega
theorem add_back (a b : Int) (hb : i64r b) : w64 (a + w64 (b - a)) = b := by
  obtain ⟨c, hc⟩ := w64_form (b - a)
  obtain ⟨e, he⟩ := w64_form (a + w64 (b - a))
  refine r_same (w64_bd _) hb (c + e) ?_
  rw [he, hc]
  omega
/-- One relocation is read. -/
theorem rel_back (rela : Bool) (pl : Nat) (ad : Int) (r : Rl) (hr : r.ok) (hg : rlGood rela r = true) (hp : pl < 18446744073709551616) (had : i64r ad) (h0 : rela = false → ad = 0) (st : Int) (N : List Int) (out : List Rl) :
    relT rela (flagN rela) st (infoR r) ⟨oneN rela pl ad r ++ N, false, sg pl, ad, out⟩ = ⟨N, false, sg r.pl, r.add, out ++ [r]⟩ := by
  have hinfo : us (infoR r) = r.sym * 4294967296 + r.type := by
    unfold infoR; rw [us_sg]; have := hr.type; have := hr.sym; omega
  have hlow : lowT (infoR r) = r.type := by unfold lowT; rw [hinfo]; have := hr.type; omega
  have hhigh : highT (infoR r) = r.sym := by unfold highT; rw [hinfo]; have := hr.type; omega
  have hstep := step_back pl r.pl
  change w64 (sg pl + stepR pl r) = sg r.pl at hstep
  have hpl : us (sg r.pl) = r.pl := us_sg _ (by have := hr.pl; omega)
  have hadd : rela = true → w64 (ad + w64 (r.add - ad)) = r.add := by
    intro _
    exact add_back ad r.add ⟨hr.lo, hr.hi⟩
  have hgood : r.has = rela ∧ (rela = false → r.add = 0) := by
    unfold rlGood at hg
    simp at hg
    refine ⟨hg.1, fun e => ?_⟩
    rcases hg.2 with h | h
    · rw [e] at h; cases h
    · exact h
  obtain ⟨p, t, s, a, hs⟩ := r
  obtain ⟨e1, e2⟩ := hgood
  simp only at e1 e2 hinfo hlow hhigh hstep hpl hadd
  subst e1
  cases hs with
  | true =>
    have hadd := hadd rfl
    simp only [oneN, addR, if_true, List.cons_append, List.nil_append]
    have f2 : fb (flagN true) 2 = false := by decide
    have f1 : fb (flagN true) 1 = true := by decide
    have f8 : fb (flagN true) 8 = true := by decide
    have f4 : fb (flagN true) 4 = false := by decide
    unfold relT
    rw [f1, f2, f4, f8]
    simp only [Bool.not_false, Bool.not_true, Bool.and_true, tkN, tkS, tkA, relD, Ts.tl, Ts.hd, Ts.setAdd, if_true, Bool.false_eq_true, if_false, List.headD_cons, List.tail_cons, List.isEmpty_cons, Bool.or_false, mkR]
    rw [hstep, hadd, hpl, hlow, hhigh]
  | false =>
    have h00 := h0 rfl
    have e20 := e2 rfl
    subst h00
    subst e20
    simp only [oneN, addR, Bool.false_eq_true, if_false, List.cons_append, List.nil_append]
    have f2 : fb (flagN false) 2 = false := by decide
    have f1 : fb (flagN false) 1 = true := by decide
    have f8 : fb (flagN false) 8 = false := by decide
    have f4 : fb (flagN false) 4 = false := by decide
    unfold relT
    rw [f1, f2, f4, f8]
    simp only [Bool.not_false, Bool.not_true, Bool.and_true, tkN, tkS, tkA, relD, Ts.tl, Ts.hd, Ts.setAdd, if_true, Bool.false_eq_true, if_false, List.headD_cons, List.tail_cons, List.isEmpty_cons, Bool.or_false, mkR]
    rw [hstep, hpl, hlow, hhigh]
end Go.Proofs.Ytiicmakeoidiaaa
