
/-
  Layer 18 (conf): the reference's line, whole; what holds at each line.
-/
import Derived.Test.YtmcefflgbliehaaDoorCgH
import Derived.Test.YtmcefflgbliehaaDoorCgI
set_option linter.unusedVariables false
namespace Go.Proofs.YtmcefflgbliehaaDoor
open Go.RowKit Go.PlainAid Go.Sort
theorem pref_form {s : List UInt8} (h : Lib.hasPrefix s [91] = true) : ∃ r, s = 91 :: r := by
  unfold Lib.hasPrefix at h
  rw [List.isPrefixOf_iff_prefix] at h
  obtain ⟨r, hr⟩ := h
  exact ⟨r, hr.symm⟩
theorem ref18_line (W : World) (B N : Nat) (dv sv : Value) (F : Cf) (ss : List Sx) (h : RfAt W B dv sv F.dirs ss N) (hF : ss.map Sx.sc = F.secs) (hN : N ≤ 50000) (hB : B ≤ W.heap.size) (z : ByteArray) (hz : z.size ≤ 100000) (n : Int) (hn : z.data.toList ≠ []) (hnd : NdF F) :
    Calls Tryd.prog 27 #[.agg #[dv, sv], .string z, .int .i64 n] W fun e w' => LineTo W B N dv sv (lineC F z.data.toList n) e w' := by
  unfold lineC
  cases hp : Lib.hasPrefix z.data.toList [91] with
  | true =>
    rw [if_pos rfl]
    obtain ⟨r, hr⟩ := pref_form hp
    rw [hr, (pref_cons r).2]
    cases hs : Lib.hasSuffix r [93] with
    | false =>
      have : begC F.secs r = false := by unfold begC; rw [hs]; rfl
      rw [this, if_neg (by simp)]
      exact line_open W B N dv sv F ss h hF hN hB z hz n r hr hs
    | true =>
      obtain ⟨m, rfl⟩ := suff1 hs
      rw [(suff1_is m 93).2]
      have hb : begC F.secs (m ++ [93]) = (nameC m && !(F.secs.any (isS m))) := by unfold begC; rw [(suff1_is m 93).1, (suff1_is m 93).2, Bool.true_and]
      rw [hb]
      cases hm : nameC m with
      | false =>
        rw [if_neg (by simp)]
        exact line_name W B N dv sv F ss h hF hN hB z hz n m hr hm
      | true =>
        cases ha : F.secs.any (isS m) with
        | true =>
          rw [if_neg (by simp)]
          exact line_had W B N dv sv F ss h hF hN hB z hz n m hr hm ha
        | false =>
          rw [if_pos (by simp)]
          exact line_new W B N dv sv F ss h hF hN hB z hz n m hr hm ha
  | false =>
    rw [if_neg (by simp)]
    rcases index_cases 61 z.data.toList with hix | ⟨k, hk, hix⟩
    · have hc := cut_not 61 _ hix
      have hr : readB z.data.toList = false := by unfold readB; rw [hc]; rfl
      rw [hr, if_pos rfl]
      exact line_noeq W B N dv sv F ss h hF hN hB z hz n hn hp hix
    · have hc := cut_at 61 _ k hix
      have hk2 : k < z.size := by rw [size_list]; exact hk
      obtain ⟨t, ht⟩ : ∃ t, readT z.data.toList = t := ⟨_, rfl⟩
      have hr : readB z.data.toList = nameC t.name := by unfold readB; rw [hc, ← ht]; rfl
      rw [hr, ht]
      obtain ⟨nm, va, ad⟩ := t
      simp only []
      cases hb : nameC nm with
      | false =>
        rw [if_pos rfl]
        exact line_bad W B N dv sv F ss h hF hN hB z hz n hn hp k hk2 hix nm va ad ht hb
      | true =>
        rw [if_neg (by simp)]
        by_cases hss : F.secs = []
        · rw [if_pos hss]
          have hss2 : ss = [] := by rw [hss] at hF; exact List.map_eq_nil_iff.1 hF
          cases hfo : folB ⟨nm, va, ad⟩ with
          | false =>
            rw [if_neg (by simp)]
            exact line_dirno W B N dv sv F ss h hF hN hB z hz n hn hp k hk2 hix nm va ad ht hb hss2 hfo
          | true =>
            rw [if_pos rfl]
            have : folD F.dirs ⟨nm, va, ad⟩ n = F.dirs ++ [⟨Lib.trimPrefix nm dirN, va, n⟩] := by unfold folD; rw [if_pos hfo]
            rw [this]
            exact line_dir W B N dv sv F ss h hF hN hB z hz n hn hp k hk2 hix nm va ad ht hb hss2 hfo
        · rw [if_neg hss]
          rcases List.eq_nil_or_concat ss with he | ⟨A, x, he⟩
          · rw [he] at hF; exact absurd hF.symm hss
          · have he2 : ss = A ++ [x] := by rw [he]; simp
            exact line_tell W B N dv sv F ss h hF hN hB z hz n hn hp k hk2 hix nm va ad ht hb A x he2 (hnd x.sc (by rw [← hF, he2]; simp))
/-- What holds at each line. -/
structure RpAt (w wr : World) (fb L n c : Nat) (xs : List (List UInt8)) (i : Nat) (F : Cf) (dv sv : Value) (ss : List Sx) : Prop where
  bw : Below w.heap.size w wr
  r : wr.heap[w.heap.size]? = some (.cells zFl.toArray 32 (0, 0))
  fx : wr.heap[fb]? = some (.cells #[dv, sv] 32 (0, 0))
  hf : w.heap.size < fb
  a : RfAt wr (fb + 1) dv sv F.dirs ss i
  s : ss.map Sx.sc = F.secs
  l : OwnS wr (w.heap.size + 1) (.slice (some ⟨L, 0, none⟩) n c) (xs.map tx)
theorem RpAt.lt {w wr : World} {fb L n c : Nat} {xs : List (List UInt8)} {i : Nat} {F : Cf} {dv sv : Value} {ss : List Sx} (h : RpAt w wr fb L n c xs i F dv sv ss) : fb + 1 ≤ wr.heap.size := block_lt h.fx
theorem RpAt.more {w wr : World} {fb L n c : Nat} {xs : List (List UInt8)} {i : Nat} {F : Cf} {dv sv : Value} {ss : List Sx} (h : RpAt w wr fb L n c xs i F dv sv ss) : RpAt w wr fb L n c xs (i + 1) F dv sv ss := { h with a := h.a.more (Nat.le_succ i) }
/-- Behind a line: the var's block is as it was, and the answer's. -/
theorem RpAt.mid {w wr w3 : World} {fb L n c : Nat} {xs : List (List UInt8)} {i : Nat} {F : Cf} {dv sv : Value} {ss : List Sx} (h : RpAt w wr fb L n c xs i F dv sv ss) (ht : Turn (foot2 dv sv) wr w3) :
    w3.heap[fb]? = some (.cells #[dv, sv] 32 (0, 0)) ∧ w3.heap[w.heap.size]? = some (.cells zFl.toArray 32 (0, 0)) ∧ OwnS w3 (w.heap.size + 1) (.slice (some ⟨L, 0, none⟩) n c) (xs.map tx) ∧ Below w.heap.size w w3 := by
  have hlt := h.lt
  have hf := h.hf
  have hfar : ∀ k, k < fb + 1 → ¬ foot2 dv sv k := fun k hk e => by have := (h.a.foot e).1; omega
  refine ⟨by rw [ht.block _ (by omega) (hfar _ (by omega))]; exact h.fx, by rw [ht.block _ (by omega) (hfar _ (by omega))]; exact h.r, row_keep h.l (fun g hg => ?_), h.bw.trans (ht.below (by omega) (fun k hk => by have := (h.a.foot hk).1; omega))⟩
  refine ht.block g (World.ownsRow.lt h.l g hg).2 (fun e => ?_)
  obtain ⟨c1, h1⟩ := row_type h.l hg
  rcases e with e | e
  · obtain ⟨c2, h2⟩ := row_type h.a.dirs e
    exact absurd (type_of h1 h2) (by decide)
  · obtain ⟨c2, h2⟩ := row_type h.a.secs e
    exact absurd (type_of h1 h2) (by decide)
theorem RpAt.next {w wr w3 w4 : World} {fb L n c : Nat} {xs : List (List UInt8)} {i : Nat} {F F' : Cf} {dv sv dv' sv' : Value} {ss ss' : List Sx} (h : RpAt w wr fb L n c xs i F dv sv ss) (ht : Turn (foot2 dv sv) wr w3) (hm : ss'.map Sx.sc = F'.secs) (ha : RfAt w3 (fb + 1) dv' sv' F'.dirs ss' (i + 1))
    (h4 : w4.heap[fb]? = some (.cells #[dv', sv'] 32 (0, 0))) (hg : w3.grownBy w4 (some fb)) : RpAt w w4 fb L n c xs (i + 1) F' dv' sv' ss' := by
  obtain ⟨m1, m2, m3, m4⟩ := h.mid ht
  have hf := h.hf
  refine ⟨below_own m4 hg (by omega) (Nat.le_refl _), ?_, h4, hf, ha.store m1 hg, hm, row_keep m3 (fun g hgg => hg.block g (World.ownsRow.lt m3 g hgg).2 (fun e => ?_))⟩
  · rw [hg.block _ (block_lt m2) (fun e => by injection e with e; omega)]; exact m2
  · injection e with e
    subst e
    obtain ⟨c1, h1⟩ := row_type m3 hgg
    exact absurd (type_of h1 m1) (by decide)
end Go.Proofs.YtmcefflgbliehaaDoor
