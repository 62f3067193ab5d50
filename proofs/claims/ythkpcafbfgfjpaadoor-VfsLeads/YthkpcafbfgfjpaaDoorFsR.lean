
/-
  Where a path leads has a path of its own, which leads there: by lists alone.
-/
import Derived.Test.YthkpcafbfgfjpaaDoorFsM
set_option linter.unusedVariables false
namespace Go.Proofs.YthkpcafbfgfjpaaDoor
open Go.RowKit Go.PlainAid
theorem chk_clean {p : List UInt8} {k : Int} {dn : Nat} {to : ByteArray} (h : chkE p k dn to = 0) : isCl p = true ∧ p ≠ [47] := by
  unfold chkE at h
  by_cases a : isCl p = false ∨ p = [47]
  · rw [if_pos a] at h; cases h
  · refine ⟨?_, fun e => a (.inr e)⟩
    cases e : isCl p with
    | true => rfl
    | false => exact absurd (.inl e) a
theorem neat_path {p : List UInt8} (h : isCl p = true) : ∃ st, Neat st ∧ whole st = p := by
  unfold isCl at h
  rw [Bool.and_eq_true] at h
  exact ⟨stk (names p), neat_of h.1, eq_of_beq h.2⟩
theorem paths_get {l : List Nd} {k : Nat} (h : k < l.length) : pathAt l k = (pathsOf l)[k]'(by rw [pathsOf_len]; exact h) := by
  rw [pathAt_of h]; unfold pathsOf; rw [List.getElem_map]
theorem numOf_get {ps : List (List UInt8)} (hn : ps.Nodup) {k : Nat} (h : k < ps.length) : isIn ps ps[k] = true ∧ numOf ps ps[k] = k := by
  have e : ps.idxOf? ps[k] = some k := by
    rw [List.idxOf?_eq_some_iff]
    refine ⟨h, rfl, fun j hj e => ?_⟩
    exact List.pairwise_iff_getElem.1 hn j k (by omega) h hj e
  unfold isIn numOf
  rw [e]
  exact ⟨rfl, rfl⟩
section
variable {L l : List Nd}
theorem root_in : isIn (pathsOf (rootN :: l)) [47] = true ∧ numOf (pathsOf (rootN :: l)) [47] = 0 := by
  have e : pathsOf (rootN :: l) = [47] :: pathsOf l := rfl
  unfold isIn numOf
  rw [e, List.idxOf?_cons]
  exact ⟨rfl, rfl⟩
/-- What has a path is the root, or a node that was told. -/
theorem at_cases {k : Nat} (h : k < (rootN :: l).length) : k = 0 ∨ ∃ n ∈ l, pathAt (rootN :: l) k = n.path.data.toList ∧ kindAt (rootN :: l) k = n.kind := by
  cases k with
  | zero => exact .inl rfl
  | succ k =>
    have hk : k < l.length := by simpa using h
    exact .inr ⟨l[k], List.getElem_mem hk, by rw [pathAt_of h]; rfl, by rw [kindAt_of h]; rfl⟩
theorem up_dir (hs : Sound L l) {st : List (List UInt8)} {x : List UInt8} (hn : Neat (st ++ [x])) (hi : isIn (pathsOf (rootN :: l)) (whole (st ++ [x])) = true) :
    isIn (pathsOf (rootN :: l)) (whole st) = true ∧ kindAt (rootN :: l) (numOf (pathsOf (rootN :: l)) (whole st)) = 1 := by
  obtain ⟨hlt, hg⟩ := isIn_get hi
  rw [pathsOf_len] at hlt
  have hp : pathAt (rootN :: l) (numOf (pathsOf (rootN :: l)) (whole (st ++ [x]))) = whole (st ++ [x]) := by rw [paths_get hlt]; exact hg
  rcases at_cases hlt with e | ⟨n, hm, e, _⟩
  · rw [e] at hp
    have hr : whole (st ++ [x]) = [47] := hp.symm
    rw [whole_root hn] at hr
    simp at hr
  · have hd := hs.dirs n hm
    rw [← e, hp, up_snoc hn] at hd
    unfold dirB at hd
    rw [Bool.and_eq_true] at hd
    exact ⟨hd.1, eq_of_beq hd.2⟩
theorem run_down (hs : Sound L l) : ∀ (m : Nat) (st : List (List UInt8)), st.length = m → Neat st → isIn (pathsOf (rootN :: l)) (whole st) = true → kindAt (rootN :: l) (numOf (pathsOf (rootN :: l)) (whole st)) ≠ 3 →
    ∀ (f : Nat) (rest : List (List UInt8)) (k : Nat), runW (rootN :: l) (f + m) ⟨0, st ++ rest, k⟩ = runW (rootN :: l) f ⟨numOf (pathsOf (rootN :: l)) (whole st), rest, k⟩
  | 0, st, hl, _, _, _, f, rest, k => by
    have := List.eq_nil_of_length_eq_zero hl
    subst this
    rw [show whole [] = [47] from rfl, root_in.2]
    rfl
  | m + 1, st, hl, hn, hi, hk, f, rest, k => by
    rcases List.eq_nil_or_concat st with e | ⟨r, x, e⟩
    · rw [e] at hl; simp at hl
    · rw [List.concat_eq_append] at e
      subst e
      have hr : r.length = m := by simpa using hl
      obtain ⟨u1, u2⟩ := up_dir hs hn hi
      have ih := run_down hs m r hr (neat_init hn) u1 (by rw [u2]; decide) (f + 1) (x :: rest) k
      rw [show f + (m + 1) = f + 1 + m by omega, List.append_assoc, List.singleton_append, ih]
      obtain ⟨ult, ug⟩ := isIn_get u1
      rw [pathsOf_len] at ult
      have hp : pathAt (rootN :: l) (numOf (pathsOf (rootN :: l)) (whole r)) = whole r := by rw [paths_get ult]; exact ug
      have hb : belowOf (whole r) x = whole (r ++ [x]) := snoc_glue hn
      have hx : x ≠ [46, 46] := (hn.1 x (by simp)).2.2.1
      have hst : stepW (rootN :: l) x ⟨numOf (pathsOf (rootN :: l)) (whole r), rest, k⟩ = (0, ⟨numOf (pathsOf (rootN :: l)) (whole (r ++ [x])), rest, k⟩) := by
        unfold stepW
        simp only [hp, hb]
        rw [if_neg (by rw [u2]; decide), if_neg hx, if_neg (by rw [hi]; simp), if_neg hk]
      show (if (stepW _ x ⟨_, rest, k⟩).1 = 0 then runW _ f (stepW _ x ⟨_, rest, k⟩).2 else _) = _
      rw [hst]
      rfl
theorem real_back (hs : Sound L l) {n : Nat} (h : n < (rootN :: l).length) (hk : kindAt (rootN :: l) n ≠ 3) : findN (rootN :: l) (pathAt (rootN :: l) n) = (0, n) := by
  have hg := numOf_get hs.grow.nod (k := n) (by rw [pathsOf_len]; exact h)
  rw [← paths_get h] at hg
  obtain ⟨st, hn, hw⟩ : ∃ st, Neat st ∧ whole st = pathAt (rootN :: l) n := by
    rcases at_cases h with e | ⟨m, hm, e, _⟩
    · subst e
      exact ⟨[], ⟨fun x hx => by simp at hx, by show (1 : Nat) ≤ 256; omega⟩, rfl⟩
    · rw [e]
      exact neat_path (chk_clean (hs.grow.chk m hm)).1
  rw [← hw] at hg ⊢
  have hc : clE (whole st) = 0 := by unfold clE; rw [if_pos (neat_can hn)]
  have hnm : names (whole st) = st := names_whole st (fun x hx => ⟨(hn.1 x hx).1, (hn.1 x hx).2.1⟩)
  unfold findN
  rw [if_neg (by rw [hc]; simp), hnm]
  have hf : findK (whole st) + 1 = 40001 + st.length := by unfold findK; rw [hnm]; omega
  rw [hf]
  have hd := run_down hs st.length st rfl hn hg.1 (by rw [hg.2]; exact hk) 40001 [] 0
  rw [List.append_nil] at hd
  rw [hd, hg.2]
  generalize 40000 = q
  rfl
theorem step_kind (hs : Sound L l) (n : List UInt8) (r : List (List UInt8)) (p k : Nat) (hp : p < (rootN :: l).length) (hk : kindAt (rootN :: l) p ≠ 3) (h0 : (stepW (rootN :: l) n ⟨p, r, k⟩).1 = 0) : kindAt (rootN :: l) (stepW (rootN :: l) n ⟨p, r, k⟩).2.pos ≠ 3 := by
  have hr : kindAt (rootN :: l) 0 = 1 := rfl
  unfold stepW at h0 ⊢
  by_cases a : kindAt (rootN :: l) p = 2
  · simp only [if_pos a] at h0; cases h0
  · simp only [if_neg a] at h0 ⊢
    by_cases b : n = [46, 46]
    · simp only [if_pos b] at h0 ⊢
      rcases at_cases hp with e | ⟨m, hm, e, _⟩
      · subst e
        show kindAt _ (numOf _ (upOf [47])) ≠ 3
        rw [show upOf [47] = [47] from by decide, root_in.2, hr]
        decide
      · rw [e]
        have := hs.dirs m hm
        unfold dirB at this
        rw [Bool.and_eq_true] at this
        rw [eq_of_beq this.2]
        decide
    · simp only [if_neg b] at h0 ⊢
      by_cases c : isIn (pathsOf (rootN :: l)) (belowOf (pathAt (rootN :: l) p) n) = false
      · simp only [if_pos c] at h0; cases h0
      · simp only [if_neg c] at h0 ⊢
        by_cases d : kindAt (rootN :: l) (numOf (pathsOf (rootN :: l)) (belowOf (pathAt (rootN :: l) p) n)) = 3
        · simp only [if_pos d] at h0 ⊢
          unfold followW at h0 ⊢
          by_cases e : k = 8
          · simp only [if_pos e] at h0; cases h0
          · simp only [if_neg e]
            split
            · rw [hr]; decide
            · exact hk
        · simp only [if_neg d] at h0 ⊢; exact d
theorem run_kind (hs : Sound L l) (hl : ∀ n ∈ rootN :: l, n.to.size ≤ 4096) : ∀ (f : Nat) (s : Way), s.pos < (rootN :: l).length → s.links ≤ 8 → kindAt (rootN :: l) s.pos ≠ 3 → (runW (rootN :: l) f s).1 = 0 → kindAt (rootN :: l) (runW (rootN :: l) f s).2 ≠ 3
  | 0, s, _, _, _, h => by cases h
  | f + 1, ⟨p, [], k⟩, hp, _, hk, _ => hk
  | f + 1, ⟨p, n :: r, k⟩, hp, hk, h3, h => by
    unfold runW at h ⊢
    by_cases e : (stepW (rootN :: l) n ⟨p, r, k⟩).1 = 0
    · rw [if_pos e] at h ⊢
      obtain ⟨h1, h2, _⟩ := stepW_ok hl (by simp) n r p k hp hk e
      exact run_kind hs hl f _ h1 h2 (step_kind hs n r p k hp h3 e) h
    · rw [if_neg e] at h
      exact absurd h e
theorem find_kind (hs : Sound L l) (hl : ∀ n ∈ rootN :: l, n.to.size ≤ 4096) (p : List UInt8) (h : (findN (rootN :: l) p).1 = 0) : kindAt (rootN :: l) (findN (rootN :: l) p).2 ≠ 3 := by
  have hr : kindAt (rootN :: l) 0 = 1 := rfl
  unfold findN at h ⊢
  by_cases e : clE p ≠ 0
  · rw [if_pos e]; rw [hr]; decide
  · rw [if_neg e] at h ⊢
    exact run_kind hs hl _ _ (by simp) (Nat.zero_le _) (by rw [hr]; decide) h
end
end Go.Proofs.YthkpcafbfgfjpaaDoor
