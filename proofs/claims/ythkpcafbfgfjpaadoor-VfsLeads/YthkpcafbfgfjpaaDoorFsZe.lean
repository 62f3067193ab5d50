
/-
  Layer 6's reference: the walk to a path, as a plain function; it is the program's.
-/
import Derived.Test.YthkpcafbfgfjpaaDoorFsZd
set_option linter.unusedVariables false
namespace Go.Proofs.YthkpcafbfgfjpaaDoor
open Go.RowKit Go.PlainAid
/-- The reference's walk: a folder's path, the names left, the links so far. -/
def refRun (l : List Nd) : Nat → List UInt8 → List (List UInt8) → Nat → Int × Nat
  | 0, _, _, _ => (64, 0)
  | _ + 1, d, [], _ => (0, numOf (pathsOf l) d)
  | f + 1, d, n :: r, k =>
    if n = [46, 46] then refRun l f (upOf d) r k
    else if isIn (pathsOf l) (belowOf d n) = false then (63, 0)
    else if kindAt l (numOf (pathsOf l) (belowOf d n)) = 2 then (if r = [] then (0, numOf (pathsOf l) (belowOf d n)) else (65, 0))
    else if kindAt l (numOf (pathsOf l) (belowOf d n)) = 3 then
      (if k = 8 then (64, 0) else refRun l f (if Lib.hasPrefix (toAt l (numOf (pathsOf l) (belowOf d n))) [47] then [47] else d) (names (toAt l (numOf (pathsOf l) (belowOf d n))) ++ r) (k + 1))
    else refRun l f (belowOf d n) r k
structure Fine (l : List Nd) : Prop where
  pos : 0 < l.length
  back : ∀ p, p < l.length → numOf (pathsOf l) (pathAt l p) = p
  kinds : ∀ p, p < l.length → kindAt l p = 1 ∨ kindAt l p = 2 ∨ kindAt l p = 3
  up : ∀ p, p < l.length → isIn (pathsOf l) (upOf (pathAt l p)) = true ∧ kindAt l (numOf (pathsOf l) (upOf (pathAt l p))) = 1
  tos : ∀ k, (toAt l k).length ≤ 4096
  root : kindAt l 0 = 1
  rootP : pathAt l 0 = [47]
theorem at_num {l : List Nd} {s : List UInt8} (h : isIn (pathsOf l) s = true) : numOf (pathsOf l) s < l.length ∧ pathAt l (numOf (pathsOf l) s) = s := by
  obtain ⟨h1, h2⟩ := isIn_get h
  have h3 : numOf (pathsOf l) s < l.length := by rw [pathsOf_len] at h1; exact h1
  refine ⟨h3, ?_⟩
  have h4 : (pathsOf l)[numOf (pathsOf l) s]? = some s := by rw [List.getElem?_eq_getElem h1, h2]
  generalize numOf (pathsOf l) s = q at *
  unfold pathAt
  unfold pathsOf at h4
  rw [List.getElem?_map] at h4
  rw [h4]; rfl
theorem mu_less {k a b c f : Nat} (h8 : k < 8) (h1 : (8 - k) * 5000 + (b + 1) < f + 1) (h2 : a ≤ c + 1) (h3 : c ≤ 4096) : (8 - (k + 1)) * 5000 + (a + b) < f := by
  have e1 : 8 - k = (8 - (k + 1)) + 1 := by omega
  rw [e1] at h1
  generalize 8 - (k + 1) = j at h1 ⊢
  clear e1 h8
  have e2 : (j + 1) * 5000 = j * 5000 + 5000 := Nat.succ_mul j 5000
  rw [e2] at h1
  generalize j * 5000 = z at h1 ⊢
  clear e2
  omega
theorem refRun_is {l : List Nd} (H : Fine l) : ∀ (f : Nat) (p : Nat) (ns : List (List UInt8)) (k : Nat), p < l.length → kindAt l p = 1 → k ≤ 8 → mu ⟨p, ns, k⟩ < f → refRun l f (pathAt l p) ns k = runW l f ⟨p, ns, k⟩ := by
  intro f
  induction f with
  | zero => intro p ns k _ _ _ hf; exact absurd hf (Nat.not_lt_zero _)
  | succ f ih =>
    intro p ns k hp hk hk8 hf
    cases ns with
    | nil => rw [refRun, runW, H.back p hp]
    | cons n r =>
      have hm : (8 - k) * 5000 + (r.length + 1) < f + 1 := by unfold mu at hf; exact hf
      have hs : stepW l n ⟨p, r, k⟩ = if n = [46, 46] then (0, ⟨numOf (pathsOf l) (upOf (pathAt l p)), r, k⟩) else if isIn (pathsOf l) (belowOf (pathAt l p) n) = false then (63, ⟨p, r, k⟩) else if kindAt l (numOf (pathsOf l) (belowOf (pathAt l p) n)) = 3 then followW (toAt l (numOf (pathsOf l) (belowOf (pathAt l p) n))) ⟨p, r, k⟩ else (0, ⟨numOf (pathsOf l) (belowOf (pathAt l p) n), r, k⟩) := by
        unfold stepW
        exact if_neg (show ¬ kindAt l p = 2 by rw [hk]; decide)
      have hmr : ∀ p', mu ⟨p', r, k⟩ < f := fun p' => by unfold mu; show (8 - k) * 5000 + r.length < f; omega
      clear hf
      rw [refRun, runW]
      by_cases hn : n = [46, 46]
      · rw [if_pos hn] at hs ⊢
        obtain ⟨u1, u2⟩ := H.up p hp
        obtain ⟨a1, a2⟩ := at_num u1
        have := ih _ r k a1 u2 hk8 (hmr _)
        rw [a2] at this
        rw [hs, this]; rfl
      · rw [if_neg hn] at hs ⊢
        cases hi : isIn (pathsOf l) (belowOf (pathAt l p) n) with
        | false =>
          rw [if_pos hi] at hs
          rw [hs]; rfl
        | true =>
          obtain ⟨a1, a2⟩ := at_num hi
          have hkk := H.kinds _ a1
          rw [if_neg (by rw [hi]; decide)] at hs
          generalize numOf (pathsOf l) (belowOf (pathAt l p) n) = q at *
          rw [if_neg (show ¬ true = false by decide)]
          rcases hkk with e | e | e
          · rw [if_neg (show ¬ kindAt l q = 3 by rw [e]; decide)] at hs ⊢
            rw [if_neg (show ¬ kindAt l q = 2 by rw [e]; decide)]
            have := ih q r k a1 e hk8 (hmr _)
            rw [a2] at this
            rw [hs, this]; rfl
          · rw [if_neg (show ¬ kindAt l q = 3 by rw [e]; decide)] at hs
            rw [if_pos e, hs]
            obtain ⟨g, rfl⟩ : ∃ g, f = g + 1 := ⟨f - 1, by omega⟩
            cases r with
            | nil => rfl
            | cons x r =>
              rw [if_neg (by simp)]
              show _ = runW l (g + 1) ⟨q, x :: r, k⟩
              have hs2 : stepW l x ⟨q, r, k⟩ = (65, ⟨q, r, k⟩) := by
                unfold stepW
                exact if_pos e
              rw [runW, hs2]; rfl
          · rw [if_pos e] at hs ⊢
            rw [if_neg (show ¬ kindAt l q = 2 by rw [e]; decide)]
            unfold followW at hs
            by_cases h8 : k = 8
            · subst h8
              rw [if_pos rfl] at hs
              rw [hs]; rfl
            · rw [if_neg h8]
              rw [if_neg (show ¬ (({ pos := p, left := r, links := k } : Way).links = 8) from h8)] at hs
              have ht := H.tos q
              have hl2 := names_len (toAt l q)
              have hmu : (8 - (k + 1)) * 5000 + (names (toAt l q) ++ r).length < f := by
                rw [List.length_append]
                exact mu_less (by omega) hm hl2 ht
              have hmu2 : ∀ p', mu ⟨p', names (toAt l q) ++ r, k + 1⟩ < f := fun p' => by unfold mu; exact hmu
              clear hmu
              rw [hs]
              cases hpx : Lib.hasPrefix (toAt l q) [47] with
              | true =>
                have := ih 0 (names (toAt l q) ++ r) (k + 1) H.pos H.root (by omega) (hmu2 _)
                rw [H.rootP] at this
                exact this
              | false =>
                exact ih p (names (toAt l q) ++ r) (k + 1) hp hk (by omega) (hmu2 _)
end Go.Proofs.YthkpcafbfgfjpaaDoor
