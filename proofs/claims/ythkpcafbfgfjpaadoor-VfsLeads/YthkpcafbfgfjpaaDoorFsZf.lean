
/-
  Layer 6's reference: nodes of which there is a file system are fine for the walk.
-/
import Derived.Test.YthkpcafbfgfjpaaDoorFsZe
set_option linter.unusedVariables false
namespace Go.Proofs.YthkpcafbfgfjpaaDoor
open Go.RowKit Go.PlainAid
theorem chk_three {p : List UInt8} {k : Int} {dn : Nat} {tt : ByteArray} (h : chkE p k dn tt = 0) : k = 1 ∨ k = 2 ∨ k = 3 := by
  unfold chkE at h
  by_cases a : isCl p = false ∨ p = [47]
  · rw [if_pos a] at h; cases h
  · rw [if_neg a] at h
    by_cases b : fitsB k dn tt = false
    · rw [if_pos b] at h; cases h
    · unfold fitsB at b
      by_cases k1 : k = 1
      · exact .inl k1
      · by_cases k2 : k = 2
        · exact .inr (.inl k2)
        · by_cases k3 : k = 3
          · exact .inr (.inr k3)
          · rw [if_neg k1, if_neg k2, if_neg k3] at b; exact absurd rfl b
theorem fine_of {L : List Nd} (h : newErr L = 0) (ht : ∀ n ∈ L, SmallN n) : Fine (rootN :: L) := by
  obtain ⟨h1, h2, h3, h4⟩ := (newErr_zero L).1 h
  refine ⟨by simp, fun p hp => ?_, fun p hp => ?_, fun p hp => ?_, fun k => toAt_len (fun n hn => ?_) k, rfl, rfl⟩
  · rw [paths_get hp]
    exact (numOf_get h3 (by rw [pathsOf_len]; exact hp)).2
  · rcases at_cases hp with e | ⟨n, hm, _, e⟩
    · subst e; exact .inl rfl
    · rw [e]; exact chk_three (h2 n hm)
  · rcases at_cases hp with e | ⟨n, hm, e, _⟩
    · subst e
      have e2 : upOf (pathAt (rootN :: L) 0) = [47] := by
        show upOf [47] = [47]
        decide
      rw [e2]
      obtain ⟨r1, r2⟩ := root_in (l := L)
      exact ⟨r1, by rw [r2]; rfl⟩
    · rw [e]
      have hd := h4 n hm
      unfold dirB at hd
      rw [Bool.and_eq_true] at hd
      exact ⟨hd.1, eq_of_beq hd.2⟩
  · rcases List.mem_cons.1 hn with e | e
    · rw [e]; decide
    · exact (ht n e).2
/-- The reference's answer to a path. -/
theorem findN_ref {L : List Nd} (h : newErr L = 0) (ht : ∀ n ∈ L, SmallN n) (p : List UInt8) (hc : clE p = 0) : findN (rootN :: L) p = refRun (rootN :: L) (findK p + 1) [47] (names p) 0 := by
  have H := fine_of h ht
  have := refRun_is H (findK p + 1) 0 (names p) 0 H.pos H.root (by omega) (Nat.lt_succ_of_le (findK_mu p))
  rw [H.rootP] at this
  unfold findN
  rw [if_neg (by rw [hc]; simp), this]
end Go.Proofs.YthkpcafbfgfjpaaDoor
