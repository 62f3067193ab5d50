
/-
  Layer 6's reference: Find and Path.
-/
import Derived.Test.YthkpcafbfgfjpaaDoorFsQe
set_option linter.unusedVariables false
namespace Go.Proofs.YthkpcafbfgfjpaaDoor
open Go.RowKit Go.PlainAid
/-- The number of the first node of a path, from number k on; -1: there is none. -/
def firstN (p : List UInt8) : List Nd → Nat → Int
  | [], _ => -1
  | n :: t, k => if n.path.data.toList = p then ((k + 1 : Nat) : Int) else firstN p t (k + 1)
def refFind (L : List Nd) (p : List UInt8) : Int := if p = [47] then 0 else firstN p L 0
theorem firstN_is (p : List UInt8) : ∀ (L : List Nd) (k : Nat), firstN p L k = if isIn (pathsOf L) p then ((k + 1 + numOf (pathsOf L) p : Nat) : Int) else -1
  | [], k => by simp [firstN, isIn, pathsOf]
  | n :: t, k => by
    have hps : pathsOf (n :: t) = n.path.data.toList :: pathsOf t := rfl
    rw [firstN, hps]
    by_cases h : n.path.data.toList = p
    · rw [if_pos h]
      have e : (n.path.data.toList :: pathsOf t).idxOf? p = some 0 := by simp [List.idxOf?_cons, h]
      simp [isIn, numOf, e]
    · rw [if_neg h, firstN_is p t (k + 1)]
      have e : (n.path.data.toList :: pathsOf t).idxOf? p = ((pathsOf t).idxOf? p).map (· + 1) := by simp [List.idxOf?_cons, h]
      unfold isIn numOf
      rw [e]
      cases (pathsOf t).idxOf? p with
      | none => simp
      | some j => simp; omega
/-- It is the number of the map. -/
theorem refFind_is (L : List Nd) (p : List UInt8) : refFind L p = if isIn (pathsOf (rootN :: L)) p then (numOf (pathsOf (rootN :: L)) p : Int) else -1 := by
  have hps : pathsOf (rootN :: L) = [47] :: pathsOf L := rfl
  unfold refFind
  rw [hps]
  by_cases h : p = [47]
  · subst h
    simp [isIn, numOf, List.idxOf?_cons]
  · rw [if_neg h, firstN_is]
    have e : ([47] :: pathsOf L).idxOf? p = ((pathsOf L).idxOf? p).map (· + 1) := by simp [List.idxOf?_cons, Ne.symm h]
    unfold isIn numOf
    rw [e]
    cases (pathsOf L).idxOf? p with
    | none => simp
    | some j => simp; omega
set_option maxHeartbeats 1000000 in
theorem ref6_Find (w : World) (a : Option Addr) (cap : Nat) (L : List Nd) (hlc : L.length ≤ cap) (hcm : cap ≤ maxLen) (hl : L.length ≤ 400) (h : NdsAt w a L) (p : ByteArray) :
    Calls Tryd.prog 21 #[.slice a L.length cap, .string p] w fun e w' => e = .returned (.int .i64 (refFind L p.data.toList)) ∧ w = w' := by
  have HN := hide h
  have hcap2 : cap ≤ 9223372036854775807 := by unfold maxLen at hcm; omega
  have hroot := eq_root p
  clear h hcm
  unfold refFind
  by_cases hp : p.data.toList = [47]
  · rw [if_pos hp]
    rw [show decide (p.data.toList = [47]) = true from decide_eq_true hp] at hroot
    clear hp
    go_enter Tryd.func21, Tryd.ntmps21
    go_wp2
    go_ret
    exact ⟨rfl, rfl⟩
  rw [if_neg hp]
  rw [show decide (p.data.toList = [47]) = false from decide_eq_false hp] at hroot
  obtain ⟨R, hR⟩ : ∃ R, firstN p.data.toList L 0 = R := ⟨_, rfl⟩
  have HR0 : Hid (R = firstN p.data.toList (L.drop 0) 0) := by rw [Hid, ← hR]; rfl
  rw [hR]
  clear hp hR
  go_enter Tryd.func21, Tryd.ntmps21
  go_wp2
  go_loopw [5] (fun v5 wr => wr = w ∧ ∃ i : Nat, i ≤ L.length ∧ v5 = .int .i64 i ∧ Hid (R = firstN p.data.toList (L.drop i) i)) (fun v5 _ => L.length - (intOf v5).toNat)
  case atStart => exact ⟨rfl, 0, by omega, rfl, HR0⟩
  case round =>
    obtain ⟨rfl, i, hi, rfl, HR⟩ := hrel
    by_cases hlt : i < L.length
    · have hltI : (i : Int) < (L.length : Int) := by omega
      obtain ⟨y, o, rfl, hI⟩ : ∃ y o, a = some ⟨y, o, none⟩ ∧ ∀ i (h : i < L.length), IsNd wr y (o + i * 4) L[i] := by
        rcases HN.out.at_ with e | e
        · rw [e] at hlt; simp at hlt
        · exact e
      have k0 := (hI i hlt).c0
      have hs := HR.out
      rw [List.drop_eq_getElem_cons hlt, firstN] at hs
      clear hI HR
      generalize L[i].path = q at *
      by_cases hq : q.data.toList = p.data.toList
      · rw [if_pos hq] at hs
        have hqb : (q.toList == p.toList) = true := by rw [tl, tl]; simpa using hq
        have HS := hide hs
        clear hs hq
        go_wp2
        go_ret
        exact ⟨by rw [HS.out]; go_num, rfl⟩
      · rw [if_neg hq] at hs
        have hqb : (q.toList == p.toList) = false := by rw [tl, tl]; simpa using hq
        have HS := hide hs
        clear hs hq
        go_wp2
        go_roundw
        case rel => exact ⟨trivial, i + 1, by omega, by go_num, HS⟩
        case measure => simp [intOf]; omega
    · have hltI : ¬ (i : Int) < (L.length : Int) := by omega
      have hs := HR.out
      rw [List.drop_of_length_le (by omega), firstN] at hs
      subst hs
      clear HR HR0
      go_wp2
      go_ret
      exact ⟨rfl, rfl⟩
end Go.Proofs.YthkpcafbfgfjpaaDoor
