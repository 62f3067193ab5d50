
/-
  Layer 6's reference: clean, and the path of a number.
-/
import Derived.Test.YthkpcafbfgfjpaaDoorFsZa
set_option linter.unusedVariables false
namespace Go.Proofs.YthkpcafbfgfjpaaDoor
open Go.RowKit Go.PlainAid
set_option maxHeartbeats 1000000 in
theorem ref6_clean (s : ByteArray) (w : World) (hs : s.size ≤ 40000) :
    Calls Tryd.prog 33 #[.string s] w fun e w' => e = .returned (.bool (isCl s.data.toList && !decide (s.data.toList = [47]))) ∧ Below w.heap.size w w' := by
  have hC := ref_Clean s w (by omega)
  have hI := isCl_eq s
  have hr := eq_root s
  obtain ⟨b, hb⟩ : ∃ b, isCl s.data.toList = b := ⟨_, rfl⟩
  obtain ⟨r, hr2⟩ : ∃ r, decide (s.data.toList = [47]) = r := ⟨_, rfl⟩
  rw [hb] at hI ⊢
  rw [hr2] at hr ⊢
  clear hb hr2
  generalize clE s.data.toList = E at *
  generalize tx (clT s.data.toList) = T at *
  obtain ⟨b1, hb1⟩ : ∃ b, (E == 0) = b := ⟨_, rfl⟩
  obtain ⟨b2, hb2⟩ : ∃ b, (T.toList == s.toList) = b := ⟨_, rfl⟩
  rw [hb1, hb2] at hI
  subst hI
  cases b1 with
  | false =>
    go_enter Tryd.func33, Tryd.ntmps33
    go_wp2_with fail
    refine hC.mono ?_
    rintro e w1 ⟨rfl, hb⟩
    have HB := hide hb
    clear hC hb
    go_wp2
    go_ret
    exact ⟨rfl, HB.out⟩
  | true =>
    cases b2 with
    | false =>
      go_enter Tryd.func33, Tryd.ntmps33
      go_wp2_with fail
      refine hC.mono ?_
      rintro e w1 ⟨rfl, hb⟩
      have HB := hide hb
      clear hC hb
      go_wp2
      go_ret
      exact ⟨rfl, HB.out⟩
    | true =>
      cases r with
      | false =>
        go_enter Tryd.func33, Tryd.ntmps33
        go_wp2_with fail
        refine hC.mono ?_
        rintro e w1 ⟨rfl, hb⟩
        have HB := hide hb
        clear hC hb
        go_wp2
        go_ret
        exact ⟨rfl, HB.out⟩
      | true =>
        go_enter Tryd.func33, Tryd.ntmps33
        go_wp2_with fail
        refine hC.mono ?_
        rintro e w1 ⟨rfl, hb⟩
        have HB := hide hb
        clear hC hb
        go_wp2
        go_ret
        exact ⟨rfl, HB.out⟩
/-- The path of a number. -/
theorem ref6_Path (w : World) (a : Option Addr) (cap : Nat) (L : List Nd) (hlc : L.length ≤ cap) (hcm : cap ≤ maxLen) (hl : L.length ≤ 400) (h : NdsAt w a L) (m : Nat) (hm : m ≤ L.length) :
    Calls Tryd.prog 10 #[.slice a L.length cap, .int .i64 m] w fun e w' => e = .returned (.string (tx (pathAt (rootN :: L) m))) ∧ w = w' := by
  have hcap2 : cap ≤ 9223372036854775807 := by unfold maxLen at hcm; omega
  by_cases h0 : m = 0
  · subst h0
    have e : tx (pathAt (rootN :: L) 0) = ⟨#[47]⟩ := rfl
    rw [e]
    clear h
    go_enter Tryd.func10, Tryd.ntmps10
    go_wp2
    go_ret
    exact ⟨rfl, rfl⟩
  · obtain ⟨j, rfl⟩ : ∃ j, m = j + 1 := ⟨m - 1, by omega⟩
    have hj : j < L.length := by omega
    obtain ⟨y, o, rfl, hI⟩ : ∃ y o, a = some ⟨y, o, none⟩ ∧ ∀ i (h : i < L.length), IsNd w y (o + i * 4) L[i] := by
      rcases h.at_ with e | e
      · rw [e] at hj; simp at hj
      · exact e
    have k0 := (hI j hj).c0
    have e : tx (pathAt (rootN :: L) (j + 1)) = L[j].path := by
      unfold pathAt
      rw [List.getElem?_cons_succ, List.getElem?_eq_getElem hj]
      exact tx_data _
    rw [e]
    have e1 : ((j + 1 : Nat) : Int) = (j : Int) + 1 := by omega
    rw [e1]
    have hz : (((j : Int) + 1) == 0) = false := by rw [beq_eq_false_iff_ne]; omega
    have e2 : (j : Int) + 1 - 1 = (j : Int) := by omega
    have hjI : (j : Int) < (L.length : Int) := by omega
    clear h hI e e1 h0 hm
    generalize L[j].path = q at *
    go_enter Tryd.func10, Tryd.ntmps10
    go_wp2
    go_ret
    exact ⟨rfl, rfl⟩
end Go.Proofs.YthkpcafbfgfjpaaDoor
