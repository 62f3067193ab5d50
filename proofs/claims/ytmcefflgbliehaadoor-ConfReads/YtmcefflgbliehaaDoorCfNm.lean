
/-
  Layer 18 (conf): the reference's Name and Ends.
-/
import Derived.Test.YtmcefflgbliehaaDoorCfW
set_option linter.unusedVariables false
namespace Go.Proofs.YtmcefflgbliehaaDoor
open Go.RowKit Go.PlainAid Go.Sort
set_option maxHeartbeats 4000000 in
set_option maxRecDepth 20000 in
theorem ref18_Name (s : ByteArray) (w : World) (hs : s.size ≤ 1000000000) :
    Calls Tryd.prog 19 #[.string s] w fun e w' => e = .returned (.bool (nameC s.data.toList)) ∧ w = w' := by
  obtain ⟨A, hA⟩ : ∃ A, nameC s.data.toList = A := ⟨_, rfl⟩
  rw [hA]
  have HA : Hid ((s.data.toList.all inN && (s.data.toList != [] && decide (s.data.toList.length ≤ 256))) = A) := hA
  clear hA
  go_enter Tryd.func19, Tryd.ntmps19
  go_wp2
  go_loop [3, 4] (fun vi _ => ∃ k : Nat, vi = .int .i64 k ∧ k ≤ s.size ∧ Hid ((s.data.toList.take k).all inN = true)) (fun vi _ => s.size - (intOf vi).toNat)
  case atStart => exact ⟨0, rfl, by omega, by simp [Hid]⟩
  case round =>
    obtain ⟨k, rfl, hk, HP⟩ := hrel
    by_cases hlt : k < s.size
    · have hltI : (k : Int) < (s.size : Int) := by omega
      obtain ⟨c, hc⟩ : ∃ c, s[k]'hlt = c := ⟨_, rfl⟩
      have HC : Hid (s.data.toList.getD k 0 = c) := by rw [Hid, ← get_list s k hlt, hc]
      have hcl := c.toNat_lt
      have hin : inN c = ((decide (97 ≤ c.toNat) && decide (c.toNat ≤ 122)) || (decide (65 ≤ c.toNat) && decide (c.toNat ≤ 90)) || (decide (48 ≤ c.toNat) && decide (c.toNat ≤ 57)) || decide (c.toNat = 46) || decide (c.toNat = 95) || decide (c.toNat = 45)) := rfl
      cases hb : inN c with
      | true =>
        have HT : Hid (inN c = true) := hb
        rw [hb] at hin
        have hr : ((97 : Int) ≤ c.toNat ∧ (c.toNat : Int) ≤ 122) ∨ (¬ (97 : Int) ≤ c.toNat ∧ (65 : Int) ≤ c.toNat ∧ (c.toNat : Int) ≤ 90) ∨ (¬ (97 : Int) ≤ c.toNat ∧ ¬ (65 : Int) ≤ c.toNat ∧ (48 : Int) ≤ c.toNat ∧ (c.toNat : Int) ≤ 57) ∨ (c.toNat : Int) = 46 ∨ (c.toNat : Int) = 95 ∨ (c.toNat : Int) = 45 := by
          have := hin.symm
          simp only [Bool.or_eq_true, Bool.and_eq_true, decide_eq_true_eq] at this
          omega
        clear hin hb
        rcases hr with ⟨a1, a2⟩ | ⟨a1, a2, a3⟩ | ⟨a1, a2, a3, a4⟩ | a1 | a1 | a1
        all_goals
          go_wp2
          go_round
          case rel => exact ⟨k + 1, by go_num, by omega, by rw [Hid, all_take_snoc inN _ k (by rw [← size_list]; exact hlt), HP.out, HC.out, HT.out]; rfl⟩
          case measure => simp [intOf]; omega
      | false =>
        have HF : Hid (s.data.toList.all inN = false) := all_bad inN _ k (by rw [← size_list]; exact hlt) (by rw [HC.out]; exact hb)
        rw [hb] at hin
        have hr : ((c.toNat : Int) < 45) ∨ ((c.toNat : Int) = 47) ∨ ((58 : Int) ≤ c.toNat ∧ (c.toNat : Int) ≤ 64) ∨ ((91 : Int) ≤ c.toNat ∧ (c.toNat : Int) ≤ 94) ∨ (c.toNat : Int) = 96 ∨ (123 : Int) ≤ c.toNat := by
          have := hin.symm
          simp only [Bool.or_eq_false_iff, Bool.and_eq_false_iff, decide_eq_false_iff_not] at this
          omega
        clear hin hb
        rcases hr with a1 | a1 | ⟨a1, a2⟩ | ⟨a1, a2⟩ | a1 | a1
        all_goals
          have e1 : ((c.toNat : Int) == 46) = false := by simp; omega
          have e2 : ((c.toNat : Int) == 95) = false := by simp; omega
          have e3 : ((c.toNat : Int) == 45) = false := by simp; omega
          cases hx1 : decide ((c.toNat : Int) ≤ 57) <;> cases hx2 : decide ((c.toNat : Int) ≤ 90) <;> cases hx3 : decide ((c.toNat : Int) ≤ 122)
          all_goals
            have l1 := hx1
            have l2 := hx2
            have l3 := hx3
            simp only [decide_eq_false_iff_not, decide_eq_true_eq] at l1 l2 l3
            first
              | (exfalso; omega)
              | (go_wp2
                 go_ret
                 exact ⟨by rw [show A = false by rw [← HA.out, HF.out]; rfl]; rfl, rfl⟩)
    · have hltI : ¬ (k : Int) < (s.size : Int) := by omega
      have hpe : k = s.size := by omega
      have HF : Hid (s.data.toList.all inN = true) := by have := HP.out; rwa [hpe, size_list, List.take_length] at this
      clear hpe
      have HL : Hid (s.data.toList.length = s.size) := (size_list s).symm
      by_cases h1 : 1 ≤ s.size
      · have h1I : (1 : Int) ≤ (s.size : Int) := by omega
        have HN : Hid ((s.data.toList != []) = true) := by
          unfold Hid
          cases h : s.data.toList with
          | nil => have := HL.out; rw [h] at this; simp at this; omega
          | cons a b => rfl
        by_cases h256 : s.size ≤ 256
        · have hI : (s.size : Int) ≤ 256 := by omega
          have HZ : Hid (A = true) := by rw [Hid, ← HA.out, HF.out, HN.out, HL.out]; simpa using h256
          go_wp2
          go_ret
          exact ⟨by rw [HZ.out]; rfl, rfl⟩
        · have hI : ¬ (s.size : Int) ≤ 256 := by omega
          have HZ : Hid (A = false) := by rw [Hid, ← HA.out, HF.out, HN.out, HL.out]; simpa using h256
          go_wp2
          go_ret
          exact ⟨by rw [HZ.out]; rfl, rfl⟩
      · have h1I : ¬ (1 : Int) ≤ (s.size : Int) := by omega
        have HZ : Hid (A = false) := by
          have : s.data.toList = [] := List.length_eq_zero_iff.1 (by rw [HL.out]; omega)
          rw [Hid, ← HA.out, this]; rfl
        go_wp2
        go_ret
        exact ⟨by rw [HZ.out]; rfl, rfl⟩
theorem suffix_is (l p : List UInt8) : Lib.hasSuffix l p = (decide (p.length ≤ l.length) && (l.drop (l.length - p.length) == p)) := by
  unfold Lib.hasSuffix
  rw [Bool.eq_iff_iff, List.isSuffixOf_iff_suffix, Bool.and_eq_true, decide_eq_true_eq, beq_iff_eq]
  constructor
  · intro h
    exact ⟨h.length_le, (List.suffix_iff_eq_drop.1 h).symm⟩
  · rintro ⟨_, h⟩
    exact List.suffix_iff_eq_drop.2 h.symm
set_option maxHeartbeats 1000000 in
theorem ref18_Ends (s t : ByteArray) (w : World) (hs : s.size ≤ 1000000000) (ht : t.size ≤ 1000000000) :
    Calls Tryd.prog 20 #[.string s, .string t] w fun e w' => e = .returned (.bool (Lib.hasSuffix s.data.toList t.data.toList)) ∧ w = w' := by
  rw [suffix_is, ← size_list, ← size_list]
  by_cases h : t.size ≤ s.size
  · have hI : (t.size : Int) ≤ (s.size : Int) := by omega
    have hsub : (s.size : Int) - (t.size : Int) = ((s.size - t.size : Nat) : Int) := by omega
    have hw : IntKind.i64.wrap ((s.size : Int) - (t.size : Int)) = ((s.size - t.size : Nat) : Int) := by rw [wrap_i64_is]; omega
    have hle : ((s.size - t.size : Nat) : Int) ≤ (s.size : Int) := by omega
    have hex : (s.extract (s.size - t.size) s.size).toList = s.data.toList.drop (s.size - t.size) := by rw [extract_end, Lib.toList_data, data_tx]
    have htl : t.toList = t.data.toList := Lib.toList_data t
    rw [decide_eq_true h, Bool.true_and]
    obtain ⟨R, hR⟩ : ∃ R, (s.data.toList.drop (s.size - t.size) == t.data.toList) = R := ⟨_, rfl⟩
    rw [hR]
    have hq : ((s.extract (s.size - t.size) s.size).toList == t.toList) = R := by rw [hex, htl, hR]
    generalize hm : s.size - t.size = m at *
    clear hex htl hR
    have HQ := hide hq
    have hmI : (m : Int) ≤ (s.size : Int) := by omega
    go_enter Tryd.func20, Tryd.ntmps20
    go_wp2
    go_ret
    exact ⟨by rw [← HQ.out]; rfl, rfl⟩
  · have hI : ¬ (t.size : Int) ≤ (s.size : Int) := by omega
    rw [decide_eq_false h, Bool.false_and]
    go_enter Tryd.func20, Tryd.ntmps20
    go_wp2
    go_ret
    exact ⟨rfl, rfl⟩
end Go.Proofs.YtmcefflgbliehaaDoor
