
/-
  Layer 18 (conf): the reference's find and Expand.
-/
import Derived.Test.YtmcefflgbliehaaDoorCfV
import Derived.Test.YtmcefflgbliehaaDoorPathG
set_option linter.unusedVariables false
namespace Go.Proofs.YtmcefflgbliehaaDoor
open Go.RowKit Go.PlainAid Go.Sort
theorem getD_some {l : List UInt8} {k : Nat} {c : UInt8} (h : k < l.length) (hc : l.getD k 0 = c) : l[k]? = some c := by
  rw [List.getD, List.getElem?_eq_getElem h] at hc
  rw [List.getElem?_eq_getElem h]
  simpa using hc
set_option maxHeartbeats 1000000 in
theorem ref18_find (s : ByteArray) (c : UInt8) (w : World) (hs : s.size ≤ 1000000000) :
    Calls Tryd.prog 25 #[.string s, .int .u8 c.toNat] w fun e w' => e = .returned (.int .i64 (Lib.index s.data.toList [c])) ∧ w = w' := by
  obtain ⟨A, hA⟩ : ∃ A, Lib.index s.data.toList [c] = A := ⟨_, rfl⟩
  rw [hA]
  have HA := hide hA
  have hcl := c.toNat_lt
  clear hA
  go_enter Tryd.func25, Tryd.ntmps25
  go_wp2
  go_loop [5] (fun vi => ∃ k : Nat, vi = .int .i64 k ∧ k ≤ s.size ∧ Hid (∀ j, j < k → s.data.toList[j]? ≠ some c)) (fun vi => s.size - (intOf vi).toNat)
  case atStart => exact ⟨0, rfl, by omega, fun j hj => by omega⟩
  case round =>
    obtain ⟨k, rfl, hk, HP⟩ := hrel
    by_cases hlt : k < s.size
    · have hltI : (k : Int) < (s.size : Int) := by omega
      obtain ⟨d, hd⟩ : ∃ d, s[k]'hlt = d := ⟨_, rfl⟩
      have HD : Hid (s.data.toList[k]? = some d) := getD_some (by rw [← size_list]; exact hlt) (by rw [← get_list s k hlt, hd])
      have hdl := d.toNat_lt
      by_cases he : d = c
      · subst he
        have HR : Hid ((k : Int) = A) := by rw [Hid, ← HA.out, index_at d _ k HD.out HP.out]
        go_wp2
        go_ret
        exact ⟨by rw [← HR.out]; rfl, rfl⟩
      · have hne : ((d.toNat : Int) == (c.toNat : Int)) = false := by
          have : d.toNat ≠ c.toNat := fun h => he (UInt8.toNat_inj.1 h)
          simp; omega
        have hne2 : ¬ (d.toNat : Int) = (c.toNat : Int) := by simpa using hne
        have HP2 : Hid (∀ j, j < k + 1 → s.data.toList[j]? ≠ some c) := fun j hj => by
          by_cases h : j = k
          · subst h; rw [HD.out]; intro h; injection h with h; exact he h
          · exact HP.out j (by omega)
        go_wp2
        go_round
        case rel => exact ⟨k + 1, by go_num, by omega, HP2⟩
        case measure => simp [intOf]; omega
    · have hltI : ¬ (k : Int) < (s.size : Int) := by omega
      have HR : Hid (-1 = A) := by
        rw [Hid, ← HA.out, index_no]
        intro j hj
        have : j < s.data.toList.length := (List.getElem?_eq_some_iff.1 hj).1
        exact HP.out j (by rw [← size_list] at this; omega) hj
      go_wp2
      go_ret
      exact ⟨by rw [← HR.out]; rfl, rfl⟩
end Go.Proofs.YtmcefflgbliehaaDoor
