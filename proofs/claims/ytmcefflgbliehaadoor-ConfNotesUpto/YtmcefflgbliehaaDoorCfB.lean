
/-
  Layer 18 (conf): the small questions about bytes: plain, inName, isName, between, meaning's words.
-/
import Derived.Test.YtmcefflgbliehaaDoorCfA
import Derived.Test.YtmcefflgbliehaaDoorShelf
import Derived.Test.YtmcefflgbliehaaDoorShelfT
import Derived.Test.YtmcefflgbliehaaDoorPathK
set_option linter.unusedVariables false
namespace Go.Proofs.YtmcefflgbliehaaDoor
open Go.RowKit Go.PlainAid Go.Sort
set_option maxHeartbeats 1000000 in
theorem conf_inName (c : UInt8) (w : World) : Calls Tryd.prog 94 #[.int .u8 c.toNat] w fun e w' => e = .returned (.bool (inN c)) ∧ w' = w := by
  have hc := c.toNat_lt
  unfold inN
  generalize c.toNat = n at *
  have h1 : n < 45 ∨ n = 45 ∨ n = 46 ∨ n = 47 ∨ (48 ≤ n ∧ n ≤ 57) ∨ (58 ≤ n ∧ n ≤ 64) ∨ (65 ≤ n ∧ n ≤ 90) ∨ (91 ≤ n ∧ n ≤ 94) ∨ n = 95 ∨ n = 96 ∨ (97 ≤ n ∧ n ≤ 122) ∨ 123 ≤ n := by omega
  rcases h1 with h | rfl | rfl | rfl | ⟨h, h'⟩ | ⟨h, h'⟩ | ⟨h, h'⟩ | ⟨h, h'⟩ | rfl | rfl | ⟨h, h'⟩ | h
  all_goals
    go_enter Tryd.func94, Tryd.ntmps94
    go_wp2
    go_ret
    refine ⟨congrArg (fun b => Ending.returned (Value.bool b)) (?_ : _ = _), rfl⟩
    first | rfl | (rw [Bool.eq_iff_iff]; simp; done) | (rw [Bool.eq_iff_iff]; simp; omega)
/-- The first byte of this kind among the blanks. -/
def ib (c : UInt8) : Int := Lib.indexByte [32, 9, 13] c
theorem ib_lt (c : UInt8) : (ib c < 0) = (bl c = false) := by
  unfold ib bl
  simp only [Lib.indexByte]
  by_cases h1 : c = 32
  · subst h1; decide
  · by_cases h2 : c = 9
    · subst h2; decide
    · by_cases h3 : c = 13
      · subst h3; decide
      · have e1 : ((32 : UInt8) == c) = false := by simpa using fun e => h1 e.symm
        have e2 : ((9 : UInt8) == c) = false := by simpa using fun e => h2 e.symm
        have e3 : ((13 : UInt8) == c) = false := by simpa using fun e => h3 e.symm
        simp [e1, e2, e3, h1, h2, h3]
theorem lib_IB (c : UInt8) (w : World) : Calls Tryd.prog 65 #[.string ⟨#[32, 9, 13]⟩, .int .u8 c.toNat] w fun e w' => e = .returned (.int .i64 (ib c)) ∧ w = w' := by
  refine (Tryd.strings_IndexByte ⟨#[32, 9, 13]⟩ (c.toNat : Int) w).mono ?_
  rintro e w' ⟨rfl, rfl⟩
  exact ⟨by simp [ib], rfl⟩
set_option maxHeartbeats 1000000 in
theorem conf_plain (s : ByteArray) (w : World) (hs : s.size ≤ 1000000000) :
    Calls Tryd.prog 40 #[.string s] w fun e w' => e = .returned (.bool (plainC s.data.toList)) ∧ w' = w := by
  obtain ⟨A, hA⟩ : ∃ A, plainC s.data.toList = A := ⟨_, rfl⟩
  rw [hA]
  have HA : Hid (s.data.toList.all plB = A) := hA
  clear hA
  go_enter Tryd.func40, Tryd.ntmps40
  go_wp2
  go_loop [6, 3] (fun vi _ => ∃ k : Nat, vi = .int .i64 k ∧ k ≤ s.size ∧ Hid ((s.data.toList.take k).all plB = true)) (fun vi _ => s.size - (intOf vi).toNat)
  case atStart => exact ⟨0, rfl, by omega, by simp [Hid]⟩
  case round =>
    obtain ⟨k, rfl, hk, HP⟩ := hrel
    by_cases hlt : k < s.size
    · have hltI : (k : Int) < (s.size : Int) := by omega
      obtain ⟨c, hc⟩ : ∃ c, s[k]'hlt = c := ⟨_, rfl⟩
      have HC : Hid (s.data.toList.getD k 0 = c) := by rw [Hid, ← get_list s k hlt, hc]
      have hcl := c.toNat_lt
      have hI := fun w => lib_IB c w
      have hib := ib_lt c
      have HB : Hid (plB c = (bl c || (decide (32 ≤ c.toNat) && decide (c.toNat ≤ 126)))) := rfl
      cases hb : bl c with
      | true =>
        have q0 : ¬ ib c < 0 := by rw [hib, hb]; simp
        have HT : Hid (plB c = true) := by rw [Hid, HB.out, hb]; rfl
        clear hib hb
        generalize ib c = z at *
        go_wp2_with (go_at_call 65; refine (hI _).mono ?_; rintro e w1 ⟨rfl, rfl⟩)
        go_round
        case rel => exact ⟨k + 1, by go_num, by omega, by rw [Hid, all_take_snoc plB _ k (by rw [← size_list]; exact hlt), HP.out, HC.out, HT.out]; rfl⟩
        case measure => simp [intOf]; omega
      | false =>
        have q0 : ib c < 0 := by rw [hib, hb]
        have HB' : Hid (plB c = (decide (32 ≤ c.toNat) && decide (c.toNat ≤ 126))) := by rw [Hid, HB.out, hb]; rfl
        clear hib hb HB
        generalize ib c = z at *
        have hcase : (c.toNat : Int) < 32 ∨ (¬ (c.toNat : Int) < 32 ∧ 126 < (c.toNat : Int)) ∨ (¬ (c.toNat : Int) < 32 ∧ ¬ 126 < (c.toNat : Int)) := by omega
        rcases hcase with q1 | ⟨q1, q2⟩ | ⟨q1, q2⟩
        · have HF : Hid (s.data.toList.all plB = false) := all_bad plB _ k (by rw [← size_list]; exact hlt) (by rw [HC.out, HB'.out]; simp; omega)
          go_wp2_with (go_at_call 65; refine (hI _).mono ?_; rintro e w1 ⟨rfl, rfl⟩)
          go_ret
          exact ⟨by rw [show A = false from HA.out.symm.trans HF.out]; rfl, rfl⟩
        · have HF : Hid (s.data.toList.all plB = false) := all_bad plB _ k (by rw [← size_list]; exact hlt) (by rw [HC.out, HB'.out]; simp; omega)
          go_wp2_with (go_at_call 65; refine (hI _).mono ?_; rintro e w1 ⟨rfl, rfl⟩)
          go_ret
          exact ⟨by rw [show A = false from HA.out.symm.trans HF.out]; rfl, rfl⟩
        · have HT : Hid (plB c = true) := by rw [Hid, HB'.out]; simp; omega
          go_wp2_with (go_at_call 65; refine (hI _).mono ?_; rintro e w1 ⟨rfl, rfl⟩)
          go_round
          case rel => exact ⟨k + 1, by go_num, by omega, by rw [Hid, all_take_snoc plB _ k (by rw [← size_list]; exact hlt), HP.out, HC.out, HT.out]; rfl⟩
          case measure => simp [intOf]; omega
    · have hltI : ¬ (k : Int) < (s.size : Int) := by omega
      have hpe : k = s.size := by omega
      have HF : Hid (s.data.toList.all plB = true) := by have := HP.out; rwa [hpe, size_list, List.take_length] at this
      clear hpe
      go_wp2
      go_ret
      exact ⟨by rw [show A = true from HA.out.symm.trans HF.out]; rfl, rfl⟩
theorem empty_list (s : ByteArray) : s.toList.isEmpty = s.data.toList.isEmpty := by rw [Lib.toList_data]
set_option maxHeartbeats 1000000 in
theorem conf_isName (s : ByteArray) (w : World) (hs : s.size ≤ 1000000000) :
    Calls Tryd.prog 75 #[.string s] w fun e w' => e = .returned (.bool (nameC s.data.toList)) ∧ w' = w := by
  obtain ⟨A, hA⟩ : ∃ A, nameC s.data.toList = A := ⟨_, rfl⟩
  rw [hA]
  have HA : Hid ((s.data.toList.all inN && (s.data.toList != [] && decide (s.data.toList.length ≤ 256))) = A) := hA
  clear hA
  go_enter Tryd.func75, Tryd.ntmps75
  go_wp2
  go_loop [6, 3] (fun vi _ => ∃ k : Nat, vi = .int .i64 k ∧ k ≤ s.size ∧ Hid ((s.data.toList.take k).all inN = true)) (fun vi _ => s.size - (intOf vi).toNat)
  case atStart => exact ⟨0, rfl, by omega, by simp [Hid]⟩
  case round =>
    obtain ⟨k, rfl, hk, HP⟩ := hrel
    by_cases hlt : k < s.size
    · have hltI : (k : Int) < (s.size : Int) := by omega
      obtain ⟨c, hc⟩ : ∃ c, s[k]'hlt = c := ⟨_, rfl⟩
      have HC : Hid (s.data.toList.getD k 0 = c) := by rw [Hid, ← get_list s k hlt, hc]
      have hI := fun w => conf_inName c w
      cases hb : inN c with
      | true =>
        rw [hb] at hI
        have HT : Hid (inN c = true) := hb
        clear hb
        go_wp2_with (go_at_call 94; refine (hI _).mono ?_; rintro e w1 ⟨rfl, rfl⟩)
        go_round
        case rel => exact ⟨k + 1, by go_num, by omega, by rw [Hid, all_take_snoc inN _ k (by rw [← size_list]; exact hlt), HP.out, HC.out, HT.out]; rfl⟩
        case measure => simp [intOf]; omega
      | false =>
        rw [hb] at hI
        have HF : Hid (s.data.toList.all inN = false) := all_bad inN _ k (by rw [← size_list]; exact hlt) (by rw [HC.out]; exact hb)
        clear hb
        go_wp2_with (go_at_call 94; refine (hI _).mono ?_; rintro e w1 ⟨rfl, rfl⟩)
        go_ret
        exact ⟨by rw [show A = false by rw [← HA.out, HF.out]; rfl]; rfl, rfl⟩
    · have hltI : ¬ (k : Int) < (s.size : Int) := by omega
      have hpe : k = s.size := by omega
      have HF : Hid (s.data.toList.all inN = true) := by have := HP.out; rwa [hpe, size_list, List.take_length] at this
      clear hpe
      have HL : Hid (s.data.toList.length = s.size) := (size_list s).symm
      have he := empty_list s
      cases hz : s.data.toList.isEmpty with
      | true =>
        rw [hz] at he
        have he2 : s.toList = [] := List.isEmpty_iff.1 he
        have HZ : Hid (A = false) := by rw [Hid, ← HA.out, List.isEmpty_iff.1 hz]; rfl
        clear hz
        go_wp2
        go_ret
        exact ⟨by rw [HZ.out]; rfl, rfl⟩
      | false =>
        rw [hz] at he
        have he2 : ¬ s.toList = [] := fun e => by rw [e] at he; cases he
        have HN : Hid ((s.data.toList != []) = true) := by
          unfold Hid
          cases h : s.data.toList with
          | nil => rw [h] at hz; cases hz
          | cons a b => rfl
        by_cases h256 : s.size ≤ 256
        · have hI : (s.size : Int) ≤ 256 := by omega
          have HZ : Hid (A = true) := by rw [Hid, ← HA.out, HF.out, HN.out, HL.out]; simpa using h256
          clear hz
          go_wp2
          go_ret
          exact ⟨by rw [HZ.out]; rfl, rfl⟩
        · have hI : ¬ (s.size : Int) ≤ 256 := by omega
          have HZ : Hid (A = false) := by rw [Hid, ← HA.out, HF.out, HN.out, HL.out]; simpa using h256
          clear hz
          go_wp2
          go_ret
          exact ⟨by rw [HZ.out]; rfl, rfl⟩
theorem tx_eq (l m : List UInt8) : ((tx l).toList == (tx m).toList) = (l == m) := by
  rw [Lib.toList_data, Lib.toList_data, data_tx, data_tx]
set_option maxHeartbeats 1000000 in
theorem conf_between (l : List UInt8) (w : World) (hs : l.length ≤ 1000000000) :
    Calls Tryd.prog 77 #[.string (tx l)] w fun e w' => e = .returned (.string (tx (betwC l))) ∧ w' = w := by
  have hH := fun w => Tryd.strings_HasSuffix (tx l) (tx linksN) w (by rw [tx_size]; omega)
  rw [data_tx, data_tx] at hH
  unfold betwC
  cases hz : (l == spacesN) with
  | true =>
    have he2 : l = spacesN := by simpa using hz
    rw [if_pos (.inl he2)]
    unfold spacesN at he2 hz
    clear hH
    unfold tx
    go_enter Tryd.func77, Tryd.ntmps77
    go_wp2
    go_ret
    exact ⟨rfl, rfl⟩
  | false =>
    have hne : ¬ l = spacesN := by simpa using hz
    cases hy : Lib.hasSuffix l linksN with
    | true =>
      rw [hy] at hH
      rw [if_pos (.inr rfl)]
      unfold spacesN at hz hne
      unfold linksN tx at hH
      unfold tx
      go_enter Tryd.func77, Tryd.ntmps77
      go_wp2_with (go_at_call 95; refine (hH _).mono ?_; rintro e w1 ⟨rfl, rfl⟩)
      go_ret
      exact ⟨rfl, rfl⟩
    | false =>
      rw [hy] at hH
      rw [if_neg (by simp [hne])]
      unfold spacesN at hz hne
      unfold linksN tx at hH
      unfold tx
      go_enter Tryd.func77, Tryd.ntmps77
      go_wp2_with (go_at_call 95; refine (hH _).mono ?_; rintro e w1 ⟨rfl, rfl⟩)
      go_ret
      exact ⟨rfl, rfl⟩
end Go.Proofs.YtmcefflgbliehaaDoor
