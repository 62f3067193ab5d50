
/-
  Layer 18 (conf): the reference's blank and Trim.
-/
import Derived.Test.YtmcefflgbliehaaDoorCfZ
import Derived.Test.YtmcefflgbliehaaDoorCfX
import Derived.Test.YtmcefflgbliehaaDoorCfNm
set_option linter.unusedVariables false
namespace Go.Proofs.YtmcefflgbliehaaDoor
open Go.RowKit Go.PlainAid Go.Sort
theorem u8_int (c k : UInt8) : (c == k) = ((c.toNat : Int) == (k.toNat : Int)) := by
  rw [Bool.eq_iff_iff, beq_iff_eq, beq_iff_eq]
  constructor
  · rintro rfl; rfl
  · intro h; exact UInt8.toNat_inj.1 (by omega)
theorem bl_int (c : UInt8) : bl c = (((c.toNat : Int) == 32) || ((c.toNat : Int) == 9) || ((c.toNat : Int) == 13)) := by
  unfold bl
  rw [u8_int c 32, u8_int c 9, u8_int c 13]
  rfl
theorem ref18_blank (c : UInt8) (w : World) : Calls Tryd.prog 24 #[.int .u8 c.toNat] w fun e w' => e = .returned (.bool (bl c)) ∧ w = w' := by
  have hcl := c.toNat_lt
  have hb := bl_int c
  by_cases h1 : (c.toNat : Int) = 32
  · have e : bl c = true := by rw [hb, h1]; rfl
    rw [e]
    clear hb e
    go_enter Tryd.func24, Tryd.ntmps24
    go_wp2
    go_ret
    exact ⟨rfl, rfl⟩
  · by_cases h2 : (c.toNat : Int) = 9
    · have e : bl c = true := by rw [hb, h2]; rfl
      rw [e]
      clear hb e
      go_enter Tryd.func24, Tryd.ntmps24
      go_wp2
      go_ret
      exact ⟨rfl, rfl⟩
    · by_cases h3 : (c.toNat : Int) = 13
      · have e : bl c = true := by rw [hb, h3]; rfl
        rw [e]
        clear hb e
        go_enter Tryd.func24, Tryd.ntmps24
        go_wp2
        go_ret
        exact ⟨rfl, rfl⟩
      · have n1 : ((c.toNat : Int) == 32) = false := by simpa using h1
        have n2 : ((c.toNat : Int) == 9) = false := by simpa using h2
        have n3 : ((c.toNat : Int) == 13) = false := by simpa using h3
        have e : bl c = false := by rw [hb, n1, n2, n3]; rfl
        rw [e]
        clear hb e
        go_enter Tryd.func24, Tryd.ntmps24
        go_wp2
        go_ret
        exact ⟨rfl, rfl⟩
theorem get_getD {l : List UInt8} {j : Nat} (h : j < l.length) : l[j]? = some (l.getD j 0) := by
  rw [List.getD, List.getElem?_eq_getElem h]; rfl
theorem trim_cut (l : List UInt8) (k t : Nat) (hk : k ≤ t) (ht : t ≤ l.length) (h1 : ∀ j, j < k → bl (l.getD j 0) = true) (h2 : ∀ j, t ≤ j → j < l.length → bl (l.getD j 0) = true)
    (h3 : k < t → bl (l.getD k 0) = false) (h4 : k < t → bl (l.getD (t - 1) 0) = false) : trimC l = (l.take t).drop k := by
  have e : l = l.take k ++ (l.take t).drop k ++ l.drop t := by
    have h : (l.take t).take k = l.take k := by rw [List.take_take, Nat.min_eq_left hk]
    rw [← h, List.take_append_drop, List.take_append_drop]
  have hm : trimC (l.take k ++ (l.take t).drop k ++ l.drop t) = (l.take t).drop k := by
    refine trim_mid _ _ _ (fun c hc => ?_) (fun c hc => ?_) (fun x hx => ?_) (fun x hx => ?_)
    · obtain ⟨j, hj⟩ := List.mem_iff_getElem?.1 hc
      rw [List.getElem?_take] at hj
      split at hj
      · rename_i hjk
        rw [get_getD (by omega)] at hj
        injection hj with hj
        rw [← hj]; exact h1 j hjk
      · cases hj
    · obtain ⟨j, hj⟩ := List.mem_iff_getElem?.1 hc
      rw [List.getElem?_drop] at hj
      have hlt := (List.getElem?_eq_some_iff.1 hj).1
      rw [get_getD hlt] at hj
      injection hj with hj
      rw [← hj]; exact h2 _ (by omega) hlt
    · rw [List.head?_drop, List.getElem?_take] at hx
      split at hx
      · rename_i hkt
        rw [get_getD (by omega)] at hx
        injection hx with hx
        rw [← hx]; exact h3 hkt
      · cases hx
    · have hlen : ((l.take t).drop k).length = t - k := by rw [List.length_drop, List.length_take, Nat.min_eq_left ht]
      have hkt : k < t := by
        rcases Nat.lt_or_ge k t with h | h
        · exact h
        · have : (l.take t).drop k = [] := List.length_eq_zero_iff.1 (by omega)
          rw [this] at hx; cases hx
      rw [List.getLast?_eq_getElem?, hlen, List.getElem?_drop, List.getElem?_take, if_pos (by omega), show k + (t - k - 1) = t - 1 by omega, get_getD (by omega)] at hx
      injection hx with hx
      rw [← hx]; exact h4 hkt
  rw [← e] at hm
  exact hm
set_option maxHeartbeats 2000000 in
set_option maxRecDepth 20000 in
theorem ref18_Trim (s : ByteArray) (w : World) (hs : s.size ≤ 1000000000) :
    Calls Tryd.prog 26 #[.string s] w fun e w' => e = .returned (.string (tx (trimC s.data.toList))) ∧ w = w' := by
  have HC : Hid (∀ k t, k ≤ t → t ≤ s.size → (∀ j, j < k → bl (s.data.toList.getD j 0) = true) → (∀ j, t ≤ j → j < s.size → bl (s.data.toList.getD j 0) = true) → (k < t → bl (s.data.toList.getD k 0) = false) → (k < t → bl (s.data.toList.getD (t - 1) 0) = false) → s.extract k t = tx (trimC s.data.toList)) := by
    intro k t h0 h1 h2 h3 h4 h5
    rw [trim_cut s.data.toList k t h0 (by rw [← size_list]; exact h1) h2 (fun j a b => h3 j a (by rw [size_list]; exact b)) h4 h5, extract_mid, List.drop_take]
  generalize tx (trimC s.data.toList) = V at *
  have HBK := hide (fun (c : UInt8) w => ref18_blank c w)
  go_enter Tryd.func26, Tryd.ntmps26
  go_wp2
  go_loop [3] (fun vi => ∃ k : Nat, vi = .int .i64 k ∧ k ≤ s.size ∧ Hid (∀ j, j < k → bl (s.data.toList.getD j 0) = true)) (fun vi => s.size - (intOf vi).toNat)
  case atStart => exact ⟨0, rfl, by omega, fun j hj => by omega⟩
  case round =>
    obtain ⟨k, rfl, hk, HP⟩ := hrel
    have hex : (∃ c, ∃ h : k < s.size, s[k]'h = c ∧ bl c = true) ∨ (∃ c, ∃ h : k < s.size, s[k]'h = c ∧ bl c = false) ∨ ¬ k < s.size := by
      by_cases h : k < s.size
      · cases e : bl (s[k]'h)
        · exact .inr (.inl ⟨_, h, rfl, e⟩)
        · exact .inl ⟨_, h, rfl, e⟩
      · exact .inr (.inr h)
    have hkI0 : (0 : Int) ≤ (k : Int) := by omega
    rcases hex with ⟨c, hlt, hc, hb⟩ | ⟨c, hlt, hc, hb⟩ | hlt
    · have hltI : (k : Int) < (s.size : Int) := by omega
      have HD : Hid (s.data.toList.getD k 0 = c) := by rw [Hid, ← get_list s k hlt, hc]
      have hbk := HBK.out c w
      rw [hb] at hbk
      have HN : Hid (∀ j, j < k + 1 → bl (s.data.toList.getD j 0) = true) := fun j hj => by
        by_cases e : j = k
        · subst e; rw [HD.out, hb]
        · exact HP.out j (by omega)
      clear hb
      go_wp2_with (go_at_call 24; refine hbk.mono ?_; rintro e w1 ⟨rfl, rfl⟩)
      go_round
      case rel => exact ⟨k + 1, by go_num, by omega, HN⟩
      case measure => simp [intOf]; omega
    · have hltI : (k : Int) < (s.size : Int) := by omega
      have HK : Hid (∀ t, k < t → t ≤ s.size → bl (s.data.toList.getD k 0) = false) := fun t _ _ => by rw [← get_list s k hlt, hc, hb]
      have hbk := HBK.out c w
      rw [hb] at hbk
      clear hb
      go_wp2_with (go_at_call 24; refine hbk.mono ?_; rintro e w1 ⟨rfl, rfl⟩)
      go_loop [4] (fun vi => ∃ t : Nat, vi = .int .i64 t ∧ k ≤ t ∧ t ≤ s.size ∧ Hid (∀ j, t ≤ j → j < s.size → bl (s.data.toList.getD j 0) = true)) (fun vi => (intOf vi).toNat)
      case atStart => exact ⟨s.size, rfl, hk, by omega, fun j h1 h2 => by omega⟩
      case round =>
        obtain ⟨t, rfl, hkt, hts, HQ⟩ := hrel
        have htI0 : (t : Int) ≤ (s.size : Int) := by omega
        have hktI0 : (k : Int) ≤ (t : Int) := by omega
        by_cases hlt2 : k < t
        · have hltI2 : (k : Int) < (t : Int) := by omega
          have hw : IntKind.i64.wrap ((t : Int) - 1) = ((t - 1 : Nat) : Int) := by rw [wrap_i64_is]; omega
          have hi0 : (0 : Int) ≤ ((t - 1 : Nat) : Int) := by omega
          have hi1 : ((t - 1 : Nat) : Int) < (s.size : Int) := by omega
          have hi2 : t - 1 < s.size := by omega
          obtain ⟨d, hd⟩ : ∃ d, s[t - 1]'hi2 = d := ⟨_, rfl⟩
          have HD2 : Hid (s.data.toList.getD (t - 1) 0 = d) := by rw [Hid, ← get_list s (t - 1) hi2, hd]
          have hbk2 := HBK.out d w
          cases hb2 : bl d with
          | true =>
            rw [hb2] at hbk2
            have HN : Hid (∀ j, t - 1 ≤ j → j < s.size → bl (s.data.toList.getD j 0) = true) := fun j h1 h2 => by
              by_cases e : j = t - 1
              · subst e; rw [HD2.out, hb2]
              · exact HQ.out j (by omega) h2
            clear hb2
            go_wp2_with (go_at_call 24; refine hbk2.mono ?_; rintro e w1 ⟨rfl, rfl⟩)
            go_round
            case rel => exact ⟨t - 1, by go_num, by omega, by omega, HN⟩
            case measure => simp [intOf]; omega
          | false =>
            rw [hb2] at hbk2
            have HX : Hid (s.extract k t = V) := HC.out k t hkt hts HP.out HQ.out (fun _ => HK.out t hlt2 hts) (fun _ => by rw [HD2.out, hb2])
            clear hb2
            go_wp2_with (go_at_call 24; refine hbk2.mono ?_; rintro e w1 ⟨rfl, rfl⟩)
            go_ret
            exact ⟨by rw [← HX.out]; rfl, rfl⟩
        · have hltI2 : ¬ (k : Int) < (t : Int) := by omega
          have HX : Hid (s.extract k t = V) := HC.out k t hkt hts HP.out HQ.out (fun h => absurd h hlt2) (fun h => absurd h hlt2)
          go_wp2
          go_ret
          exact ⟨by rw [← HX.out]; rfl, rfl⟩
    · have hltI : ¬ (k : Int) < (s.size : Int) := by omega
      have HK : Hid (∀ t, k < t → t ≤ s.size → bl (s.data.toList.getD k 0) = false) := fun t _ _ => by omega
      go_wp2
      go_loop [4] (fun vi => ∃ t : Nat, vi = .int .i64 t ∧ k ≤ t ∧ t ≤ s.size ∧ Hid (∀ j, t ≤ j → j < s.size → bl (s.data.toList.getD j 0) = true)) (fun vi => (intOf vi).toNat)
      case atStart => exact ⟨s.size, rfl, hk, by omega, fun j h1 h2 => by omega⟩
      case round =>
        obtain ⟨t, rfl, hkt, hts, HQ⟩ := hrel
        have htI0 : (t : Int) ≤ (s.size : Int) := by omega
        have hktI0 : (k : Int) ≤ (t : Int) := by omega
        by_cases hlt2 : k < t
        · have hltI2 : (k : Int) < (t : Int) := by omega
          have hw : IntKind.i64.wrap ((t : Int) - 1) = ((t - 1 : Nat) : Int) := by rw [wrap_i64_is]; omega
          have hi0 : (0 : Int) ≤ ((t - 1 : Nat) : Int) := by omega
          have hi1 : ((t - 1 : Nat) : Int) < (s.size : Int) := by omega
          have hi2 : t - 1 < s.size := by omega
          obtain ⟨d, hd⟩ : ∃ d, s[t - 1]'hi2 = d := ⟨_, rfl⟩
          have HD2 : Hid (s.data.toList.getD (t - 1) 0 = d) := by rw [Hid, ← get_list s (t - 1) hi2, hd]
          have hbk2 := HBK.out d w
          cases hb2 : bl d with
          | true =>
            rw [hb2] at hbk2
            have HN : Hid (∀ j, t - 1 ≤ j → j < s.size → bl (s.data.toList.getD j 0) = true) := fun j h1 h2 => by
              by_cases e : j = t - 1
              · subst e; rw [HD2.out, hb2]
              · exact HQ.out j (by omega) h2
            clear hb2
            go_wp2_with (go_at_call 24; refine hbk2.mono ?_; rintro e w1 ⟨rfl, rfl⟩)
            go_round
            case rel => exact ⟨t - 1, by go_num, by omega, by omega, HN⟩
            case measure => simp [intOf]; omega
          | false =>
            rw [hb2] at hbk2
            have HX : Hid (s.extract k t = V) := HC.out k t hkt hts HP.out HQ.out (fun _ => HK.out t hlt2 hts) (fun _ => by rw [HD2.out, hb2])
            clear hb2
            go_wp2_with (go_at_call 24; refine hbk2.mono ?_; rintro e w1 ⟨rfl, rfl⟩)
            go_ret
            exact ⟨by rw [← HX.out]; rfl, rfl⟩
        · have hltI2 : ¬ (k : Int) < (t : Int) := by omega
          have HX : Hid (s.extract k t = V) := HC.out k t hkt hts HP.out HQ.out (fun h => absurd h hlt2) (fun h => absurd h hlt2)
          go_wp2
          go_ret
          exact ⟨by rw [← HX.out]; rfl, rfl⟩
end Go.Proofs.YtmcefflgbliehaaDoor
