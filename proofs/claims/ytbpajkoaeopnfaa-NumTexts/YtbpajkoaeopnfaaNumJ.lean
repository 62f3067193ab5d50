/-
  The reference's ParseHex keeps its contract: it tells what num.ParseHex tells, of every text; nothing that was there is turned.
-/
import Derived.Test.YtbpajkoaeopnfaaNumI
import Derived.Test.YtbpajkoaeopnfaaDigits3
import Derived.Deep.QuietTactic
import Derived.BigQuiet
set_option linter.unusedVariables false
namespace Go.Proofs.Ytbpajkoaeopnfaa
open Go.RowKit Go.PlainAid

theorem digs_more_fuel (b : Nat) (hb : 2 ≤ b) : ∀ (f k n : Nat), 1 ≤ f → n < b ^ f → digs b (f + k) n = digs b f n
  | 0, k, n, h, _ => by omega
  | f + 1, k, n, _, h => by
    have e : f + 1 + k = (f + k) + 1 := by omega
    rw [e]
    unfold digs
    split
    · rfl
    · rename_i h0
      have hlt : n / b < b ^ f := div_lt_pow (by omega) h
      have hf : 1 ≤ f := by
        cases f with
        | zero => simp only [Nat.pow_zero] at hlt; exact absurd (Nat.lt_one_iff.mp hlt) h0
        | succ f => omega
      rw [digs_more_fuel b hb f k (n / b) hf hlt]
theorem digs_ne (b f n : Nat) (hf : 1 ≤ f) : digs b f n ≠ [] := by
  obtain ⟨g, rfl⟩ : ∃ g, f = g + 1 := ⟨f - 1, by omega⟩
  unfold digs
  split <;> simp
theorem digs_len16 (n : Nat) (h : n ≤ 18446744073709551615) : 1 ≤ (digs 16 20 n).length ∧ (digs 16 20 n).length ≤ 16 := by
  have e : digs 16 20 n = digs 16 16 n := digs_more_fuel 16 (by omega) 16 4 n (by omega) (Nat.lt_of_le_of_lt h (by decide))
  rw [e]
  exact ⟨List.length_pos_iff.mpr (digs_ne _ _ _ (by omega)), digs_len _ _ _⟩
theorem hor_bad (b : Nat) : ∀ (l : List UInt8) (n j : Nat) (c : UInt8), l[j]? = some c → dv b (c.toNat : Int) < 0 → hor b l n = none
  | [], n, j, c, h, _ => by simp at h
  | x :: l, n, 0, c, h, hd => by
    simp at h; subst h
    simp [hor, hd]
  | x :: l, n, j + 1, c, h, hd => by
    simp only [hor]
    split
    · rfl
    · exact hor_bad b l _ j c (by simpa using h) hd
theorem hor_take (b : Nat) (l : List UInt8) (j v : Nat) (c : UInt8) (h : l[j]? = some c) (hv : hor b (l.take j) 0 = some v) (hd : ¬ dv b (c.toNat : Int) < 0) :
    hor b (l.take (j + 1)) 0 = some (v * b + (dv b (c.toNat : Int)).toNat) := by
  rw [List.take_add_one, h, hor_append, hv]
  simp only [Option.toList_some, Option.bind_some, hor]
  rw [if_neg hd]
def phN (s : ByteArray) : Nat := (phex s).getD 0
def phE (s : ByteArray) : Int := if (phex s).isSome then 0 else 12
theorem ph_none {s : ByteArray} (h : phex s = none) : phN s = 0 ∧ phE s = 12 := by unfold phN phE; rw [h]; exact ⟨rfl, rfl⟩
theorem ph_some {s : ByteArray} {n : Nat} (h : phex s = some n) : phN s = n ∧ phE s = 0 := by unfold phN phE; rw [h]; exact ⟨rfl, rfl⟩
theorem phex_none_of {s : ByteArray} (h : ∀ n, n ≤ 18446744073709551615 → s.data.toList = 48 :: 120 :: digs 16 20 n → False) : phex s = none := by
  cases hp : phex s with
  | none => rfl
  | some n => have := (phex_iff s n).mp hp; exact (h n this.2 this.1).elim
theorem bt_list (s : ByteArray) (k : Nat) (h : k < s.size) : ∃ c : UInt8, bt s k = (c.toNat : Int) ∧ s.data.toList[k]? = some c := by
  refine ⟨s[k], ?_, ?_⟩
  · unfold bt; rw [dif_pos h]
  · rw [List.getElem?_eq_getElem (by simpa using h)]; rfl
theorem phex_none_short {s : ByteArray} (h : s.size < 3 ∨ 18 < s.size) : phex s = none := by
  apply phex_none_of
  intro n hn e
  have h1 := digs_len16 n hn
  have h2 : s.size = (48 :: 120 :: digs 16 20 n).length := by rw [← e]; simp
  simp at h2; omega
theorem phex_none_0 {s : ByteArray} (hs : 3 ≤ s.size) (h : bt s 0 ≠ 48) : phex s = none := by
  apply phex_none_of
  intro n hn e
  obtain ⟨c, h1, h2⟩ := bt_list s 0 (by omega)
  rw [e] at h2; simp at h2; subst h2; exact h (by rw [h1]; rfl)
theorem phex_none_1 {s : ByteArray} (hs : 3 ≤ s.size) (h : bt s 1 ≠ 120) : phex s = none := by
  apply phex_none_of
  intro n hn e
  obtain ⟨c, h1, h2⟩ := bt_list s 1 (by omega)
  rw [e] at h2; simp at h2; subst h2; exact h (by rw [h1]; rfl)
theorem phex_none_bad {s : ByteArray} {k : Nat} {c : UInt8} (hk : 2 ≤ k) (h1 : s.data.toList[k]? = some c) (h : dv 16 (c.toNat : Int) < 0) : phex s = none := by
  apply phex_none_of
  intro n hn e
  have h2 := hor_digs_16 20 n (by omega) (Nat.lt_of_le_of_lt hn (by decide))
  rw [e] at h1
  obtain ⟨j, rfl⟩ : ∃ j, k = j + 2 := ⟨k - 2, by omega⟩
  rw [hor_bad 16 _ 0 j c (by simpa using h1) h] at h2
  cases h2
theorem phex_end {s : ByteArray} {v : Nat} (hs0 : bt s 0 = 48) (hs1 : bt s 1 = 120) (h3 : 3 ≤ s.size) (hv : hor 16 (s.data.toList.drop 2) 0 = some v) (hlt : v ≤ 18446744073709551615) :
    (s.data.toList = 48 :: 120 :: digs 16 20 v → phex s = some v) ∧ (s.data.toList ≠ 48 :: 120 :: digs 16 20 v → phex s = none) := by
  refine ⟨fun h => (phex_iff s v).mpr ⟨h, hlt⟩, fun h => phex_none_of fun n hn e => ?_⟩
  rw [e] at hv
  simp at hv
  rw [hor_digs_16 20 n (by omega) (Nat.lt_of_le_of_lt hn (by decide))] at hv
  have := Option.some.inj hv
  subst this
  exact h e
theorem str_eq_iff (a b : ByteArray) : (a.toList == b.toList) = true ↔ a.data.toList = b.data.toList := by rw [Lib.toList_data, Lib.toList_data]; simp
theorem bt_dg (d : Nat) (h : d < 16) (c : UInt8) : (bt ⟨#[48, 49, 50, 51, 52, 53, 54, 55, 56, 57, 97, 98, 99, 100, 101, 102]⟩ d != (c.toNat : Int)) = false ↔ dg d = c := by
  rw [dg_at d h]; simp
  constructor
  · intro h; exact UInt8.toNat_inj.mp (by omega)
  · intro h; rw [h]
theorem dv_none {c : UInt8} (h : ∀ j, j < 16 → dg j ≠ c) : dv 16 (c.toNat : Int) < 0 := by
  apply Int.lt_of_not_ge
  intro hn
  have h1 := dg_dv_16 c (by omega)
  have h2 := dv_lt16 (c.toNat : Int)
  exact h _ (by omega) h1.symm
set_option maxHeartbeats 2000000 in
theorem ref_ParseHex (s : ByteArray) (w : World) (hs0 : s.size ≤ maxLen) :
    Calls Try.prog 26 #[.string s] w fun e w' => e = .returned (.tuple #[.int .u64 (phN s), .int .i64 (phE s)]) ∧ Below w.heap.size w w' := by
  have hs : s.size ≤ 9223372036854775807 := by unfold maxLen at hs0; omega
  clear hs0
  have hbt := get_bt s
  by_cases c1 : s.size < 3
  · have P := ph_none (phex_none_short (.inl c1))
    rw [P.1, P.2]; clear P
    go_enter Try.func26, Try.ntmps26
    go_wp2
    go_ret2
    exact ⟨rfl, Below.refl _ _⟩
  by_cases c2 : 18 < s.size
  · have P := ph_none (phex_none_short (.inr c2))
    rw [P.1, P.2]; clear P
    go_enter Try.func26, Try.ntmps26
    go_wp2
    go_ret2
    exact ⟨rfl, Below.refl _ _⟩
  have p0 : (0 : Int) < (s.size : Int) := by omega
  have p1 : (1 : Int) < (s.size : Int) := by omega
  cases c3 : (bt s 0 != 48)
  case true =>
    have P := ph_none (phex_none_0 (s := s) (by omega) (by simpa using c3))
    rw [P.1, P.2]; clear P
    go_enter Try.func26, Try.ntmps26
    go_wp2
    go_ret2
    exact ⟨rfl, Below.refl _ _⟩
  cases c4 : (bt s 1 != 120)
  case true =>
    have P := ph_none (phex_none_1 (s := s) (by omega) (by simpa using c4))
    rw [P.1, P.2]; clear P
    go_enter Try.func26, Try.ntmps26
    go_wp2
    go_ret2
    exact ⟨rfl, Below.refl _ _⟩
  have hbd := get_bt ⟨#[48, 49, 50, 51, 52, 53, 54, 55, 56, 57, 97, 98, 99, 100, 101, 102]⟩
  go_enter Try.func26, Try.ntmps26
  go_wp2
  go_loopw [4, 5] (fun vn vi wr => ∃ (k v : Nat), 2 ≤ k ∧ k ≤ s.size ∧ vn = .int .u64 v ∧ vi = .int .i64 k ∧ Hid (v < 16 ^ (k - 2)) ∧ Below w.heap.size w wr ∧ Hid (hor 16 ((s.data.toList.drop 2).take (k - 2)) 0 = some v))
    (fun _ vi _ => s.size - (intOf vi).toNat)
  case atStart => exact ⟨2, 0, by omega, by omega, rfl, rfl, by simp [Hid], Below.refl _ _, by simp [Hid, hor]⟩
  case round =>
    obtain ⟨k, v, hk2, hk, rfl, rfl, HV, hbl, HH⟩ := hrel
    by_cases hlt : k < s.size
    · obtain ⟨c, hc1, hc2⟩ := bt_list s k hlt
      have hlt' : (k : Int) < (s.size : Int) := by omega
      have HC : Hid (s.data.toList[k]? = some c) := hc2
      have hc0 : (0 : Int) ≤ (c.toNat : Int) := by omega
      have hv16 : (v : Int) ≤ 1152921504606846975 := by
        have h1 := HV.out
        have h2 : 16 ^ (k - 2) ≤ 16 ^ 15 := Nat.pow_le_pow_right (by omega) (by omega)
        have h3 : (16 : Nat) ^ 15 = 1152921504606846976 := by decide
        omega
      clear hc2
      go_wp2
      go_loopw [6] (fun vd wq => ∃ d : Nat, d ≤ 16 ∧ vd = .int .u64 d ∧ Below w.heap.size w wq ∧ Hid (∀ j, j < d → dg j ≠ c)) (fun vd _ => 16 - (intOf vd).toNat)
      case atStart => exact ⟨0, by omega, rfl, hbl, fun j hj => absurd hj (by omega)⟩
      case round =>
        obtain ⟨d, hd, rfl, hbq, HA⟩ := hrel
        by_cases h16 : d = 16
        · subst h16
          have hneg : dv 16 (c.toNat : Int) < 0 := dv_none HA.out
          have P := ph_none (phex_none_bad hk2 HC.out hneg)
          clear hneg
          go_wp2_with fail
          go_quiet (fail)
          go_wp2
          go_ret2
          exact ⟨by rw [P.1, P.2]; rfl, bel_drewN hbq _⟩
        · have hd16 : (d : Int) < 16 := by omega
          have hne : ((d : Int) == 16) = false := by simp; omega
          cases ht : (bt ⟨#[48, 49, 50, 51, 52, 53, 54, 55, 56, 57, 97, 98, 99, 100, 101, 102]⟩ d != (c.toNat : Int))
          · have hdg := (bt_dg d (by omega) c).mp ht
            have hdv : dv 16 (c.toNat : Int) = (d : Int) := by rw [← hdg]; exact dv_dg_16 d (by omega)
            have HN := hor_take 16 (s.data.toList.drop 2) (k - 2) v c (by rw [List.getElem?_drop, show 2 + (k - 2) = k by omega]; exact HC.out) HH.out (by rw [hdv]; omega)
            rw [hdv] at HN
            have HN2 : Hid (hor 16 ((s.data.toList.drop 2).take (k + 1 - 2)) 0 = some (v * 16 + d)) := by
              rw [Hid, show k + 1 - 2 = k - 2 + 1 by omega]; simpa using HN
            have HV2 : Hid (v * 16 + d < 16 ^ (k + 1 - 2)) := by
              have h1 := HV.out
              rw [Hid, show k + 1 - 2 = k - 2 + 1 by omega, Nat.pow_succ]; omega
            clear HN hdv hdg
            go_wp2_with fail
            go_quiet (fail)
            go_wp2
            go_roundw
            case rel => exact ⟨k + 1, v * 16 + d, by omega, by omega, by go_num, by go_num, HV2, bel_drewN hbq _, HN2⟩
            case measure => simp [intOf]; omega
          · have hdg : dg d ≠ c := fun e => by rw [(bt_dg d (by omega) c).mpr e] at ht; cases ht
            go_wp2_with fail
            go_quiet (fail)
            go_wp2
            go_roundw
            case rel => exact ⟨d + 1, by omega, by go_num, bel_drewN hbq _, fun j hj => by
              by_cases e : j = d
              · subst e; exact hdg
              · exact HA.out j (by omega)⟩
            case measure => simp [intOf]; omega
    · have hke : k = s.size := by omega
      subst hke
      have HF : hor 16 (s.data.toList.drop 2) 0 = some v := by
        have := HH.out
        rwa [List.take_of_length_le (by simp)] at this
      have hvM : v ≤ 18446744073709551615 := by
        have h1 := HV.out
        have h2 : 16 ^ (s.size - 2) ≤ 16 ^ 16 := Nat.pow_le_pow_right (by omega) (by omega)
        have h3 : (16 : Nat) ^ 16 = 18446744073709551616 := by decide
        omega
      have E := phex_end (s := s) (by simpa using c3) (by simpa using c4) (by omega) HF hvM
      have hX := fun w => ref_Hex v w (by omega)
      obtain ⟨t, ht⟩ : ∃ t : ByteArray, t = ⟨(48 :: 120 :: digs 16 20 v).toArray⟩ := ⟨_, rfl⟩
      have htl : t.data.toList = 48 :: 120 :: digs 16 20 v := by rw [ht]
      rw [← ht] at hX
      clear ht HF
      cases he : (t.toList == s.toList)
      · have P := ph_none (E.2 (fun h => by
          have h5 := (str_eq_iff t s).mpr (htl.trans h.symm)
          rw [he] at h5; cases h5))
        clear E htl
        go_wp2_with (go_at_call 28; refine (hX _).mono ?_; rintro e w' ⟨rfl, rfl⟩)
        go_ret2
        exact ⟨by rw [P.1, P.2]; rfl, hbl⟩
      · have P := ph_some (E.1 ((str_eq_iff t s).mp he ▸ htl))
        clear E htl
        go_wp2_with (go_at_call 28; refine (hX _).mono ?_; rintro e w' ⟨rfl, rfl⟩)
        go_ret2
        exact ⟨by rw [P.1, P.2]; rfl, hbl⟩
end Go.Proofs.Ytbpajkoaeopnfaa
