/-
  The reference's Text and Parse, and num.Parse, keep their contracts; nothing that was there is turned.
-/
import Derived.Test.YtbpajkoaeopnfaaNumJ
set_option linter.unusedVariables false
namespace Go.Proofs.Ytbpajkoaeopnfaa
open Go.RowKit Go.PlainAid
/-- What holds of the text that the reference's Text gathers. -/
def TextRel (n m : Nat) (s : ByteArray) : Prop :=
  ∃ (f : Nat) (acc : List UInt8), f + acc.length = 20 ∧ s.data.toList = acc ∧
    ((1 ≤ f ∧ m < 10 ^ f ∧ 0 < m ∧ digs 10 20 n = digs 10 f m ++ acc) ∨ (m = 0 ∧ digs 10 20 n = acc))
theorem TextRel.size {n m : Nat} {s : ByteArray} (h : TextRel n m s) : s.size ≤ 20 := by
  obtain ⟨f, acc, h1, h2, _⟩ := h
  rw [size_list, h2]; omega
theorem TextRel.start (n : Nat) (h0 : 0 < n) (h : (n : Int) ≤ 18446744073709551615) : TextRel n n ⟨#[]⟩ :=
  ⟨20, [], rfl, rfl, .inl ⟨by omega, Nat.lt_of_le_of_lt (by omega) pow10_20, h0, by simp⟩⟩
theorem dg10n (d : Nat) (h : d < 10) : ((dg d).toNat : Int) = 48 + (d : Int) := by
  have : ∀ k : Fin 10, ((dg k.val).toNat : Int) = 48 + (k.val : Int) := by decide
  exact this ⟨d, h⟩
theorem TextRel.step {n m : Nat} {s t : ByteArray} (h : TextRel n m s) (h0 : 0 < m) (ht : t.data.toList = [dg (m % 10)]) :
    TextRel n (m / 10) (t ++ s) ∧ (t ++ s).size = s.size + 1 := by
  obtain ⟨f, acc, h1, h2, h3⟩ := h
  have e : (t ++ s).data.toList = dg (m % 10) :: acc := by rw [Go.Joins.data_append, ht, h2]; rfl
  refine ⟨?_, by rw [size_list, e, size_list, h2]; simp⟩
  rcases h3 with ⟨a1, a2, a3, a4⟩ | ⟨b1, b2⟩
  · refine ⟨f - 1, dg (m % 10) :: acc, by simp; omega, e, ?_⟩
    by_cases h0 : m / 10 = 0
    · exact .inr ⟨h0, digs_last_10 a1 a4 h0⟩
    · have D := digs_more_10 a1 a2 a4 h0
      exact .inl ⟨D.1, D.2.1, by omega, D.2.2⟩
  · omega
theorem TextRel.done {n : Nat} {s : ByteArray} (h : TextRel n 0 s) : s = ⟨(digs 10 20 n).toArray⟩ := by
  obtain ⟨f, acc, h1, h2, h3⟩ := h
  apply ByteArray.ext
  apply Array.toList_inj.1
  rcases h3 with ⟨a1, a2, a3, a4⟩ | ⟨b1, b2⟩
  · omega
  · rw [h2, b2]
set_option maxHeartbeats 400000 in
theorem ref_Text_pos (n : Nat) (w : World) (h0 : 0 < n) (h : (n : Int) ≤ 9223372036854775807) :
    Calls Try.prog 32 #[.int .i64 n] w fun e w' => e = .returned (.string ⟨(digs 10 20 n).toArray⟩) ∧ Below w.heap.size w w' := by
  have hn0 : ¬ (n : Int) ≤ 0 := by omega
  go_enter Try.func32, Try.ntmps32
  go_wp2
  go_loopw [0, 3] (fun vn vs wr => ∃ (m : Nat) (s : ByteArray), vn = .int .i64 m ∧ vs = .string s ∧ (m : Int) ≤ 9223372036854775807 ∧ Below w.heap.size w wr ∧ TextRel n m s)
    (fun _ vs _ => 21 - strLen vs)
  case atStart => exact ⟨n, ⟨#[]⟩, rfl, rfl, h, Below.refl _ _, TextRel.start n h0 (by omega)⟩
  case round =>
    obtain ⟨m, s, rfl, rfl, hm, hbl, R⟩ := hrel
    have hsz0 := R.size
    have hsz : (s.size : Int) ≤ 20 := by omega
    by_cases hz : m = 0
    · subst hz
      have D := R.done
      clear R
      go_wp2
      go_ret
      exact ⟨by rw [D]; rfl, hbl⟩
    · have hgo : 0 < (m : Int) := by omega
      have hdt : ((dg (m % 10)).toNat : Int) = 48 + (m : Int) % 10 := dg10n (m % 10) (by omega)
      obtain ⟨t, ht, hcv⟩ : ∃ t : ByteArray, t.data.toList = [dg (m % 10)] ∧ Sem.run Try.prog (convert 58 9 (Value.slice (some ⟨wr.heap.size, 0, none⟩) 1 1)) (wr.alloc (Obj.cells #[Value.int IntKind.u8 (48 + (m : Int) % 10)] 5)) = .ok (.string t) (wr.alloc (Obj.cells #[Value.int IntKind.u8 (48 + (m : Int) % 10)] 5)) := by
        refine ⟨⟨[dg (m % 10)].toArray⟩, rfl, ?_⟩
        exact run_convert_bytes_back (P := Try.prog) _ 58 9 5 ⟨wr.heap.size, 0, none⟩ 1 [dg (m % 10)] Try.underlying58 Try.underlying5 Try.underlying9 (fun j hj => by
          have : j = 0 := by simpa using hj
          subst this
          simp [Addr.add, hdt])
      have S := R.step (by omega) ht
      have hts : (t.size : Int) = 1 := by rw [size_list, ht]; rfl
      have hts' : (t.size : Int) ≤ 1 := by omega
      clear R hts ht hdt
      go_wp2
      go_roundw
      case rel => exact ⟨m / 10, _, by go_num, rfl, by omega, hbl.alloc hbl.size _, S.1⟩
      case measure => have := S.2; simp [strLen] at this ⊢; omega
theorem ref_Text_zero (n : Int) (w : World) (h : n ≤ 0) :
    Calls Try.prog 32 #[.int .i64 n] w fun e w' => e = .returned (.string ⟨#[48]⟩) ∧ w = w' := by
  go_enter Try.func32, Try.ntmps32
  go_wp2
  go_ret
  exact ⟨rfl, rfl⟩
theorem ref_Text (n : Nat) (w : World) (h : (n : Int) ≤ 9223372036854775807) :
    Calls Try.prog 32 #[.int .i64 n] w fun e w' => e = .returned (.string ⟨(digs 10 20 n).toArray⟩) ∧ Below w.heap.size w w' := by
  by_cases h0 : n = 0
  · subst h0
    exact (ref_Text_zero 0 w (by omega)).mono fun e w' ⟨he, hw⟩ => ⟨he, by subst hw; exact Below.refl _ _⟩
  · exact ref_Text_pos n w (by omega) h
/-! ### num.Parse and the reference's -/
def pdN (s : ByteArray) : Nat := (rd 10 2147483647 s).getD 0
def pdE (s : ByteArray) : Int := if (rd 10 2147483647 s).isSome then 0 else 12
theorem pd_none {s : ByteArray} (h : rd 10 2147483647 s = none) : pdN s = 0 ∧ pdE s = 12 := by unfold pdN pdE; rw [h]; exact ⟨rfl, rfl⟩
theorem pd_some {s : ByteArray} {n : Nat} (h : rd 10 2147483647 s = some n) : pdN s = n ∧ pdE s = 0 := by unfold pdN pdE; rw [h]; exact ⟨rfl, rfl⟩
theorem num_Parse (s : ByteArray) (w : World) (hs : s.size ≤ maxLen) :
    Calls Try.prog 29 #[.string s] w fun e w' => e = .returned (.tuple #[.int .i64 (pdN s), .int .i64 (pdE s)]) ∧ Below w.heap.size w w' := by
  have hr := fun w => read_10 s w hs
  cases h : rd 10 2147483647 s with
  | none =>
    have P := pd_none h
    rw [P.1, P.2]; rw [h] at hr; clear P h hs
    go_enter Try.func29, Try.ntmps29
    go_wp2_with (go_at_call 37; refine (hr _).mono ?_; rintro e w' ⟨rfl, hb⟩)
    go_ret2
    exact ⟨rfl, hb⟩
  | some n =>
    have P := pd_some h
    have hn : (n : Int) ≤ 2147483647 := by have := ((rd_iff_10 s n).mp h).2; omega
    rw [P.1, P.2]; rw [h] at hr; clear P h hs
    go_enter Try.func29, Try.ntmps29
    go_wp2_with (go_at_call 37; refine (hr _).mono ?_; rintro e w' ⟨rfl, hb⟩)
    go_ret2
    exact ⟨rfl, hb⟩
theorem rd_none_of {s : ByteArray} (h : ∀ n, n ≤ 2147483647 → s.data.toList = digs 10 20 n → False) : rd 10 2147483647 s = none := by
  cases hp : rd 10 2147483647 s with
  | none => rfl
  | some n => have := (rd_iff_10 s n).mp hp; exact (h n this.2 this.1).elim
theorem digs_len10 (n : Nat) (h : n ≤ 2147483647) : 1 ≤ (digs 10 20 n).length ∧ (digs 10 20 n).length ≤ 10 := by
  have e : digs 10 20 n = digs 10 10 n := digs_more_fuel 10 (by omega) 10 10 n (by omega) (Nat.lt_of_le_of_lt h (by decide))
  rw [e]
  exact ⟨List.length_pos_iff.mpr (digs_ne _ _ _ (by omega)), digs_len _ _ _⟩
theorem rd_none_short {s : ByteArray} (h : s.size < 1 ∨ 10 < s.size) : rd 10 2147483647 s = none := by
  apply rd_none_of
  intro n hn e
  have h1 := digs_len10 n hn
  have h2 : s.size = (digs 10 20 n).length := by rw [← e]; simp
  omega
theorem dv10 (c : UInt8) : (dv 10 (c.toNat : Int) < 0 ↔ ((c.toNat : Int) < 48 ∨ 57 < (c.toNat : Int))) ∧ (¬ dv 10 (c.toNat : Int) < 0 → dv 10 (c.toNat : Int) = (c.toNat : Int) - 48) := by
  have h : ∀ k : Fin 256, (dv 10 (k.val : Int) < 0 ↔ ((k.val : Int) < 48 ∨ 57 < (k.val : Int))) ∧ (¬ dv 10 (k.val : Int) < 0 → dv 10 (k.val : Int) = (k.val : Int) - 48) := by decide +kernel
  exact h ⟨c.toNat, c.toNat_lt⟩
theorem rd_none_bad {s : ByteArray} {k : Nat} {c : UInt8} (h1 : s.data.toList[k]? = some c) (h : dv 10 (c.toNat : Int) < 0) : rd 10 2147483647 s = none := by
  apply rd_none_of
  intro n hn e
  have h2 := hor_digs_10 20 n (by omega) (Nat.lt_of_le_of_lt hn (by decide))
  rw [e] at h1
  rw [hor_bad 10 _ 0 k c h1 h] at h2
  cases h2
theorem rd_end {s : ByteArray} {v : Nat} (hv : hor 10 s.data.toList 0 = some v) :
    (v ≤ 2147483647 → s.data.toList = digs 10 20 v → rd 10 2147483647 s = some v) ∧ ((2147483647 < v ∨ s.data.toList ≠ digs 10 20 v) → rd 10 2147483647 s = none) := by
  refine ⟨fun h1 h2 => (rd_iff_10 s v).mpr ⟨h2, h1⟩, fun h => rd_none_of fun n hn e => ?_⟩
  rw [e] at hv
  rw [hor_digs_10 20 n (by omega) (Nat.lt_of_le_of_lt hn (by decide))] at hv
  have := Option.some.inj hv
  subst this
  rcases h with h | h
  · omega
  · exact h e
set_option maxHeartbeats 2000000 in
theorem ref_Parse (s : ByteArray) (w : World) (hs0 : s.size ≤ maxLen) :
    Calls Try.prog 30 #[.string s] w fun e w' => e = .returned (.tuple #[.int .i64 (pdN s), .int .i64 (pdE s)]) ∧ Below w.heap.size w w' := by
  have hs : s.size ≤ 9223372036854775807 := by unfold maxLen at hs0; omega
  clear hs0
  have hbt := get_bt s
  by_cases c1 : s.size < 1
  · have P := pd_none (rd_none_short (.inl c1))
    rw [P.1, P.2]; clear P
    go_enter Try.func30, Try.ntmps30
    go_wp2
    go_ret2
    exact ⟨rfl, Below.refl _ _⟩
  by_cases c2 : 10 < s.size
  · have P := pd_none (rd_none_short (.inr c2))
    rw [P.1, P.2]; clear P
    go_enter Try.func30, Try.ntmps30
    go_wp2
    go_ret2
    exact ⟨rfl, Below.refl _ _⟩
  go_enter Try.func30, Try.ntmps30
  go_wp2
  go_loopw [4, 5] (fun vn vi wr => ∃ (k v : Nat), k ≤ s.size ∧ vn = .int .i64 v ∧ vi = .int .i64 k ∧ Hid (v < 10 ^ k) ∧ Below w.heap.size w wr ∧ Hid (hor 10 (s.data.toList.take k) 0 = some v))
    (fun _ vi _ => s.size - (intOf vi).toNat)
  case atStart => exact ⟨0, 0, by omega, rfl, rfl, by simp [Hid], Below.refl _ _, by simp [Hid, hor]⟩
  case round =>
    obtain ⟨k, v, hk, rfl, rfl, HV, hbl, HH⟩ := hrel
    have hv10 : (v : Int) ≤ 9999999999 := by
      have h1 := HV.out
      have h2 : 10 ^ k ≤ 10 ^ 10 := Nat.pow_le_pow_right (by omega) (by omega)
      have h3 : (10 : Nat) ^ 10 = 10000000000 := by decide
      omega
    by_cases hlt : k < s.size
    · obtain ⟨c, hc1, hc2⟩ := bt_list s k hlt
      have hlt' : (k : Int) < (s.size : Int) := by omega
      have hc0 : (0 : Int) ≤ (c.toNat : Int) := by omega
      have hc9 : (c.toNat : Int) ≤ 255 := by have := c.toNat_lt; omega
      by_cases hd : dv 10 (c.toNat : Int) < 0
      · have P := pd_none (rd_none_bad hc2 hd)
        have hd' := (dv10 c).1.mp hd
        clear hd hc2
        rcases hd' with hd' | hd'
        all_goals
          go_wp2
          go_ret2
          exact ⟨by first | rfl | (rw [P.1, P.2]; rfl), hbl⟩
      · have HN := hor_take 10 s.data.toList k v c hc2 HH.out hd
        have he := (dv10 c).2 hd
        rw [he] at HN
        have hr : ¬ ((c.toNat : Int) < 48 ∨ 57 < (c.toNat : Int)) := fun h => hd ((dv10 c).1.mpr h)
        have r1 : ¬ (c.toNat : Int) < 48 := fun h => hr (.inl h)
        have r2 : ¬ 57 < (c.toNat : Int) := fun h => hr (.inr h)
        have HV2 : Hid (v * 10 + ((c.toNat : Int) - 48).toNat < 10 ^ (k + 1)) := by
          have h1 := HV.out
          rw [Hid, Nat.pow_succ]; omega
        have HN2 : Hid (hor 10 (s.data.toList.take (k + 1)) 0 = some (v * 10 + ((c.toNat : Int) - 48).toNat)) := HN
        clear HN he hr hd hc2
        go_wp2
        go_roundw
        case rel => exact ⟨k + 1, v * 10 + ((c.toNat : Int) - 48).toNat, by omega, by go_num, by go_num, HV2, hbl, HN2⟩
        case measure => simp [intOf]; omega
    · have hke : k = s.size := by omega
      subst hke
      have HF : hor 10 s.data.toList 0 = some v := by
        have := HH.out
        rwa [List.take_of_length_le (by simp)] at this
      have E := rd_end (s := s) HF
      clear HF
      by_cases hM : 2147483647 < v
      · have P := pd_none (E.2 (.inl hM))
        clear E
        go_wp2
        go_ret2
        exact ⟨by first | rfl | (rw [P.1, P.2]; rfl), hbl⟩
      · have hX := fun w => ref_Text v w (by omega)
        obtain ⟨t, ht⟩ : ∃ t : ByteArray, t = ⟨(digs 10 20 v).toArray⟩ := ⟨_, rfl⟩
        have htl : t.data.toList = digs 10 20 v := by rw [ht]
        rw [← ht] at hX
        clear ht
        cases he : (t.toList == s.toList)
        · have P := pd_none (E.2 (.inr (fun h => by
            have h5 := (str_eq_iff t s).mpr (htl.trans h.symm)
            rw [he] at h5; cases h5)))
          clear E htl
          go_wp2_with (go_at_call 32; refine (hX _).mono ?_; rintro e w' ⟨rfl, hb2⟩)
          go_ret2
          exact ⟨by first | rfl | (rw [P.1, P.2]; rfl), hbl.trans (hb2.mono hbl.size)⟩
        · have P := pd_some (E.1 (by omega) ((str_eq_iff t s).mp he ▸ htl))
          clear E htl
          go_wp2_with (go_at_call 32; refine (hX _).mono ?_; rintro e w' ⟨rfl, hb2⟩)
          go_ret2
          exact ⟨by first | rfl | (rw [P.1, P.2]; rfl), hbl.trans (hb2.mono hbl.size)⟩
end Go.Proofs.Ytbpajkoaeopnfaa
