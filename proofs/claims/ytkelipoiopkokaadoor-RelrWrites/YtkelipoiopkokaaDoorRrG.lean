
/-
  Layer 13 (relr): which places can be told; rows of bits, as plain data and as the program makes them; the reference's Same.
-/
import Derived.Test.YtkelipoiopkokaaDoorRrF
set_option linter.unusedVariables false
namespace Go.Proofs.YtkelipoiopkokaaDoor
open Go.RowKit Go.PlainAid Go.Sort
/-- Places that can be told, each at or above a least one. -/
def fitP : Nat → List Nat → Bool
  | _, [] => true
  | least, p :: t => decide (p % 2 = 0 ∧ least ≤ p ∧ p ≤ 18446744073709551103) && fitP (p + 8) t
/-- The row of the first places, and how many they are. -/
def rowN (f : Nat) : List Nat → Nat → Nat → Nat × Nat
  | [], r, m => (r, m)
  | p :: t, r, m => if f ≤ p ∧ (p - f) % 8 = 0 ∧ p - f < 504 then rowN f t (r ||| 2 ^ (1 + (p - f) / 8)) (m + 1) else (r, m)
/-- The words behind a place or a row. -/
def encF : Nat → Nat → List Nat → List Nat
  | 0, _, _ => []
  | _ + 1, _, [] => []
  | n + 1, f, p :: t => if 0 < (rowN f (p :: t) 1 0).2 then (rowN f (p :: t) 1 0).1 :: encF n (f + 504) ((p :: t).drop (rowN f (p :: t) 1 0).2) else p :: encF n (p + 8) t
def encT (n : Nat) : List Nat → List Nat
  | [] => []
  | p :: t => p :: encF n (p + 8) t
def encW (l : List Nat) : List Nat := encT l.length l
def flatW (ws : List Nat) : List UInt8 := ws.flatMap (leN 8)
def relrE (l : List Nat) : Option (List UInt8) := if l.length ≤ 512 ∧ fitP 0 l = true then some (flatW (encW l)) else none
theorem flatW_snoc (ws : List Nat) (w : Nat) : flatW (ws ++ [w]) = flatW ws ++ leN 8 w := by simp [flatW]
theorem flatW_len (ws : List Nat) : (flatW ws).length = 8 * ws.length := by
  induction ws with
  | nil => rfl
  | cons w ws ih =>
    have e : flatW (w :: ws) = leN 8 w ++ flatW ws := rfl
    rw [e, List.length_append, leN_length, ih, List.length_cons]; omega
theorem encF_nil (n f : Nat) : encF n f [] = [] := by cases n <;> rfl
theorem rowN_le (f : Nat) : ∀ l r m, m ≤ (rowN f l r m).2 ∧ (rowN f l r m).2 ≤ m + l.length
  | [], r, m => by simp [rowN]
  | p :: t, r, m => by
    unfold rowN
    split
    · have := rowN_le f t (r ||| 2 ^ (1 + (p - f) / 8)) (m + 1)
      simp only [List.length_cons]; omega
    · simp
theorem rowN_small (f : Nat) : ∀ l r m, r < 18446744073709551616 → (rowN f l r m).1 < 18446744073709551616
  | [], r, m, h => h
  | p :: t, r, m, h => by
    unfold rowN
    split
    · rename_i hc
      refine rowN_small f t _ _ ?_
      have e64 : (2 : Nat) ^ 64 = 18446744073709551616 := by decide
      have h1 : 2 ^ (1 + (p - f) / 8) < 2 ^ 64 := Nat.pow_lt_pow_right (by omega) (by omega)
      rw [← e64]
      exact Nat.or_lt_two_pow (by omega) h1
    · exact h
/-- A row from one of its places on. -/
theorem rowN_at (f : Nat) (l : List Nat) (i r m : Nat) (hi : i < l.length) : rowN f (l.drop i) r m = if f ≤ l[i] ∧ (l[i] - f) % 8 = 0 ∧ l[i] - f < 504 then rowN f (l.drop (i + 1)) (r ||| 2 ^ (1 + (l[i] - f) / 8)) (m + 1) else (r, m) := by
  rw [List.drop_eq_getElem_cons hi, rowN]
theorem rowN_end (f : Nat) (l : List Nat) (r m : Nat) : rowN f (l.drop l.length) r m = (r, m) := by rw [List.drop_length]; rfl
theorem fitP_at (l : List Nat) (i least : Nat) (hi : i < l.length) : fitP least (l.drop i) = (decide (l[i] % 2 = 0 ∧ least ≤ l[i] ∧ l[i] ≤ 18446744073709551103) && fitP (l[i] + 8) (l.drop (i + 1))) := by
  rw [List.drop_eq_getElem_cons hi, fitP]
/-- Rows of numbers from a place on. -/
theorem ArgN.cut0 {w : World} {a : Option Addr} {n cap : Nat} {l : List Nat} (h : ArgN w (.slice a n cap) l) (k : Nat) (hk : k ≤ l.length) (hc : cap = k) : ArgN w (.slice a (n - k) 0) (l.drop k) := by
  obtain ⟨h0, a', cap', e, h1, h2, h3⟩ := h
  injection e with e1 e2 e3
  subst e1 e2 e3
  have hkl : k = l.length := by omega
  subst hkl
  rw [List.drop_length]
  exact ⟨fun p hp => by simp at hp, a, 0, by simp, by simp, by simp, .inl ⟨rfl, fun _ => rfl⟩⟩
theorem ArgN.cut {w : World} {a : Option Addr} {n cap : Nat} {l : List Nat} (h : ArgN w (.slice a n cap) l) (k : Nat) (hk : k ≤ l.length) (hc : cap ≠ k) : ArgN w (.slice (Option.map (fun x => x.add k) a) (n - k) (cap - k)) (l.drop k) := by
  obtain ⟨h0, a', cap', e, h1, h2, h3⟩ := h
  injection e with e1 e2 e3
  subst e1 e2 e3
  refine ⟨fun p hp => h0 p (List.mem_of_mem_drop hp), _, _, by rw [List.length_drop], by rw [List.length_drop]; omega, by omega, ?_⟩
  rcases h3 with ⟨rfl, h3⟩ | ⟨g, o, rfl, h3, h4⟩
  · refine .inl ⟨by simp, fun e => ?_⟩
    cases a with
    | none => have := h3 rfl; omega
    | some x => cases e
  · refine .inr ⟨g, o + k, by simp [add_at], h3, fun j hj => ?_⟩
    rw [List.length_drop] at hj
    rw [show o + k + j = o + (k + j) by omega, h4 (k + j) (by omega)]
    simp
theorem take_sameN {l m : List Nat} {i : Nat} (h : l.take i = m.take i) (hl : i < l.length) (hm : i < m.length) (e : l[i] = m[i]) : l.take (i + 1) = m.take (i + 1) := by
  rw [List.take_succ_eq_append_getElem hl, List.take_succ_eq_append_getElem hm, h, e]
set_option maxHeartbeats 2000000 in
set_option maxRecDepth 20000 in
theorem ref13_Same (w : World) (v1 v2 : Value) (l m : List Nat) (h1 : ArgN w v1 l) (h2 : ArgN w v2 m) :
    Calls Tryd.prog 7 #[v1, v2] w fun e w' => e = .returned (.bool (decide (l = m))) ∧ Below w.heap.size w w' := by
  have HB : Hid (Below w.heap.size w w) := Below.refl _ _
  obtain ⟨a1, c1, rfl, p1, p2⟩ := h1.form
  obtain ⟨a2, c2, rfl, p3, p4⟩ := h2.form
  have HA1 := hide h1
  have HA2 := hide h2
  clear h1 h2
  by_cases hl : l.length = m.length
  · have hne : ((l.length : Int) != (m.length : Int)) = false := by simp; omega
    go_enter Tryd.func7, Tryd.ntmps7
    go_wp2
    go_loopw [5] (fun vi wr => (∃ k : Nat, wr = w.drewN k) ∧ ∃ i : Nat, i ≤ l.length ∧ vi = .int .i64 (i : Int) ∧ Hid (l.take i = m.take i)) (fun vi _ => l.length - (intOf vi).toNat)
    case atStart => exact ⟨⟨0, rfl⟩, 0, by omega, rfl, by simp [Hid]⟩
    case round =>
      obtain ⟨⟨k, rfl⟩, i, hi, rfl, HT⟩ := hrel
      by_cases hlt : i < l.length
      · have hltI : (i : Int) < (l.length : Int) := by omega
        have hltJ : (i : Int) < (m.length : Int) := by omega
        obtain ⟨g1, o1, rfl, y0, _⟩ := HA1.out.at i hlt
        obtain ⟨g2, o2, rfl, z0, _⟩ := HA2.out.at i (by omega)
        by_cases hE : l[i] = m[i]'(by omega)
        · have HT2 : Hid (l.take (i + 1) = m.take (i + 1)) := take_sameN HT.out hlt (by omega) hE
          rw [← hE] at z0
          generalize l[i] = p at *
          clear hE
          go_wp2_with fail
          go_quiet (fail)
          go_wp2
          go_roundw
          case rel => exact ⟨⟨_, rfl⟩, i + 1, by omega, by go_num, HT2⟩
          case measure => simp [intOf]; omega
        · have hd : decide (l = m) = false := by
            rw [decide_eq_false_iff_not]; intro e; subst e; exact hE rfl
          have HD := hide hd
          clear hd
          generalize l[i] = p at *
          generalize m[i] = q at *
          have d0 : ((p : Int) != (q : Int)) = true := by simp; omega
          clear hE
          go_wp2_with fail
          go_quiet (fail)
          go_wp2
          go_ret
          exact ⟨by rw [HD.out]; rfl, by first | exact bel_drewN (bel_drewN HB.out _) _ | exact bel_drewN HB.out _⟩
      · have hd : decide (l = m) = true := by
          have := HT.out
          rw [List.take_of_length_le (by omega), List.take_of_length_le (by omega)] at this
          rw [decide_eq_true_iff]; exact this
        have HD := hide hd
        clear hd
        go_wp2
        go_ret
        exact ⟨by rw [HD.out]; rfl, bel_drewN HB.out _⟩
  · have hne : ((l.length : Int) != (m.length : Int)) = true := by simp; omega
    have hd : decide (l = m) = false := by
      rw [decide_eq_false_iff_not]; intro e; exact hl (by rw [e])
    rw [hd]
    clear hd
    go_enter Tryd.func7, Tryd.ntmps7
    go_wp2
    go_ret
    exact ⟨rfl, HB.out⟩
set_option maxHeartbeats 2000000 in
set_option maxRecDepth 20000 in
theorem relr_fit (w : World) (v : Value) (l : List Nat) (h : ArgN w v l) :
    Calls Tryd.prog 15 #[v] w fun e w' => e = .returned (.bool (fitP 0 l)) ∧ w = w' := by
  obtain ⟨a, cap, rfl, p1, p2⟩ := h.form
  have HA := hide h
  obtain ⟨O, hO⟩ : ∃ O, fitP 0 l = O := ⟨_, rfl⟩
  have HO := hide hO
  rw [hO]
  clear h hO
  go_enter Tryd.func15, Tryd.ntmps15
  go_wp2
  go_loopw [3, 5, 8] (fun v3 _ vi wr => wr = w ∧ ∃ i f : Nat, i ≤ l.length ∧ vi = .int .i64 (i : Int) ∧ v3 = .int .u64 (f : Nat) ∧ f < 18446744073709551616 ∧ Hid (fitP f (l.drop i) = O)) (fun _ _ vi _ => l.length - (intOf vi).toNat)
  case atStart => exact ⟨rfl, 0, 0, by omega, rfl, rfl, by omega, HO⟩
  case round =>
    obtain ⟨rfl, i, f, hi, rfl, rfl, hf, HF⟩ := hrel
    by_cases hlt : i < l.length
    · have hltI : (i : Int) < (l.length : Int) := by omega
      have hcap : (l.length : Int) ≤ (cap : Int) := by omega
      obtain ⟨g, o, rfl, y0, hp⟩ := HA.out.at i hlt
      have HF2 : Hid ((decide (l[i] % 2 = 0 ∧ f ≤ l[i] ∧ l[i] ≤ 18446744073709551103) && fitP (l[i] + 8) (l.drop (i + 1))) = O) := by rw [Hid, ← fitP_at l i f hlt]; exact HF.out
      generalize l[i] = p at *
      have ha := and_one p hp
      obtain ⟨q, hq⟩ : ∃ q, p % 2 = q := ⟨_, rfl⟩
      rw [hq] at ha
      clear HF
      by_cases hok : p % 2 = 0 ∧ f ≤ p ∧ p ≤ 18446744073709551103
      · have HF3 : Hid (fitP (p + 8) (l.drop (i + 1)) = O) := by
          have := HF2.out
          rw [decide_eq_true hok, Bool.true_and] at this
          exact this
        have hq0 : q = 0 := by omega
        subst hq0
        have d1 : ¬ (p : Int) < (f : Int) := by omega
        have d2 : ¬ (18446744073709551103 : Int) < (p : Int) := by omega
        have d3 : (p : Int) + 8 ≤ 18446744073709551615 := by omega
        go_wp2
        go_roundw
        case rel => exact ⟨by trivial, i + 1, p + 8, by omega, by go_num, by go_num, by omega, HF3⟩
        case measure => simp [intOf]; omega
      · have HF3 : Hid (false = O) := by
          have := HF2.out
          rw [decide_eq_false hok, Bool.false_and] at this
          exact this
        by_cases h2 : q = 0
        · subst h2
          by_cases h3 : p < f
          · have d1 : (p : Int) < (f : Int) := by omega
            go_wp2
            go_ret
            exact ⟨by rw [← HF3.out]; rfl, rfl⟩
          · have d1 : ¬ (p : Int) < (f : Int) := by omega
            have d2 : (18446744073709551103 : Int) < (p : Int) := by omega
            go_wp2
            go_ret
            exact ⟨by rw [← HF3.out]; rfl, rfl⟩
        · have d0 : ((q : Int) != 0) = true := by simp; omega
          go_wp2
          go_ret
          exact ⟨by rw [← HF3.out]; rfl, rfl⟩
    · have him : i = l.length := by omega
      subst him
      have HF3 : Hid (true = O) := by
        have := HF.out
        rw [List.drop_length] at this
        exact this
      go_wp2
      go_ret
      exact ⟨by rw [← HF3.out]; rfl, rfl⟩
end Go.Proofs.YtkelipoiopkokaaDoor
