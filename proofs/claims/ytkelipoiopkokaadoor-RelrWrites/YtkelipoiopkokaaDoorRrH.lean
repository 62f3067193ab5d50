
/-
  Layer 13 (relr): rowOf and Encode.
-/
import Derived.Test.YtkelipoiopkokaaDoorRrG
set_option linter.unusedVariables false
namespace Go.Proofs.YtkelipoiopkokaaDoor
open Go.RowKit Go.PlainAid Go.Sort
theorem or_bit (r q : Nat) (hr : r < 18446744073709551616) (hq : q ≤ 62) : bits .or .u64 (r : Int) (IntKind.u64.wrap (2 ^ (1 + q))) = ((r ||| 2 ^ (1 + q) : Nat) : Int) ∧ r ||| 2 ^ (1 + q) < 18446744073709551616 := by
  have e64 : (2 : Nat) ^ 64 = 18446744073709551616 := by decide
  have h1 : 2 ^ (1 + q) < 2 ^ 64 := Nat.pow_lt_pow_right (by omega) (by omega)
  have e1 : ((2 : Int) ^ (1 + q)) = ((2 ^ (1 + q) : Nat) : Int) := by rw [Int.natCast_pow]; rfl
  obtain ⟨X, hX⟩ : ∃ X : Nat, 2 ^ (1 + q) = X := ⟨_, rfl⟩
  rw [e1]
  rw [hX] at h1 ⊢
  refine ⟨?_, ?_⟩
  · rw [IntKind.wrap_u64, Int.emod_eq_of_lt (by omega) (by omega), bits_or_u64_nat _ _ hr (by omega)]
  · rw [← e64]; exact Nat.or_lt_two_pow (by omega) h1
set_option maxHeartbeats 2000000 in
set_option maxRecDepth 20000 in
theorem relr_rowOf (w : World) (v : Value) (l : List Nat) (h : ArgN w v l) (f : Nat) (hf : f < 18446744073709551616) (R M : Nat) (hR : rowN f l 1 0 = (R, M)) :
    Calls Tryd.prog 18 #[v, .int .u64 (f : Nat)] w fun e w' => e = .returned (.tuple #[.int .u64 (R : Nat), .int .i64 (M : Nat)]) ∧ w = w' := by
  obtain ⟨a, cap, rfl, p1, p2⟩ := h.form
  have HA := hide h
  have HR := hide hR
  clear h hR
  go_enter Tryd.func18, Tryd.ntmps18
  go_wp2
  go_loopw [6, 7, 8, 9, 10, 13] (fun v6 _ _ _ _ vi wr => wr = w ∧ ∃ i r : Nat, i ≤ l.length ∧ vi = .int .i64 (i : Int) ∧ v6 = .int .u64 (r : Nat) ∧ r < 18446744073709551616 ∧ Hid (rowN f (l.drop i) r i = (R, M))) (fun _ _ _ _ _ vi _ => l.length - (intOf vi).toNat)
  case atStart => exact ⟨rfl, 0, 1, by omega, rfl, rfl, by omega, HR⟩
  case round =>
    obtain ⟨rfl, i, r, hi, rfl, rfl, hr, HF⟩ := hrel
    by_cases hlt : i < l.length
    · have hltI : (i : Int) < (l.length : Int) := by omega
      have hcap : (l.length : Int) ≤ (cap : Int) := by omega
      obtain ⟨g, o, rfl, y0, hp⟩ := HA.out.at i hlt
      have HF2 : Hid ((if f ≤ l[i] ∧ (l[i] - f) % 8 = 0 ∧ l[i] - f < 504 then rowN f (l.drop (i + 1)) (r ||| 2 ^ (1 + (l[i] - f) / 8)) (i + 1) else (r, i)) = (R, M)) := by rw [Hid, ← rowN_at f l i r i hlt]; exact HF.out
      generalize l[i] = p at *
      clear HF
      by_cases hfp : f ≤ p
      · obtain ⟨d, hd⟩ : ∃ d, p = f + d := ⟨p - f, by omega⟩
        have hS := num_Sub_yes (p : Int) (f : Int) wr (by omega) (by omega) (by omega)
        have e1 : (p : Int) - (f : Int) = (d : Int) := by omega
        rw [e1] at hS
        have e2 : p - f = d := by omega
        rw [e2] at HF2
        clear e1 e2
        by_cases hok : d % 8 = 0 ∧ d < 504
        · obtain ⟨q, hq⟩ : ∃ q, d / 8 = q := ⟨_, rfl⟩
          have HF3 : Hid (rowN f (l.drop (i + 1)) (r ||| 2 ^ (1 + q)) (i + 1) = (R, M)) := by
            have := HF2.out
            rw [if_pos ⟨hfp, hok.1, hok.2⟩, hq] at this
            exact this
          have m0 : ((d : Int) % 8 != 0) = false := by simp; omega
          have m1 : ¬ (504 : Int) ≤ (d : Int) := by omega
          have q1 : (d : Int) / 8 = (q : Int) := by omega
          have q2 : (q : Int) ≤ 62 := by omega
          clear HF2 hq hd
          go_wp2_with fail
          refine hS.mono ?_
          rintro e w1 ⟨rfl, rfl⟩
          clear hS
          have hor := or_bit r q hr (by omega)
          have hor1 := hor.1
          have hor2 := hor.2
          generalize r ||| 2 ^ (1 + q) = r' at *
          clear hor
          go_wp2
          go_roundw
          case rel => exact ⟨by trivial, i + 1, r', by omega, by go_num, by first | rfl | rw [hor1], hor2, HF3⟩
          case measure => simp [intOf]; omega
        · have HF3 : Hid ((r, i) = (R, M)) := by
            have := HF2.out
            rw [if_neg (fun k => hok k.2)] at this
            exact this
          have hRM : r = R ∧ i = M := by have := HF3.out; injection this with h1 h2; exact ⟨h1, h2⟩
          obtain ⟨rfl, rfl⟩ := hRM
          clear HF2 HF3 hd
          by_cases h8 : d % 8 = 0
          · have m0 : ((d : Int) % 8 != 0) = false := by simp; omega
            have m1 : (504 : Int) ≤ (d : Int) := by omega
            go_wp2_with fail
            refine hS.mono ?_
            rintro e w1 ⟨rfl, rfl⟩
            clear hS
            go_wp2
            go_ret2
            exact ⟨rfl, rfl⟩
          · have m0 : ((d : Int) % 8 != 0) = true := by simp; omega
            go_wp2_with fail
            refine hS.mono ?_
            rintro e w1 ⟨rfl, rfl⟩
            clear hS
            go_wp2
            go_ret2
            exact ⟨rfl, rfl⟩
      · have hS := num_Sub_no (p : Int) (f : Int) wr (by omega)
        have HF3 : Hid ((r, i) = (R, M)) := by
          have := HF2.out
          rw [if_neg (fun k => hfp k.1)] at this
          exact this
        have hRM : r = R ∧ i = M := by have := HF3.out; injection this with h1 h2; exact ⟨h1, h2⟩
        obtain ⟨rfl, rfl⟩ := hRM
        clear HF2 HF3
        go_wp2_with fail
        refine hS.mono ?_
        rintro e w1 ⟨rfl, rfl⟩
        clear hS
        go_wp2
        go_ret2
        exact ⟨rfl, rfl⟩
    · have him : i = l.length := by omega
      subst him
      have hRM : r = R ∧ l.length = M := by
        have := HF.out
        rw [rowN_end] at this
        injection this with h1 h2; exact ⟨h1, h2⟩
      obtain ⟨rfl, rfl⟩ := hRM
      go_wp2
      go_ret2
      exact ⟨rfl, rfl⟩
/-- What Encode answers. -/
def EnrIs (w' : World) (B : Nat) (o : Option (List UInt8)) (e : Ending) : Prop :=
  match o with
  | none => e = .returned (.tuple #[.slice none 0 0, .int .i64 130])
  | some b => ∃ v, e = .returned (.tuple #[v, .int .i64 0]) ∧ Own w' B v b
theorem encF_row {n f : Nat} {s : List Nat} {R M : Nat} (hn : s.length ≤ n) (hR : rowN f s 1 0 = (R, M)) (hM : 0 < M) : ∃ k, n = k + 1 ∧ encF n f s = R :: encF k (f + 504) (s.drop M) := by
  cases s with
  | nil => rw [rowN] at hR; injection hR with _ h2; omega
  | cons p t =>
    cases n with
    | zero => simp at hn
    | succ n =>
      refine ⟨n, rfl, ?_⟩
      rw [encF, hR, if_pos hM]
theorem encF_stop {n f : Nat} {s : List Nat} {R : Nat} (hn : s.length ≤ n) (hR : rowN f s 1 0 = (R, 0)) : ∃ k, s.length ≤ k + 1 ∧ k ≤ n ∧ encF n f s = encT k s := by
  cases s with
  | nil => exact ⟨0, by simp, by omega, by rw [encF_nil]; rfl⟩
  | cons p t =>
    cases n with
    | zero => simp at hn
    | succ n =>
      refine ⟨n, by simpa using hn, by omega, ?_⟩
      rw [encF, hR, if_neg (by simp)]
      rfl
theorem encF_len : ∀ (n f : Nat) (s : List Nat), (encF n f s).length ≤ s.length
  | 0, f, s => by simp [encF]
  | n + 1, f, [] => by simp [encF]
  | n + 1, f, p :: t => by
    rw [encF]
    split
    · rename_i hc
      have h1 := encF_len n (f + 504) ((p :: t).drop (rowN f (p :: t) 1 0).2)
      rw [List.length_drop] at h1
      have h2 := (rowN_le f (p :: t) 1 0).2
      simp only [List.length_cons] at *
      omega
    · have := encF_len n (p + 8) t
      simp only [List.length_cons]; omega
theorem encW_len (l : List Nat) : (encW l).length ≤ l.length := by
  unfold encW encT
  cases l with
  | nil => simp
  | cons p t => have := encF_len (p :: t).length (p + 8) t; simp only [List.length_cons] at *; omega
/-- Where all places can be told, so can those behind. -/
theorem fitP_drop : ∀ (l : List Nat) (a : Nat), fitP a l = true → ∀ k, fitP 0 (l.drop k) = true
  | [], _, _, k => by simp [fitP]
  | p :: t, a, h, 0 => by
    simp only [fitP, Bool.and_eq_true, decide_eq_true_eq] at h
    rw [List.drop_zero]
    simp only [fitP, Bool.and_eq_true, decide_eq_true_eq]
    exact ⟨⟨h.1.1, by omega, h.1.2.2⟩, h.2⟩
  | p :: t, a, h, k + 1 => by
    simp only [fitP, Bool.and_eq_true, decide_eq_true_eq] at h
    rw [List.drop_succ_cons]
    exact fitP_drop t _ h.2 k
theorem fitP_head {s : List Nat} {a p : Nat} {t : List Nat} (h : fitP a s = true) (e : s = p :: t) : p ≤ 18446744073709551103 ∧ fitP (p + 8) t = true := by
  subst e
  simp only [fitP, Bool.and_eq_true, decide_eq_true_eq] at h
  exact ⟨h.1.2.2, h.2⟩
/-- A row that tells a place counts on to a place. -/
theorem row_room {f : Nat} {s : List Nat} {a R M : Nat} (h : fitP a s = true) (hR : rowN f s 1 0 = (R, M)) (hM : 0 < M) : f ≤ 18446744073709551103 := by
  cases s with
  | nil => rw [rowN] at hR; injection hR with _ h2; omega
  | cons p t =>
    have h1 := (fitP_head h rfl).1
    rw [rowN] at hR
    split at hR
    · rename_i hc; omega
    · injection hR with _ h2; omega
end Go.Proofs.YtkelipoiopkokaaDoor
