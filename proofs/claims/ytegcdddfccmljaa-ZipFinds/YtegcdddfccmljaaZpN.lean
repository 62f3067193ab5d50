
/-
  Layer 7's reference: numbers at places, and the last part.
-/
import Derived.Test.YtegcdddfccmljaaZpM
set_option linter.unusedVariables false
namespace Go.Proofs.Ytegcdddfccmljaa
open Go.RowKit Go.PlainAid
def unitN (i : Nat) : Nat := 256 ^ i % 18446744073709551616
theorem unitN_lt (i : Nat) (h : i < 8) : unitN i = 256 ^ i ∧ 256 ^ i ≤ 72057594037927936 := by
  have h1 : 256 ^ i ≤ 256 ^ 7 := Nat.pow_le_pow_right (by omega) (by omega)
  have e : (256 : Nat) ^ 7 = 72057594037927936 := by decide
  rw [e] at h1
  exact ⟨Nat.mod_eq_of_lt (by omega), h1⟩
theorem unitN_step (i : Nat) : (unitN i : Int) * 256 % 18446744073709551616 = (unitN (i + 1) : Int) := by
  unfold unitN
  rw [Nat.pow_succ]
  omega
theorem get_step (l : List UInt8) (p i : Nat) (h : p + i < l.length) (h8 : i < 8) (c : UInt8) (hc : l.getD (p + i) 0 = c) :
    (c.toNat : Int) * (unitN i : Int) ≤ 18374686479671623680 ∧ (rdN (win l p i) : Int) + (c.toNat : Int) * (unitN i : Int) = (rdN (win l p (i + 1)) : Int) ∧ rdN (win l p (i + 1)) < 18446744073709551616 := by
  have hu := unitN_lt i h8
  have h2 := rdN_win_lt l p (i + 1) (by omega)
  have h3 : 2 ^ (8 * (i + 1)) ≤ 2 ^ 64 := Nat.pow_le_pow_right (by omega) (by omega)
  have e64 : (2 : Nat) ^ 64 = 18446744073709551616 := by decide
  have hc8 := c.toNat_lt
  rw [rdN_win_snoc l p i h, hc, ← pow256] at h2 ⊢
  rw [hu.1]
  have h5 : c.toNat * 256 ^ i ≤ 255 * 72057594037927936 := Nat.mul_le_mul (by omega) hu.2
  refine ⟨?_, ?_, by omega⟩
  · rw [← Int.natCast_mul]; omega
  · rw [← Int.natCast_mul]; omega
theorem ref_Get_no (w : World) (v : Value) (l : List UInt8) (h : Arg w v l) (p s : Nat) (hp : (p : Int) ≤ 18446744073709551615) (hs : s ≤ 8) (hno : ¬ p + s ≤ l.length) :
    Calls Try.prog 38 #[v, .int .u64 p, .int .i64 s] w fun e w' => e = .returned (.tuple #[.int .u64 0, .int .i64 20]) ∧ w = w' := by
  obtain ⟨a, cap, rfl, _, _, hl⟩ := h.isSlice
  clear h
  by_cases hlt : l.length < p
  · have hlt2 : (l.length : Int) < (p : Int) := by omega
    go_enter Try.func38, Try.ntmps38
    go_wp2
    go_ret2
    exact ⟨rfl, rfl⟩
  · have hlt2 : ¬ (l.length : Int) < (p : Int) := by omega
    have hlt3 : (l.length : Int) - (p : Int) < (s : Int) := by omega
    go_enter Try.func38, Try.ntmps38
    go_wp2
    go_ret2
    exact ⟨rfl, rfl⟩
set_option maxHeartbeats 1000000 in
theorem ref_Get_yes (w : World) (v : Value) (l : List UInt8) (h : Arg w v l) (p s : Nat) (hs : s ≤ 8) (hs0 : 0 < s) (hyes : p + s ≤ l.length) :
    Calls Try.prog 38 #[v, .int .u64 p, .int .i64 s] w fun e w' => e = .returned (.tuple #[.int .u64 (rdN (win l p s)), .int .i64 0]) ∧ w = w' := by
  obtain ⟨g, o, cap, rfl, hc1, hc2, hc⟩ := h.cells (by omega)
  obtain ⟨_, _, _, _, _, hl⟩ := h.isSlice
  have hlt2 : ¬ (l.length : Int) < (p : Int) := by omega
  have hlt3 : ¬ (l.length : Int) - (p : Int) < (s : Int) := by omega
  have HC : Hid (∀ j, j < l.length → w.cell? ⟨g, o + j, none⟩ = some (.int .u8 ((l.getD j 0).toNat : Int))) := hc
  clear h hc
  go_enter Try.func38, Try.ntmps38
  go_wp2
  go_loopw [8, 9, 10] (fun vn vu vi wr => wr = w ∧ ∃ i : Nat, i ≤ s ∧ vi = .int .i64 i ∧ vu = .int .u64 (unitN i) ∧ vn = .int .u64 (rdN (win l p i))) (fun _ _ vi _ => s - (intOf vi).toNat)
  case atStart => exact ⟨rfl, 0, by omega, rfl, rfl, by simp [win, rdN]⟩
  case round =>
    obtain ⟨rfl, i, hi, rfl, rfl, rfl⟩ := hrel
    by_cases hlt : i < s
    · obtain ⟨c, hcc⟩ : ∃ c, l.getD (p + i) 0 = c := ⟨_, rfl⟩
      have hcell := HC.out (p + i) (by omega)
      obtain ⟨hm1, hm2, hm3⟩ := get_step l p i (by omega) (by omega) c hcc
      rw [hcc] at hcell
      have hcw : IntKind.u64.wrap (c.toNat : Int) = (c.toNat : Int) := by have := c.toNat_lt; rw [IntKind.wrap_u64]; omega
      have hmw : IntKind.u64.wrap ((c.toNat : Int) * (unitN i : Int)) = (c.toNat : Int) * (unitN i : Int) := by
        have h0 : 0 ≤ (c.toNat : Int) * (unitN i : Int) := by rw [← Int.natCast_mul]; omega
        rw [IntKind.wrap_u64]; omega
      have hnw : IntKind.u64.wrap ((rdN (win l p i) : Int) + (c.toNat : Int) * (unitN i : Int)) = (rdN (win l p (i + 1)) : Int) := by rw [hm2, IntKind.wrap_u64]; omega
      have huw : IntKind.u64.wrap ((unitN i : Int) * 256) = (unitN (i + 1) : Int) := by rw [IntKind.wrap_u64]; exact unitN_step i
      have hpl : (p : Int) + (i : Int) < (l.length : Int) := by omega
      have HM : Hid ((rdN (win l p i) : Int) + (c.toNat : Int) * (unitN i : Int) = (rdN (win l p (i + 1)) : Int)) := hm2
      clear hm1 hm2 hm3 hcc
      generalize hX : (rdN (win l p i) : Int) = X at *
      generalize hY : (rdN (win l p (i + 1)) : Int) = Y at *
      generalize hU : (unitN i : Int) = U at *
      generalize hV : (unitN (i + 1) : Int) = V at *
      go_wp2
      go_roundw
      case rel => exact ⟨trivial, i + 1, by omega, by go_num, by rw [hV], by rw [hY]⟩
      case measure => simp [intOf]; omega
    · have his : i = s := by omega
      subst his
      go_wp2
      go_ret2
      exact ⟨rfl, rfl⟩
theorem ref_n (w : World) (v : Value) (l : List UInt8) (h : Arg w v l) (p s : Nat) (hp : (p : Int) ≤ 18446744073709551615) (hs : s ≤ 8) (hs0 : 0 < s) :
    Calls Try.prog 18 #[v, .int .u64 p, .int .i64 s] w fun e w' => e = .returned (.int .u64 (rd l p s)) ∧ w = w' := by
  by_cases hi : p + s ≤ l.length
  · have hU := ref_Get_yes w v l h p s hs hs0 hi
    rw [rd_in hi]
    obtain ⟨a, cap, rfl, _⟩ := h.isSlice
    clear h hi
    go_enter Try.func18, Try.ntmps18
    go_wp2_with fail
    refine hU.mono ?_
    rintro e w1 ⟨rfl, rfl⟩
    go_wp2
    go_ret
    exact ⟨rfl, rfl⟩
  · have hU := ref_Get_no w v l h p s hp hs hi
    have e0 : rd l p s = 0 := if_neg hi
    rw [e0]
    obtain ⟨a, cap, rfl, _⟩ := h.isSlice
    clear h hi
    go_enter Try.func18, Try.ntmps18
    go_wp2_with fail
    refine hU.mono ?_
    rintro e w1 ⟨rfl, rfl⟩
    go_wp2
    go_ret
    exact ⟨rfl, rfl⟩
def lastW : Option Nat → Value
  | none => .tuple #[.int .i64 0, .bool false]
  | some a => .tuple #[.int .i64 a, .bool true]
theorem lastFrom_short (l : List UInt8) (k r : Nat) (h : l.length < 22 + r) : lastFrom l k r = none := by
  cases k with
  | zero => rfl
  | succ k => rw [lastFrom, if_pos h]
set_option maxHeartbeats 1000000 in
theorem ref_Last (w : World) (v : Value) (l : List UInt8) (h : Arg w v l) (hl : l.length ≤ 1000000) :
    Calls Try.prog 17 #[v] w fun e w' => e = .returned (lastW (lastOf l)) ∧ w = w' := by
  have HA : Hid (Arg w v l) := h
  obtain ⟨a, cap, rfl, _, _, _⟩ := h.isSlice
  clear h
  have HO : Hid (lastOf l = lastFrom l 65536 0) := rfl
  generalize lastOf l = O at *
  obtain ⟨n, hn⟩ : ∃ n, l.length = n := ⟨_, rfl⟩
  have HN : Hid (l.length = n) := hn
  rw [hn] at hl ⊢ HA
  clear hn
  have hnI : (n : Int) ≤ 1000000 := by omega
  go_enter Try.func17, Try.ntmps17
  go_wp2
  go_loopw [4, 5] (fun v4 _ wr => wr = w ∧ ∃ (r : Nat) (q : Int), r ≤ 65536 ∧ q = (n : Int) - 22 - (r : Int) ∧ v4 = .int .i64 q ∧ Hid (O = lastFrom l (65536 - r) r)) (fun v4 _ _ => (intOf v4 + 65600).toNat)
  case atStart => exact ⟨rfl, 0, (n : Int) - 22, by omega, by omega, rfl, HO⟩
  case round =>
    obtain ⟨rfl, r, q, hr, hq, rfl, HR⟩ := hrel
    by_cases h0 : q < 0
    · have hO := HR.out
      rw [lastFrom_short l _ _ (by rw [HN.out]; omega)] at hO
      subst hO
      have hD : decide (0 ≤ q) = false := decide_eq_false (by omega)
      clear HR hq
      go_wp2
      go_ret2
      exact ⟨rfl, rfl⟩
    · by_cases h1 : r = 65536
      · subst h1
        have hO := HR.out
        rw [show 65536 - 65536 = 0 from rfl, lastFrom] at hO
        subst hO
        have hD0 : decide (0 ≤ q) = true := decide_eq_true (by omega)
        have hD : decide ((n : Int) - 22 - 65535 ≤ q) = false := decide_eq_false (by omega)
        have h0' : 0 ≤ q := by omega
        clear HR hq h0
        go_wp2
        go_ret2
        exact ⟨rfl, rfl⟩
      · have hD : decide ((n : Int) - 22 - 65535 ≤ q) = true := decide_eq_true (by omega)
        have hD2 : (n : Int) - 22 - 65535 ≤ q := by omega
        obtain ⟨p, rfl⟩ : ∃ p : Nat, q = (p : Int) := ⟨q.toNat, by omega⟩
        have hstep := HR.out
        rw [show 65536 - r = (65535 - r) + 1 by omega, lastFrom, HN.out, if_neg (by omega), show n - (22 + r) = p by omega] at hstep
        have h4 := ref_n wr _ l HA.out p 4 (by omega) (by omega) (by omega)
        have h2 := ref_n wr _ l HA.out (p + 20) 2 (by omega) (by omega) (by omega)
        have hpn : (p : Int) ≤ 1000000 := by omega
        have hrv : (n : Int) - (p : Int) - 22 = (r : Int) := by omega
        have hrI : (r : Int) ≤ 65535 := by omega
        generalize rd l p 4 = q4 at *
        generalize rd l (p + 20) 2 = q2 at *
        have HQ := hide hq
        clear HR hq h0
        by_cases c4 : q4 = 101010256
        · subst c4
          by_cases c2 : q2 = r
          · subst c2
            rw [if_pos ⟨rfl, rfl⟩] at hstep
            subst hstep
            have hb : ((q2 : Int) == (q2 : Int)) = true := by simp
            go_wp2_with fail
            refine h4.mono ?_
            rintro e w1 ⟨rfl, rfl⟩
            go_wp2_with fail
            refine h2.mono ?_
            rintro e w1 ⟨rfl, rfl⟩
            go_wp2
            go_ret2
            exact ⟨rfl, rfl⟩
          · rw [if_neg (fun e => c2 e.2)] at hstep
            have hb : ((q2 : Int) == (r : Int)) = false := by simp; omega
            have HR2 : Hid (O = lastFrom l (65536 - (r + 1)) (r + 1)) := by rw [Hid, show 65536 - (r + 1) = 65535 - r by omega]; exact hstep
            clear hstep c2
            go_wp2_with fail
            refine h4.mono ?_
            rintro e w1 ⟨rfl, rfl⟩
            go_wp2_with fail
            refine h2.mono ?_
            rintro e w1 ⟨rfl, rfl⟩
            go_wp2
            go_roundw
            case rel => exact ⟨trivial, r + 1, (p : Int) - 1, by omega, by have := HQ.out; omega, by go_num, HR2⟩
            case measure => simp [intOf]; omega
        · rw [if_neg (fun e => c4 e.1)] at hstep
          have hb : ((q4 : Int) == 101010256) = false := by simp; omega
          have HR2 : Hid (O = lastFrom l (65536 - (r + 1)) (r + 1)) := by rw [Hid, show 65536 - (r + 1) = 65535 - r by omega]; exact hstep
          clear hstep c4
          go_wp2_with fail
          refine h4.mono ?_
          rintro e w1 ⟨rfl, rfl⟩
          go_wp2
          go_roundw
          case rel => exact ⟨trivial, r + 1, (p : Int) - 1, by omega, by have := HQ.out; omega, by go_num, HR2⟩
          case measure => simp [intOf]; omega
end Go.Proofs.Ytegcdddfccmljaa
