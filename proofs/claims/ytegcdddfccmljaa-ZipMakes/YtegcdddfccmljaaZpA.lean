
/-
  Layer 7 (zip): numbers at places, and where an archive's last part stands.
-/
import Derived.Test.YtegcdddfccmljaaBufC
import Derived.Lib.BufferRead
set_option linter.unusedVariables false
namespace Go.Proofs.Ytegcdddfccmljaa
open Go.RowKit Go.PlainAid
/-- 'string(b)' of a row that was handed in. -/
theorem Arg.text {w : World} {v : Value} {l : List UInt8} (h : Arg w v l) : (convert 22 9 v).run Try.prog w = .ok (.string ⟨l.toArray⟩) w := by
  obtain ⟨a, cap, rfl, h1, h2, h3, h4⟩ := h
  rcases h4 with ⟨rfl, rfl, rfl⟩ | ⟨x, rfl, hc⟩
  · exact Lib.run_convert_nil_bytes w 22 9 5 0 Try.underlying22 Try.underlying5 Try.underlying9
  · exact run_convert_bytes_back (P := Try.prog) w 22 9 5 x cap l Try.underlying22 Try.underlying5 Try.underlying9 hc
theorem Arg.alloc {w : World} {v : Value} {l : List UInt8} (h : Arg w v l) (x : Obj) : Arg (w.alloc x) v l := h.below ((Below.refl _ _).alloc (Nat.le_refl _) x) rfl
/-- The number of s bytes at a place; 0, if they aren't there. -/
def rd (l : List UInt8) (p s : Nat) : Nat := if p + s ≤ l.length then rdN (win l p s) else 0
theorem rd_lt (l : List UInt8) (p s : Nat) : rd l p s < 2 ^ (8 * s) := by
  unfold rd; split
  · exact rdN_win_lt l p s ‹_›
  · exact Nat.two_pow_pos _
theorem rd2 (l : List UInt8) (p : Nat) : rd l p 2 < 65536 := rd_lt l p 2
theorem rd4 (l : List UInt8) (p : Nat) : rd l p 4 < 4294967296 := rd_lt l p 4
theorem rd_in {l : List UInt8} {p s : Nat} (h : p + s ≤ l.length) : rd l p s = rdN (win l p s) := if_pos h
theorem zip_two (w : World) (v : Value) (l : List UInt8) (h : Arg w v l) (p : Nat) (hp : (p : Int) ≤ 18446744073709551615) :
    Calls Try.prog 34 #[v, .int .u64 p] w fun e w' => e = .returned (.int .u64 (rd l p 2)) ∧ w = w' := by
  by_cases hi : p + 2 ≤ l.length
  · have hU := le_U16_yes w v l h p hi
    have hlt := rd_lt l p 2
    rw [rd_in hi] at hlt ⊢
    obtain ⟨a, cap, rfl, _⟩ := h.isSlice
    clear h hi
    generalize rdN (win l p 2) = q at *
    have h3 : (q : Int) < 65536 := by have : q < 65536 := hlt; omega
    clear hlt
    go_enter Try.func34, Try.ntmps34
    go_wp2_with fail
    refine hU.mono ?_
    rintro e w1 ⟨rfl, rfl⟩
    go_wp2
    go_ret
    exact ⟨rfl, rfl⟩
  · have hU := le_U16_no w v l h p hp hi
    have e0 : rd l p 2 = 0 := if_neg hi
    rw [e0]
    obtain ⟨a, cap, rfl, _⟩ := h.isSlice
    clear h hi
    go_enter Try.func34, Try.ntmps34
    go_wp2_with fail
    refine hU.mono ?_
    rintro e w1 ⟨rfl, rfl⟩
    go_wp2
    go_ret
    exact ⟨rfl, rfl⟩
theorem zip_four (w : World) (v : Value) (l : List UInt8) (h : Arg w v l) (p : Nat) (hp : (p : Int) ≤ 18446744073709551615) :
    Calls Try.prog 35 #[v, .int .u64 p] w fun e w' => e = .returned (.int .u64 (rd l p 4)) ∧ w = w' := by
  by_cases hi : p + 4 ≤ l.length
  · have hU := le_U32_yes w v l h p hi
    have hlt := rd_lt l p 4
    rw [rd_in hi] at hlt ⊢
    obtain ⟨a, cap, rfl, _⟩ := h.isSlice
    clear h hi
    generalize rdN (win l p 4) = q at *
    have h3 : (q : Int) < 4294967296 := by have : q < 4294967296 := hlt; omega
    clear hlt
    go_enter Try.func35, Try.ntmps35
    go_wp2_with fail
    refine hU.mono ?_
    rintro e w1 ⟨rfl, rfl⟩
    go_wp2
    go_ret
    exact ⟨rfl, rfl⟩
  · have hU := le_U32_no w v l h p hp hi
    have e0 : rd l p 4 = 0 := if_neg hi
    rw [e0]
    obtain ⟨a, cap, rfl, _⟩ := h.isSlice
    clear h hi
    go_enter Try.func35, Try.ntmps35
    go_wp2_with fail
    refine hU.mono ?_
    rintro e w1 ⟨rfl, rfl⟩
    go_wp2
    go_ret
    exact ⟨rfl, rfl⟩
theorem zip_has (w : World) (v : Value) (l : List UInt8) (h : Arg w v l) (p s : Nat) (hp : (p : Int) ≤ 18446744073709551615) :
    Calls Try.prog 39 #[v, .int .u64 p, .int .u64 s] w fun e w' => e = .returned (.bool (decide (p + s ≤ l.length))) ∧ w = w' := by
  obtain ⟨a, cap, rfl, _, _, hl⟩ := h.isSlice
  have hI := num_Inside (p : Int) (s : Int) 0 (l.length : Int) w (by omega) hp (by omega) (by omega) (by omega) (by omega)
  have he : inB (p : Int) (s : Int) 0 (l.length : Int) = decide (p + s ≤ l.length) := by unfold inB; rw [decide_eq_decide]; omega
  rw [he] at hI
  clear he h
  go_enter Try.func39, Try.ntmps39
  go_wp2_with fail
  refine hI.mono ?_
  rintro e w1 ⟨rfl, rfl⟩
  go_wp2
  go_ret
  exact ⟨rfl, rfl⟩
/-- Where the last part stands, looked for from a remark of r bytes on. -/
def lastFrom (l : List UInt8) : Nat → Nat → Option Nat
  | 0, _ => none
  | k + 1, r => if l.length < 22 + r then none else if rd l (l.length - (22 + r)) 4 = 101010256 ∧ rd l (l.length - (22 + r) + 20) 2 = r then some (l.length - (22 + r)) else lastFrom l k (r + 1)
def lastOf (l : List UInt8) : Option Nat := lastFrom l 65536 0
theorem lastFrom_is (l : List UInt8) : ∀ k r a, lastFrom l k r = some a → a + 22 ≤ l.length
  | 0, _, _, h => by simp [lastFrom] at h
  | k + 1, r, a, h => by
    rw [lastFrom] at h
    split at h
    · simp at h
    · split at h
      · simp at h; omega
      · exact lastFrom_is l k (r + 1) a h
theorem lastOf_is {l : List UInt8} {a : Nat} (h : lastOf l = some a) : a + 22 ≤ l.length := lastFrom_is l _ _ _ h
def lastV : Option Nat → Value
  | none => .tuple #[.int .u64 0, .bool false]
  | some a => .tuple #[.int .u64 a, .bool true]
set_option maxHeartbeats 1000000 in
theorem zip_findLast (w : World) (v : Value) (l : List UInt8) (h : Arg w v l) (hl : l.length ≤ 1000000) :
    Calls Try.prog 33 #[v] w fun e w' => e = .returned (lastV (lastOf l)) ∧ w = w' := by
  have HA : Hid (Arg w v l) := h
  obtain ⟨a, cap, rfl, _, _, _⟩ := h.isSlice
  clear h
  have HO : Hid (lastOf l = lastFrom l 65536 0) := rfl
  generalize lastOf l = O at *
  obtain ⟨n, hn⟩ : ∃ n, l.length = n := ⟨_, rfl⟩
  have HN : Hid (l.length = n) := hn
  rw [hn] at hl ⊢ HA
  clear hn
  go_enter Try.func33, Try.ntmps33
  go_wp2
  go_loopw [4, 5, 6, 7] (fun _ _ _ vr wr => wr = w ∧ ∃ r : Nat, r ≤ 65536 ∧ vr = .int .u64 r ∧ Hid (O = lastFrom l (65536 - r) r)) (fun _ _ _ vr _ => 65536 - (intOf vr).toNat)
  case atStart => exact ⟨rfl, 0, by omega, rfl, HO⟩
  case round =>
    obtain ⟨rfl, r, hr, rfl, HR⟩ := hrel
    by_cases hlt : r < 65536
    · have hltI : (r : Int) < 65536 := by omega
      have hstep := HR.out
      rw [show 65536 - r = (65535 - r) + 1 by omega, lastFrom, HN.out] at hstep
      by_cases hs : n < 22 + r
      · rw [if_pos hs] at hstep
        subst hstep
        have hS := num_Sub_no (n : Int) (22 + (r : Int)) wr (by omega)
        clear HR
        go_wp2_with fail
        refine hS.mono ?_
        rintro e w1 ⟨rfl, rfl⟩
        go_wp2
        go_ret2
        exact ⟨rfl, rfl⟩
      · rw [if_neg hs] at hstep
        obtain ⟨p, hp⟩ : ∃ p, n = p + (22 + r) := ⟨n - (22 + r), by omega⟩
        have hS := num_Sub_yes (n : Int) (22 + (r : Int)) wr (by omega) (by omega) (by omega)
        rw [show (n : Int) - (22 + (r : Int)) = (p : Int) by omega] at hS
        rw [show n - (22 + r) = p by omega] at hstep
        have h4 := zip_four wr _ l HA.out p (by omega)
        have h2 := zip_two wr _ l HA.out (p + 20) (by omega)
        have hpn : (p : Int) ≤ 1000000 := by omega
        generalize rd l p 4 = q4 at *
        generalize rd l (p + 20) 2 = q2 at *
        have HP : Hid (n = p + (22 + r)) := hp
        clear hp hs HR
        by_cases c4 : q4 = 101010256
        · subst c4
          by_cases c2 : q2 = r
          · subst c2
            rw [if_pos ⟨rfl, rfl⟩] at hstep
            subst hstep
            have hb : ((q2 : Int) == (q2 : Int)) = true := by simp
            go_wp2_with fail
            refine hS.mono ?_
            rintro e w1 ⟨rfl, rfl⟩
            go_wp2_with fail
            refine h4.mono ?_
            rintro e w1 ⟨rfl, rfl⟩
            go_wp2_with fail
            refine h2.mono ?_
            rintro e w1 ⟨rfl, rfl⟩
            go_wp2
            go_ret2
            exact ⟨rfl, rfl⟩
          · rw [if_neg (fun e => c2 e.2)] at hstep
            have hb : ((q2 : Int) == (r : Int)) = false := by simp; omega
            have HR2 : Hid (O = lastFrom l (65536 - (r + 1)) (r + 1)) := by rw [Hid, show 65536 - (r + 1) = 65535 - r by omega]; exact hstep
            clear hstep c2
            go_wp2_with fail
            refine hS.mono ?_
            rintro e w1 ⟨rfl, rfl⟩
            go_wp2_with fail
            refine h4.mono ?_
            rintro e w1 ⟨rfl, rfl⟩
            go_wp2_with fail
            refine h2.mono ?_
            rintro e w1 ⟨rfl, rfl⟩
            go_wp2
            go_roundw
            case rel => exact ⟨trivial, r + 1, by omega, by go_num, HR2⟩
            case measure => simp [intOf]; omega
        · rw [if_neg (fun e => c4 e.1)] at hstep
          have hb : ((q4 : Int) == 101010256) = false := by simp; omega
          have HR2 : Hid (O = lastFrom l (65536 - (r + 1)) (r + 1)) := by rw [Hid, show 65536 - (r + 1) = 65535 - r by omega]; exact hstep
          clear hstep c4
          go_wp2_with fail
          refine hS.mono ?_
          rintro e w1 ⟨rfl, rfl⟩
          go_wp2_with fail
          refine h4.mono ?_
          rintro e w1 ⟨rfl, rfl⟩
          go_wp2
          go_roundw
          case rel => exact ⟨trivial, r + 1, by omega, by go_num, HR2⟩
          case measure => simp [intOf]; omega
    · have hre : r = 65536 := by omega
      subst hre
      have hO := HR.out
      rw [show 65536 - 65536 = 0 from rfl, lastFrom] at hO
      subst hO
      clear HR
      go_wp2
      go_ret2
      exact ⟨rfl, rfl⟩
end Go.Proofs.Ytegcdddfccmljaa
