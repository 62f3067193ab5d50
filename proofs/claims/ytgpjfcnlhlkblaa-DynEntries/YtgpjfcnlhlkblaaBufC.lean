
/-
  le's To, Bytes, has, number, U16, U32, U64 and Part keep their contracts.
-/
import Derived.Test.YtgpjfcnlhlkblaaBufB
set_option linter.unusedVariables false
namespace Go.Proofs.Ytgpjfcnlhlkblaa
open Go.RowKit Go.PlainAid
/-- How many bytes 0 lead to the next multiple of a power of two. -/
def toN (n u : Nat) : Nat := (n + (u - 1)) / u * u - n
theorem toN_lt (n u : Nat) (h : 0 < u) : n ≤ (n + (u - 1)) / u * u ∧ (n + (u - 1)) / u * u - n < u := by
  have h1 := Nat.div_add_mod (n + (u - 1)) u
  have h2 := Nat.mod_lt (n + (u - 1)) h
  rw [Nat.mul_comm] at h1
  omega
theorem le_has (w : World) (a : Option Addr) (n cap : Nat) (at' size : Int) (ha0 : 0 ≤ at') (ha1 : at' ≤ 18446744073709551615) (hs0 : 0 ≤ size) (hn : n ≤ 140737488351232) :
    Calls Try.prog 57 #[.slice a n cap, .int .u64 at', .int .u64 size] w fun e w' => e = .returned (.bool (decide (at' + size ≤ n))) ∧ w = w' := by
  have hI := num_Inside at' size 0 (n : Int) w ha0 ha1 hs0 (by omega) (by omega) (by omega)
  have he : inB at' size 0 (n : Int) = decide (at' + size ≤ n) := by unfold inB; rw [decide_eq_decide]; omega
  rw [he] at hI
  clear he
  go_enter Try.func57, Try.ntmps57
  go_wp2_with fail
  refine hI.mono ?_
  rintro e w1 ⟨rfl, rfl⟩
  go_wp2
  go_ret
  exact ⟨rfl, rfl⟩
/-- The number that bytes say, the lowest one first. -/
def rdN : List UInt8 → Nat
  | [] => 0
  | c :: t => c.toNat + 256 * rdN t
theorem rdN_append : ∀ (l m : List UInt8), rdN (l ++ m) = rdN l + 256 ^ l.length * rdN m
  | [], m => by simp [rdN]
  | c :: l, m => by
    simp only [List.cons_append, rdN, List.length_cons]
    rw [rdN_append l m, Nat.pow_succ, Nat.mul_add, Nat.mul_comm (256 ^ l.length) 256, Nat.mul_assoc]
    omega
theorem rdN_lt : ∀ (l : List UInt8), rdN l < 256 ^ l.length
  | [] => by simp [rdN]
  | c :: l => by
    have := rdN_lt l
    have hc := c.toNat_lt
    simp only [rdN, List.length_cons]
    rw [Nat.pow_succ]
    omega
theorem rdN_leN : ∀ k n, rdN (leN k n) = n % 256 ^ k
  | 0, n => by simp [rdN, leN, Nat.mod_one]
  | k + 1, n => by
    simp only [leN, rdN]
    rw [rdN_leN k, Nat.pow_succ, Nat.mul_comm (256 ^ k) 256, Nat.mod_mul]
    have := b8_toNat (show n % 256 < 256 by omega)
    omega
/-- The first i bytes from a place on. -/
def win (l : List UInt8) (p i : Nat) : List UInt8 := (l.drop p).take i
theorem win_snoc (l : List UInt8) (p i : Nat) (h : p + i < l.length) : win l p (i + 1) = win l p i ++ [l.getD (p + i) 0] := by
  unfold win
  rw [List.take_add_one]
  congr 1
  simp [List.getD, List.getElem?_eq_getElem h]
theorem win_len (l : List UInt8) (p i : Nat) (h : p + i ≤ l.length) : (win l p i).length = i := by
  unfold win; simp; omega
theorem or_add (x a i : Nat) (h : x < 2 ^ i) : x ||| a * 2 ^ i = x + a * 2 ^ i := by
  have e := Nat.shiftLeft_add_eq_or_of_lt h a
  rw [Nat.shiftLeft_eq] at e
  rw [Nat.or_comm, ← e, Nat.add_comm]
theorem pow256 (k : Nat) : 256 ^ k = 2 ^ (8 * k) := by rw [Nat.pow_mul]
theorem rdN_win_snoc (l : List UInt8) (p i : Nat) (h : p + i < l.length) : rdN (win l p (i + 1)) = rdN (win l p i) + (l.getD (p + i) 0).toNat * 2 ^ (8 * i) := by
  rw [win_snoc l p i h, rdN_append, win_len l p i (by omega), pow256]
  simp only [rdN, Nat.mul_zero, Nat.add_zero]
  rw [Nat.mul_comm]
theorem rdN_win_lt (l : List UInt8) (p i : Nat) (h : p + i ≤ l.length) : rdN (win l p i) < 2 ^ (8 * i) := by
  have := rdN_lt (win l p i)
  rwa [win_len l p i h, pow256] at this
theorem or_step (l : List UInt8) (p i : Nat) (h : p + i < l.length) (h8 : i < 8) (c : UInt8) (hc : l.getD (p + i) 0 = c) :
    bits .or .u64 (rdN (win l p i) : Int) (IntKind.u64.wrap ((c.toNat : Int) * 2 ^ (8 * i))) = (rdN (win l p (i + 1)) : Int) := by
  have h1 := rdN_win_lt l p i (by omega)
  have h2 := rdN_win_lt l p (i + 1) (by omega)
  rw [rdN_win_snoc l p i h, hc] at h2 ⊢
  have h3 : 2 ^ (8 * (i + 1)) ≤ 2 ^ 64 := Nat.pow_le_pow_right (by omega) (by omega)
  have e64 : (2 : Nat) ^ 64 = 18446744073709551616 := by decide
  have e1 : (c.toNat : Int) * 2 ^ (8 * i) = ((c.toNat * 2 ^ (8 * i) : Nat) : Int) := by
    rw [Int.natCast_mul, Int.natCast_pow]; rfl
  rw [e1, IntKind.wrap_u64, Int.emod_eq_of_lt (by omega) (by omega), bits_or_u64_nat _ _ (by omega) (by omega), or_add _ _ _ h1]
/-- The cells of a row that was handed in. -/
theorem Arg.cells {w : World} {v : Value} {l : List UInt8} (h : Arg w v l) (hne : 0 < l.length) : ∃ g o cap, v = .slice (some ⟨g, o, none⟩) l.length cap ∧ l.length ≤ cap ∧ cap ≤ maxLen ∧
    (∀ j, j < l.length → w.cell? ⟨g, o + j, none⟩ = some (.int .u8 ((l.getD j 0).toNat : Int))) := by
  obtain ⟨a, cap, rfl, h1, h2, h3, h4⟩ := h
  rcases h4 with ⟨_, rfl, _⟩ | ⟨x, rfl, hc⟩
  · simp at hne
  · obtain ⟨g, o, spot⟩ := x
    have hspot : spot = none := by simpa [Addr.add] using World.cell?_spot (hc 0 hne)
    subst hspot
    refine ⟨g, o, cap, rfl, h1, h2, fun j hj => ?_⟩
    rw [← add_at, hc j hj]
    simp [List.getD, List.getElem?_eq_getElem hj]
theorem Arg.isSlice {w : World} {v : Value} {l : List UInt8} (h : Arg w v l) : ∃ a cap, v = .slice a l.length cap ∧ l.length ≤ cap ∧ cap ≤ maxLen ∧ l.length ≤ 140737488351232 := by
  obtain ⟨a, cap, rfl, h1, h2, h3, _⟩ := h
  exact ⟨a, cap, rfl, h1, h2, h3⟩
theorem le_number_no (w : World) (v : Value) (l : List UInt8) (h : Arg w v l) (p s : Nat) (hp : (p : Int) ≤ 18446744073709551615) (hno : ¬ p + s ≤ l.length) :
    Calls Try.prog 61 #[v, .int .u64 p, .int .u64 s] w fun e w' => e = .returned (.tuple #[.int .u64 0, .int .i64 20]) ∧ w = w' := by
  obtain ⟨a, cap, rfl, _, _, hl⟩ := h.isSlice
  have hH := le_has w a l.length cap (p : Int) (s : Int) (by omega) hp (by omega) hl
  have he : decide ((p : Int) + (s : Int) ≤ (l.length : Int)) = false := by simp; omega
  rw [he] at hH
  clear he hno h
  go_enter Try.func61, Try.ntmps61
  go_wp2_with fail
  refine hH.mono ?_
  rintro e w1 ⟨rfl, rfl⟩
  go_wp2
  go_ret2
  exact ⟨rfl, rfl⟩
set_option maxHeartbeats 400000 in
theorem le_number_yes (w : World) (v : Value) (l : List UInt8) (h : Arg w v l) (p s : Nat) (hs : s ≤ 8) (hs0 : 0 < s) (hyes : p + s ≤ l.length) :
    Calls Try.prog 61 #[v, .int .u64 p, .int .u64 s] w fun e w' => e = .returned (.tuple #[.int .u64 (rdN (win l p s)), .int .i64 0]) ∧ w = w' := by
  obtain ⟨g, o, cap, rfl, hc1, hc2, hc⟩ := h.cells (by omega)
  obtain ⟨_, _, _, _, _, hl⟩ := h.isSlice
  have hH := le_has w (some ⟨g, o, none⟩) l.length cap (p : Int) (s : Int) (by omega) (by omega) (by omega) hl
  have he : decide ((p : Int) + (s : Int) ≤ (l.length : Int)) = true := by simp; omega
  rw [he] at hH
  have HC : Hid (∀ j, j < l.length → w.cell? ⟨g, o + j, none⟩ = some (.int .u8 ((l.getD j 0).toNat : Int))) := hc
  clear he h hc
  go_enter Try.func61, Try.ntmps61
  go_wp2_with fail
  refine hH.mono ?_
  rintro e w1 ⟨rfl, rfl⟩
  go_wp2
  go_loopw [8, 16] (fun vn vi wr => wr = w ∧ ∃ i : Nat, i ≤ s ∧ vi = .int .u64 i ∧ vn = .int .u64 (rdN (win l p i))) (fun _ vi _ => s - (intOf vi).toNat)
  case atStart => exact ⟨rfl, 0, by omega, rfl, by simp [win, rdN]⟩
  case round =>
    obtain ⟨rfl, i, hi, rfl, rfl⟩ := hrel
    by_cases hlt : i < s
    · obtain ⟨c, hcc⟩ : ∃ c, l.getD (p + i) 0 = c := ⟨_, rfl⟩
      have hcell := HC.out (p + i) (by omega)
      have hor := or_step l p i (by omega) (by omega) c hcc
      rw [hcc] at hcell
      have hlt3 : 8 * (i : Int) < 64 := by omega
      have hcw : IntKind.u64.wrap (c.toNat : Int) = (c.toNat : Int) := by have := c.toNat_lt; rw [IntKind.wrap_u64]; omega
      have hpl : (p : Int) + (i : Int) < (l.length : Int) := by omega
      go_wp2
      go_roundw
      case rel => exact ⟨trivial, i + 1, by omega, by go_num, by with_reducible rfl⟩
      case measure => simp [intOf]; omega
    · have his : i = s := by omega
      subst his
      go_wp2
      go_ret2
      exact ⟨rfl, rfl⟩
theorem le_U16_yes (w : World) (v : Value) (l : List UInt8) (h : Arg w v l) (p : Nat) (hyes : p + 2 ≤ l.length) :
    Calls Try.prog 50 #[v, .int .u64 p] w fun e w' => e = .returned (.tuple #[.int .u16 (rdN (win l p 2)), .int .i64 0]) ∧ w = w' := by
  have hN := le_number_yes w v l h p 2 (by omega) (by omega) hyes
  have h1 := rdN_win_lt l p 2 hyes
  have h2 : rdN (win l p 2) < 65536 := h1
  clear h1
  generalize rdN (win l p 2) = q at *
  have h3 : (q : Int) < 65536 := by omega
  go_enter Try.func50, Try.ntmps50
  go_wp2_with fail
  refine hN.mono ?_
  rintro e w1 ⟨rfl, rfl⟩
  go_wp2
  go_ret2
  exact ⟨rfl, rfl⟩
theorem le_U16_no (w : World) (v : Value) (l : List UInt8) (h : Arg w v l) (p : Nat) (hp : (p : Int) ≤ 18446744073709551615) (hno : ¬ p + 2 ≤ l.length) :
    Calls Try.prog 50 #[v, .int .u64 p] w fun e w' => e = .returned (.tuple #[.int .u16 0, .int .i64 20]) ∧ w = w' := by
  have hN := le_number_no w v l h p 2 hp hno
  go_enter Try.func50, Try.ntmps50
  go_wp2_with fail
  refine hN.mono ?_
  rintro e w1 ⟨rfl, rfl⟩
  go_wp2
  go_ret2
  exact ⟨rfl, rfl⟩
theorem le_U32_yes (w : World) (v : Value) (l : List UInt8) (h : Arg w v l) (p : Nat) (hyes : p + 4 ≤ l.length) :
    Calls Try.prog 62 #[v, .int .u64 p] w fun e w' => e = .returned (.tuple #[.int .u32 (rdN (win l p 4)), .int .i64 0]) ∧ w = w' := by
  have hN := le_number_yes w v l h p 4 (by omega) (by omega) hyes
  have h1 := rdN_win_lt l p 4 hyes
  have h2 : rdN (win l p 4) < 4294967296 := h1
  clear h1
  generalize rdN (win l p 4) = q at *
  have h3 : (q : Int) < 4294967296 := by omega
  go_enter Try.func62, Try.ntmps62
  go_wp2_with fail
  refine hN.mono ?_
  rintro e w1 ⟨rfl, rfl⟩
  go_wp2
  go_ret2
  exact ⟨rfl, rfl⟩
theorem le_U32_no (w : World) (v : Value) (l : List UInt8) (h : Arg w v l) (p : Nat) (hp : (p : Int) ≤ 18446744073709551615) (hno : ¬ p + 4 ≤ l.length) :
    Calls Try.prog 62 #[v, .int .u64 p] w fun e w' => e = .returned (.tuple #[.int .u32 0, .int .i64 20]) ∧ w = w' := by
  have hN := le_number_no w v l h p 4 hp hno
  go_enter Try.func62, Try.ntmps62
  go_wp2_with fail
  refine hN.mono ?_
  rintro e w1 ⟨rfl, rfl⟩
  go_wp2
  go_ret2
  exact ⟨rfl, rfl⟩
theorem le_U64_yes (w : World) (v : Value) (l : List UInt8) (h : Arg w v l) (p : Nat) (hyes : p + 8 ≤ l.length) :
    Calls Try.prog 47 #[v, .int .u64 p] w fun e w' => e = .returned (.tuple #[.int .u64 (rdN (win l p 8)), .int .i64 0]) ∧ w = w' := by
  have hN := le_number_yes w v l h p 8 (by omega) (by omega) hyes
  go_enter Try.func47, Try.ntmps47
  go_wp2_with fail
  refine hN.mono ?_
  rintro e w1 ⟨rfl, rfl⟩
  go_wp2
  go_ret2
  exact ⟨rfl, rfl⟩
theorem le_U64_no (w : World) (v : Value) (l : List UInt8) (h : Arg w v l) (p : Nat) (hp : (p : Int) ≤ 18446744073709551615) (hno : ¬ p + 8 ≤ l.length) :
    Calls Try.prog 47 #[v, .int .u64 p] w fun e w' => e = .returned (.tuple #[.int .u64 0, .int .i64 20]) ∧ w = w' := by
  have hN := le_number_no w v l h p 8 hp hno
  go_enter Try.func47, Try.ntmps47
  go_wp2_with fail
  refine hN.mono ?_
  rintro e w1 ⟨rfl, rfl⟩
  go_wp2
  go_ret2
  exact ⟨rfl, rfl⟩
theorem le_Part_no (w : World) (v : Value) (l : List UInt8) (h : Arg w v l) (p s : Nat) (hp : (p : Int) ≤ 18446744073709551615) (hno : ¬ p + s ≤ l.length) :
    Calls Try.prog 43 #[v, .int .u64 p, .int .u64 s] w fun e w' => e = .returned (.tuple #[.slice none 0 0, .int .i64 20]) ∧ w = w' := by
  obtain ⟨a, cap, rfl, _, _, hl⟩ := h.isSlice
  have hH := le_has w a l.length cap (p : Int) (s : Int) (by omega) hp (by omega) hl
  have he : decide ((p : Int) + (s : Int) ≤ (l.length : Int)) = false := by simp; omega
  rw [he] at hH
  clear he hno h
  go_enter Try.func43, Try.ntmps43
  go_wp2_with fail
  refine hH.mono ?_
  rintro e w1 ⟨rfl, rfl⟩
  go_wp2
  go_ret2
  exact ⟨rfl, rfl⟩
theorem Arg.cut0 {w : World} {a : Option Addr} {cap : Nat} {l : List UInt8} (h : Arg w (.slice a l.length cap) l) (p s : Nat) (hyes : p + s ≤ l.length) (hc : cap = p) : Arg w (.slice a s 0) (win l p s) := by
  obtain ⟨a', cap', he, h1, h2, h3, h4⟩ := h
  injection he with e1 e2 e3
  subst e1 e3
  have hs : s = 0 := by omega
  subst hs
  have hw : win l p 0 = [] := by simp [win]
  rw [hw]
  refine ⟨a, 0, rfl, by simp, by simp, by simp, ?_⟩
  rcases h4 with ⟨e, _, _⟩ | ⟨x, e, _⟩
  · exact .inl ⟨e, rfl, rfl⟩
  · exact .inr ⟨x, e, fun j hj => absurd hj (by simp)⟩
theorem Arg.cut {w : World} {a : Option Addr} {cap : Nat} {l : List UInt8} (h : Arg w (.slice a l.length cap) l) (p s : Nat) (hyes : p + s ≤ l.length) (hc : cap ≠ p) : Arg w (.slice (Option.map (fun x => x.add p) a) s (cap - p)) (win l p s) := by
  obtain ⟨a', cap', he, h1, h2, h3, h4⟩ := h
  injection he with e1 e2 e3
  subst e1 e3
  have hwl := win_len l p s hyes
  rcases h4 with ⟨e, rfl, rfl⟩ | ⟨x, rfl, hcell⟩
  · simp at hyes; omega
  · refine ⟨some (x.add p), cap - p, by rw [hwl]; rfl, by omega, by omega, by omega, .inr ⟨x.add p, rfl, fun j hj => ?_⟩⟩
    rw [hwl] at hj
    have := hcell (p + j) (by omega)
    rw [Addr.add_add, this]
    simp [win]
theorem le_Part_yes (w : World) (v : Value) (l : List UInt8) (h : Arg w v l) (p s : Nat) (hyes : p + s ≤ l.length) :
    Calls Try.prog 43 #[v, .int .u64 p, .int .u64 s] w fun e w' => ∃ v', e = .returned (.tuple #[v', .int .i64 0]) ∧ Own w' w.heap.size v' (win l p s) ∧ Below w.heap.size w w' := by
  obtain ⟨a, cap, rfl, h1, h2, hl⟩ := h.isSlice
  have hH := le_has w a l.length cap (p : Int) (s : Int) (by omega) (by omega) (by omega) hl
  have he : decide ((p : Int) + (s : Int) ≤ (l.length : Int)) = true := by simp; omega
  rw [he] at hH
  have hcap : cap ≤ 9223372036854775807 := by unfold maxLen at h2; omega
  have hps : (p : Int) + (s : Int) ≤ (cap : Int) := by omega
  clear he
  have HA : Hid (Arg w (.slice a l.length cap) l) := h
  clear h
  go_enter Try.func43, Try.ntmps43
  go_wp2_with fail
  refine hH.mono ?_
  rintro e w1 ⟨rfl, rfl⟩
  go_wp2_with fail
  · refine (lib_Clone _ _ _ (HA.out.cut0 p s hyes (by omega))).mono ?_
    rintro e w1 ⟨v', rfl, q1, q2⟩
    go_wp2
    go_ret2
    exact ⟨_, rfl, q1, q2⟩
  · refine (lib_Clone _ _ _ (HA.out.cut p s hyes (by omega))).mono ?_
    rintro e w1 ⟨v', rfl, q1, q2⟩
    go_wp2
    go_ret2
    exact ⟨_, rfl, q1, q2⟩
end Go.Proofs.Ytgpjfcnlhlkblaa
