
/-
  The reference's Get, Part, Plain and Text (layer 2) keep their contracts.
-/
import Derived.Test.YtgpjfcnlhlkblaaAliveB
import Derived.Lib.BufferRead
set_option linter.unusedVariables false
namespace Go.Proofs.Ytgpjfcnlhlkblaa
open Go.RowKit Go.PlainAid
/-- 'string(b)' of a row that was handed in. -/
theorem Arg.text {w : World} {v : Value} {l : List UInt8} (h : Arg w v l) : (convert 22 9 v).run Try.prog w = .ok (.string ⟨l.toArray⟩) w := by
  obtain ⟨a, cap, rfl, h1, h2, h3, h4⟩ := h
  rcases h4 with ⟨rfl, rfl, rfl⟩ | ⟨x, rfl, hc⟩
  · exact Lib.run_convert_nil_bytes w 22 9 5 0 Try.underlying22 Try.underlying5 Try.underlying9
  · exact run_convert_bytes_back (P := Try.prog) w 22 9 5 x cap l Try.underlying22 Try.underlying5 Try.underlying9 hc
def unitN (i : Nat) : Nat := 256 ^ i % 18446744073709551616
theorem unitN_lt (i : Nat) (h : i < 8) : unitN i = 256 ^ i ∧ 256 ^ i ≤ 72057594037927936 := by
  have h1 : 256 ^ i ≤ 256 ^ 7 := Nat.pow_le_pow_right (by omega) (by omega)
  have e : (256 : Nat) ^ 7 = 72057594037927936 := by decide
  rw [e] at h1
  exact ⟨Nat.mod_eq_of_lt (by omega), h1⟩
theorem unitN_step (i : Nat) : (unitN i : Int) * 256 % 18446744073709551616 = (unitN (i + 1) : Int) := by
  unfold unitN
  rw [Nat.pow_succ]
  omega
theorem get_step (l : List UInt8) (p i : Nat) (h : p + i < l.length) (h8 : i < 8) (c : UInt8) (hc : l.getD (p + i) 0 = c) :
    (c.toNat : Int) * (unitN i : Int) ≤ 18374686479671623680 ∧ (rdN (win l p i) : Int) + (c.toNat : Int) * (unitN i : Int) = (rdN (win l p (i + 1)) : Int) ∧ rdN (win l p (i + 1)) < 18446744073709551616 := by
  have hu := unitN_lt i h8
  have h2 := rdN_win_lt l p (i + 1) (by omega)
  have h3 : 2 ^ (8 * (i + 1)) ≤ 2 ^ 64 := Nat.pow_le_pow_right (by omega) (by omega)
  have e64 : (2 : Nat) ^ 64 = 18446744073709551616 := by decide
  have hc8 := c.toNat_lt
  rw [rdN_win_snoc l p i h, hc, ← pow256] at h2 ⊢
  rw [hu.1]
  have h5 : c.toNat * 256 ^ i ≤ 255 * 72057594037927936 := Nat.mul_le_mul (by omega) hu.2
  refine ⟨?_, ?_, by omega⟩
  · rw [← Int.natCast_mul]; omega
  · rw [← Int.natCast_mul]; omega
theorem ref_Get_no (w : World) (v : Value) (l : List UInt8) (h : Arg w v l) (p s : Nat) (hp : (p : Int) ≤ 18446744073709551615) (hs : s ≤ 8) (hno : ¬ p + s ≤ l.length) :
    Calls Try.prog 46 #[v, .int .u64 p, .int .i64 s] w fun e w' => e = .returned (.tuple #[.int .u64 0, .int .i64 20]) ∧ w = w' := by
  obtain ⟨a, cap, rfl, _, _, hl⟩ := h.isSlice
  clear h
  by_cases hlt : l.length < p
  · have hlt2 : (l.length : Int) < (p : Int) := by omega
    go_enter Try.func46, Try.ntmps46
    go_wp2
    go_ret2
    exact ⟨rfl, rfl⟩
  · have hlt2 : ¬ (l.length : Int) < (p : Int) := by omega
    have hlt3 : (l.length : Int) - (p : Int) < (s : Int) := by omega
    go_enter Try.func46, Try.ntmps46
    go_wp2
    go_ret2
    exact ⟨rfl, rfl⟩
set_option maxHeartbeats 1000000 in
theorem ref_Get_yes (w : World) (v : Value) (l : List UInt8) (h : Arg w v l) (p s : Nat) (hs : s ≤ 8) (hs0 : 0 < s) (hyes : p + s ≤ l.length) :
    Calls Try.prog 46 #[v, .int .u64 p, .int .i64 s] w fun e w' => e = .returned (.tuple #[.int .u64 (rdN (win l p s)), .int .i64 0]) ∧ w = w' := by
  obtain ⟨g, o, cap, rfl, hc1, hc2, hc⟩ := h.cells (by omega)
  obtain ⟨_, _, _, _, _, hl⟩ := h.isSlice
  have hlt2 : ¬ (l.length : Int) < (p : Int) := by omega
  have hlt3 : ¬ (l.length : Int) - (p : Int) < (s : Int) := by omega
  have HC : Hid (∀ j, j < l.length → w.cell? ⟨g, o + j, none⟩ = some (.int .u8 ((l.getD j 0).toNat : Int))) := hc
  clear h hc
  go_enter Try.func46, Try.ntmps46
  go_wp2
  go_loopw [8, 9, 10] (fun vn vu vi wr => wr = w ∧ ∃ i : Nat, i ≤ s ∧ vi = .int .i64 i ∧ vu = .int .u64 (unitN i) ∧ vn = .int .u64 (rdN (win l p i))) (fun _ _ vi _ => s - (intOf vi).toNat)
  case atStart => exact ⟨rfl, 0, by omega, rfl, rfl, by simp [win, rdN]⟩
  case round =>
    obtain ⟨rfl, i, hi, rfl, rfl, rfl⟩ := hrel
    by_cases hlt : i < s
    · obtain ⟨c, hcc⟩ : ∃ c, l.getD (p + i) 0 = c := ⟨_, rfl⟩
      have hcell := HC.out (p + i) (by omega)
      obtain ⟨hm1, hm2, hm3⟩ := get_step l p i (by omega) (by omega) c hcc
      rw [hcc] at hcell
      have hcw : IntKind.u64.wrap (c.toNat : Int) = (c.toNat : Int) := by have := c.toNat_lt; rw [IntKind.wrap_u64]; omega
      have hmw : IntKind.u64.wrap ((c.toNat : Int) * (unitN i : Int)) = (c.toNat : Int) * (unitN i : Int) := by
        have h0 : 0 ≤ (c.toNat : Int) * (unitN i : Int) := by rw [← Int.natCast_mul]; omega
        rw [IntKind.wrap_u64]; omega
      have hnw : IntKind.u64.wrap ((rdN (win l p i) : Int) + (c.toNat : Int) * (unitN i : Int)) = (rdN (win l p (i + 1)) : Int) := by rw [hm2, IntKind.wrap_u64]; omega
      have huw : IntKind.u64.wrap ((unitN i : Int) * 256) = (unitN (i + 1) : Int) := by rw [IntKind.wrap_u64]; exact unitN_step i
      have hpl : (p : Int) + (i : Int) < (l.length : Int) := by omega
      have HM : Hid ((rdN (win l p i) : Int) + (c.toNat : Int) * (unitN i : Int) = (rdN (win l p (i + 1)) : Int)) := hm2
      clear hm1 hm2 hm3 hcc
      generalize hX : (rdN (win l p i) : Int) = X at *
      generalize hY : (rdN (win l p (i + 1)) : Int) = Y at *
      generalize hU : (unitN i : Int) = U at *
      generalize hV : (unitN (i + 1) : Int) = V at *
      go_wp2
      go_roundw
      case rel => exact ⟨trivial, i + 1, by omega, by go_num, by rw [hV], by rw [hY]⟩
      case measure => simp [intOf]; omega
    · have his : i = s := by omega
      subst his
      go_wp2
      go_ret2
      exact ⟨rfl, rfl⟩
theorem ref_Part_no (w : World) (v : Value) (l : List UInt8) (h : Arg w v l) (p s : Nat) (hp : (p : Int) ≤ 18446744073709551615) (hno : ¬ p + s ≤ l.length) :
    Calls Try.prog 44 #[v, .int .u64 p, .int .u64 s] w fun e w' => e = .returned (.tuple #[.slice none 0 0, .int .i64 20]) ∧ w = w' := by
  obtain ⟨a, cap, rfl, _, _, hl⟩ := h.isSlice
  clear h
  by_cases hlt : l.length < p
  · have hlt2 : (l.length : Int) < (p : Int) := by omega
    go_enter Try.func44, Try.ntmps44
    go_wp2
    go_ret2
    exact ⟨rfl, rfl⟩
  · have hlt2 : ¬ (l.length : Int) < (p : Int) := by omega
    have hlt3 : (l.length : Int) - (p : Int) < (s : Int) := by omega
    go_enter Try.func44, Try.ntmps44
    go_wp2
    go_ret2
    exact ⟨rfl, rfl⟩
theorem Arg.alloc {w : World} {v : Value} {l : List UInt8} (h : Arg w v l) (x : Obj) : Arg (w.alloc x) v l := h.below ((Below.refl _ _).alloc (Nat.le_refl _) x) rfl
theorem own_empty (w : World) : Own (w.alloc (.cells #[] 5)) w.heap.size (.slice (some ⟨w.heap.size, 0, none⟩) 0 0) [] :=
  World.ownsRow_made w #[] 0 (Nat.le_refl _) (by simp) (by simp)
theorem empty_grown {w w1 : World} (h : (w.alloc (.cells #[] 5)).grownBy w1 (Value.slice (some ⟨w.heap.size, 0, none⟩) 0 0).ownBlock) : Below w.heap.size w w1 :=
  ((Below.refl w.heap.size w).alloc (Nat.le_refl _) _).grown h (by simp) (fun k hk => by simp [Value.ownBlock] at hk; omega)
set_option maxHeartbeats 400000 in
theorem ref_Part_yes (w : World) (v : Value) (l : List UInt8) (h : Arg w v l) (p s : Nat) (hyes : p + s ≤ l.length) :
    Calls Try.prog 44 #[v, .int .u64 p, .int .u64 s] w fun e w' => ∃ v', e = .returned (.tuple #[v', .int .i64 0]) ∧ Own w' w.heap.size v' (win l p s) ∧ Below w.heap.size w w' := by
  obtain ⟨a, cap, rfl, h1, h2, hl⟩ := h.isSlice
  have hlt2 : ¬ (l.length : Int) < (p : Int) := by omega
  have hlt3 : ¬ (l.length : Int) - (p : Int) < (s : Int) := by omega
  have hcap : cap ≤ 9223372036854775807 := by unfold maxLen at h2; omega
  have hps : (p : Int) + (s : Int) ≤ (cap : Int) := by omega
  have hwl : (win l p s).length ≤ 140737488351232 := by rw [win_len l p s hyes]; omega
  have HA : Hid (Arg w (.slice a l.length cap) l) := h
  have hown := own_empty w
  clear h
  by_cases hcp : cap = p
  · have hs0 : s = 0 := by omega
    subst hs0
    have hA := (HA.out.cut0 p 0 hyes hcp).alloc (.cells #[] 5)
    subst hcp
    go_enter Try.func44, Try.ntmps44
    go_wp2_with (at_builtin; refine append_arg rfl _ _ rfl w.heap.size _ _ [] hown _ _ hA rfl rfl (by simpa using hwl) (by simp) ?_)
    intro v' w1 q1 q2 q3
    go_wp2
    go_ret2
    exact ⟨_, rfl, by simpa using q1, empty_grown q2⟩
  · have hA : Arg (w.alloc (.cells #[] 5)) (.slice (Option.map (fun x => x.add p) a) (p + s - p) (cap - p)) (win l p s) := by
      rw [Nat.add_sub_cancel_left]; exact (HA.out.cut p s hyes hcp).alloc (.cells #[] 5)
    go_enter Try.func44, Try.ntmps44
    go_wp2_with (at_builtin; refine append_arg rfl _ _ rfl w.heap.size _ _ [] hown _ _ hA rfl rfl (by simpa using hwl) (by simp) ?_)
    intro v' w1 q1 q2 q3
    go_wp2
    go_ret2
    exact ⟨_, rfl, by simpa using q1, empty_grown q2⟩
theorem pl_lo {c : UInt8} (h : (c.toNat : Int) < 33) : pl c = false := by unfold pl; simp; omega
theorem pl_hi {c : UInt8} (h : 126 < (c.toNat : Int)) : pl c = false := by unfold pl; simp; omega
theorem pl_yes {c : UInt8} (h : ¬ (c.toNat : Int) < 33) (h2 : ¬ 126 < (c.toNat : Int)) : pl c = true := by unfold pl; simp; omega
end Go.Proofs.Ytgpjfcnlhlkblaa
