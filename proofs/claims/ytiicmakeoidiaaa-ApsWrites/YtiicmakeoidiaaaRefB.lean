
/-
  The reference's Get, Part, Plain and Text (layer 2) keep their contracts.
-/
import Derived.Test.YtiicmakeoidiaaaAliveB
import Derived.Lib.BufferRead
set_option linter.unusedVariables false
namespace Go.Proofs.Ytiicmakeoidiaaa
open Go.RowKit Go.PlainAid
/-- 'string(b)' of a row that was handed in. -/
theorem Arg.text {w : World} {v : Value} {l : List UInt8} (h : Arg w v l) : (convert 42 9 v).run Try.prog w = .ok (.string ⟨l.toArray⟩) w := by
  obtain ⟨a, cap, rfl, h1, h2, h3, h4⟩ := h
  rcases h4 with ⟨rfl, rfl, rfl⟩ | ⟨x, rfl, hc⟩
  · exact Lib.run_convert_nil_bytes w 42 9 5 0 Try.underlying42 Try.underlying5 Try.underlying9
  · exact run_convert_bytes_back (P := Try.prog) w 42 9 5 x cap l Try.underlying42 Try.underlying5 Try.underlying9 hc
def unitN (i : Nat) : Nat := 256 ^ i % 18446744073709551616
theorem unitN_lt (i : Nat) (h : i < 8) : unitN i = 256 ^ i ∧ 256 ^ i ≤ 72057594037927936 := by
  have h1 : 256 ^ i ≤ 256 ^ 7 := Nat.pow_le_pow_right (by omega) (by omega)
  have e : (256 : Nat) ^ 7 = 72057594037927936 := by decide
  rw [e] at h1
  exact ⟨Nat.mod_eq_of_lt (by omega), h1⟩
theorem unitN_step (i : Nat) : (unitN i : Int) * 256 % 18446744073709551616 = (unitN (i + 1) : Int) := by
  unfold unitN
  rw [Nat.pow_succ]
  omega
theorem get_step (l : List UInt8) (p i : Nat) (h : p + i < l.length) (h8 : i < 8) (c : UInt8) (hc : l.getD (p + i) 0 = c) :
    (c.toNat : Int) * (unitN i : Int) ≤ 18374686479671623680 ∧ (rdN (win l p i) : Int) + (c.toNat : Int) * (unitN i : Int) = (rdN (win l p (i + 1)) : Int) ∧ rdN (win l p (i + 1)) < 18446744073709551616 := by
  have hu := unitN_lt i h8
  have h2 := rdN_win_lt l p (i + 1) (by omega)
  have h3 : 2 ^ (8 * (i + 1)) ≤ 2 ^ 64 := Nat.pow_le_pow_right (by omega) (by omega)
  have e64 : (2 : Nat) ^ 64 = 18446744073709551616 := by decide
  have hc8 := c.toNat_lt
  rw [rdN_win_snoc l p i h, hc, ← pow256] at h2 ⊢
  rw [hu.1]
  have h5 : c.toNat * 256 ^ i ≤ 255 * 72057594037927936 := Nat.mul_le_mul (by omega) hu.2
  refine ⟨?_, ?_, by omega⟩
  · rw [← Int.natCast_mul]; omega
  · rw [← Int.natCast_mul]; omega
theorem Arg.alloc {w : World} {v : Value} {l : List UInt8} (h : Arg w v l) (x : Obj) : Arg (w.alloc x) v l := h.below ((Below.refl _ _).alloc (Nat.le_refl _) x) rfl
theorem own_empty (w : World) : Own (w.alloc (.cells #[] 5)) w.heap.size (.slice (some ⟨w.heap.size, 0, none⟩) 0 0) [] :=
  World.ownsRow_made w #[] 0 (Nat.le_refl _) (by simp) (by simp)
theorem empty_grown {w w1 : World} (h : (w.alloc (.cells #[] 5)).grownBy w1 (Value.slice (some ⟨w.heap.size, 0, none⟩) 0 0).ownBlock) : Below w.heap.size w w1 :=
  ((Below.refl w.heap.size w).alloc (Nat.le_refl _) _).grown h (by simp) (fun k hk => by simp [Value.ownBlock] at hk; omega)
theorem pl_lo {c : UInt8} (h : (c.toNat : Int) < 33) : pl c = false := by unfold pl; simp; omega
theorem pl_hi {c : UInt8} (h : 126 < (c.toNat : Int)) : pl c = false := by unfold pl; simp; omega
theorem pl_yes {c : UInt8} (h : ¬ (c.toNat : Int) < 33) (h2 : ¬ 126 < (c.toNat : Int)) : pl c = true := by unfold pl; simp; omega
end Go.Proofs.Ytiicmakeoidiaaa
