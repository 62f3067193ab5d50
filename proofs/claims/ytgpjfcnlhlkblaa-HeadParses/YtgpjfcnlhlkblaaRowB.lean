
/-
  The contracts of le's readers and of the reference's in one form each, and a row of bytes that comes in.
-/
import Derived.Test.YtgpjfcnlhlkblaaRefB
import Derived.ProofKit
import Derived.OpenShut
set_option linter.unusedVariables false
namespace Go.Proofs.Ytgpjfcnlhlkblaa
open Go.RowKit Go.PlainAid
/-- What the walk is told of a slice of integers that came in. -/
def IsRow (k : IntKind) (w : World) (a : Option Addr) (len cap : Nat) (zs : List Int) : Prop :=
  (a = none ∧ len = 0 ∧ cap = 0 ∧ zs = []) ∨
  ∃ x, a = some x ∧ len ≤ cap ∧ cap ≤ maxLen ∧ zs.length = cap ∧ (∀ i, i < zs.length → w.cell? (x.add i) = some (.int k (zs.getD i 0))) ∧ ∀ n ∈ zs, (Lit.int k n).wf = true
theorem wf_u8 {n : Int} (h : (Lit.int .u8 n).wf = true) : 0 ≤ n ∧ n ≤ 255 := by
  have a : IntKind.u8.min = 0 := rfl
  have b : IntKind.u8.max = 255 := rfl
  simp [Lit.wf] at h
  omega
theorem wf_u64 {n : Int} (h : (Lit.int .u64 n).wf = true) : 0 ≤ n ∧ n ≤ 18446744073709551615 := by
  have a : IntKind.u64.min = 0 := rfl
  have b : IntKind.u64.max = 18446744073709551615 := rfl
  simp [Lit.wf] at h
  omega
/-- The bytes of such a row. -/
def rowOf (zs : List Int) (len : Nat) : List UInt8 := (zs.take len).map fun z => b8 z.toNat
theorem IsRow.arg {w : World} {a : Option Addr} {len cap : Nat} {zs : List Int} (h : IsRow .u8 w a len cap zs) (hl : len ≤ 140737488351232) : (rowOf zs len).length = len ∧ Arg w (.slice a len cap) (rowOf zs len) := by
  rcases h with ⟨rfl, rfl, rfl, rfl⟩ | ⟨x, rfl, h1, h2, h3, hc, hw⟩
  · exact ⟨rfl, none, 0, rfl, by simp [rowOf], by simp, by simp [rowOf], .inl ⟨rfl, rfl, rfl⟩⟩
  · have e : (rowOf zs len).length = len := by unfold rowOf; simp; omega
    refine ⟨e, some x, cap, by rw [e], by omega, h2, by omega, .inr ⟨x, rfl, fun j hj => ?_⟩⟩
    rw [e] at hj
    have hjz : j < zs.length := by omega
    have hb := wf_u8 (hw (zs.getD j 0) (by rw [List.getD, List.getElem?_eq_getElem hjz]; simp))
    rw [hc j hjz]
    have e2 : ((rowOf zs len)[j]'(by omega)) = b8 (zs.getD j 0).toNat := by
      unfold rowOf
      simp [List.getD, List.getElem?_eq_getElem hjz]
    rw [e2, b8_toNat (by omega)]
    congr 2
    omega
def vN (l : List UInt8) (p s : Nat) : Nat := if p + s ≤ l.length then rdN (win l p s) else 0
def eN (l : List UInt8) (p s : Nat) : Int := if p + s ≤ l.length then 0 else 20
def pN (l : List UInt8) (p s : Nat) : List UInt8 := if p + s ≤ l.length then win l p s else []
theorem vN_lt (l : List UInt8) (p s : Nat) : vN l p s < 2 ^ (8 * s) := by
  unfold vN; split
  · exact rdN_win_lt l p s (by assumption)
  · exact Nat.two_pow_pos _
theorem pN_len (l : List UInt8) (p s : Nat) : (pN l p s).length ≤ l.length := by
  unfold pN; split
  · rw [win_len l p s (by assumption)]; omega
  · simp
theorem le_U16_all (w : World) (v : Value) (l : List UInt8) (h : Arg w v l) (p : Nat) (hp : (p : Int) ≤ 18446744073709551615) :
    Calls Try.prog 50 #[v, .int .u64 p] w fun e w' => e = .returned (.tuple #[.int .u16 (vN l p 2), .int .i64 (eN l p 2)]) ∧ w = w' := by
  unfold vN eN
  by_cases hy : p + 2 ≤ l.length
  · rw [if_pos hy, if_pos hy]; exact le_U16_yes w v l h p hy
  · rw [if_neg hy, if_neg hy]; exact le_U16_no w v l h p hp hy
theorem le_U32_all (w : World) (v : Value) (l : List UInt8) (h : Arg w v l) (p : Nat) (hp : (p : Int) ≤ 18446744073709551615) :
    Calls Try.prog 62 #[v, .int .u64 p] w fun e w' => e = .returned (.tuple #[.int .u32 (vN l p 4), .int .i64 (eN l p 4)]) ∧ w = w' := by
  unfold vN eN
  by_cases hy : p + 4 ≤ l.length
  · rw [if_pos hy, if_pos hy]; exact le_U32_yes w v l h p hy
  · rw [if_neg hy, if_neg hy]; exact le_U32_no w v l h p hp hy
theorem le_U64_all (w : World) (v : Value) (l : List UInt8) (h : Arg w v l) (p : Nat) (hp : (p : Int) ≤ 18446744073709551615) :
    Calls Try.prog 47 #[v, .int .u64 p] w fun e w' => e = .returned (.tuple #[.int .u64 (vN l p 8), .int .i64 (eN l p 8)]) ∧ w = w' := by
  unfold vN eN
  by_cases hy : p + 8 ≤ l.length
  · rw [if_pos hy, if_pos hy]; exact le_U64_yes w v l h p hy
  · rw [if_neg hy, if_neg hy]; exact le_U64_no w v l h p hp hy
theorem ref_Get_all (w : World) (v : Value) (l : List UInt8) (h : Arg w v l) (p s : Nat) (hp : (p : Int) ≤ 18446744073709551615) (hs : s ≤ 8) (hs0 : 0 < s) :
    Calls Try.prog 46 #[v, .int .u64 p, .int .i64 s] w fun e w' => e = .returned (.tuple #[.int .u64 (vN l p s), .int .i64 (eN l p s)]) ∧ w = w' := by
  unfold vN eN
  by_cases hy : p + s ≤ l.length
  · rw [if_pos hy, if_pos hy]; exact ref_Get_yes w v l h p s hs hs0 hy
  · rw [if_neg hy, if_neg hy]; exact ref_Get_no w v l h p s hp hs hy
theorem le_Part_all (w : World) (v : Value) (l : List UInt8) (h : Arg w v l) (p s : Nat) (hp : (p : Int) ≤ 18446744073709551615) :
    Calls Try.prog 43 #[v, .int .u64 p, .int .u64 s] w fun e w' => ∃ v', e = .returned (.tuple #[v', .int .i64 (eN l p s)]) ∧ Own w' w.heap.size v' (pN l p s) ∧ Below w.heap.size w w' := by
  unfold pN eN
  by_cases hy : p + s ≤ l.length
  · rw [if_pos hy, if_pos hy]; exact le_Part_yes w v l h p s hy
  · rw [if_neg hy, if_neg hy]
    refine (le_Part_no w v l h p s hp hy).mono ?_
    rintro e w' ⟨rfl, rfl⟩
    exact ⟨_, rfl, Own.nil _ _, Below.refl _ _⟩
theorem ref_Part_all (w : World) (v : Value) (l : List UInt8) (h : Arg w v l) (p s : Nat) (hp : (p : Int) ≤ 18446744073709551615) :
    Calls Try.prog 44 #[v, .int .u64 p, .int .u64 s] w fun e w' => ∃ v', e = .returned (.tuple #[v', .int .i64 (eN l p s)]) ∧ Own w' w.heap.size v' (pN l p s) ∧ Below w.heap.size w w' := by
  unfold pN eN
  by_cases hy : p + s ≤ l.length
  · rw [if_pos hy, if_pos hy]; exact ref_Part_yes w v l h p s hy
  · rw [if_neg hy, if_neg hy]
    refine (ref_Part_no w v l h p s hp hy).mono ?_
    rintro e w' ⟨rfl, rfl⟩
    exact ⟨_, rfl, Own.nil _ _, Below.refl _ _⟩
end Go.Proofs.Ytgpjfcnlhlkblaa
