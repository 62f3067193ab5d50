
/-
  Layer 10 (syms), plain: both sums of a name; symbols, which of them may be had, which is found, which is near.
-/
import Derived.Test.YtdclofiifcpkkaaOwn
import Derived.Laws.BitsAllLaws
set_option linter.unusedVariables false
namespace Go.Proofs.Ytdclofiifcpkkaa
open Go.RowKit Go.PlainAid
/-! ### Sums -/
def sysvS (h : Nat) (c : UInt8) : Nat := ((h * 16 + c.toNat) % 4294967296 % 268435456) ^^^ ((h * 16 + c.toNat) % 4294967296 / 268435456 * 16)
def sysv (l : List UInt8) : Nat := l.foldl sysvS 0
def gnuS (h : Nat) (c : UInt8) : Nat := (h * 33 + c.toNat) % 4294967296
def gnu (l : List UInt8) : Nat := l.foldl gnuS 5381
theorem sysvS_lt (h : Nat) (c : UInt8) : sysvS h c < 268435456 := by
  unfold sysvS
  have a : (h * 16 + c.toNat) % 4294967296 % 268435456 < 2 ^ 28 := Nat.mod_lt _ (by decide)
  have b : (h * 16 + c.toNat) % 4294967296 / 268435456 * 16 < 2 ^ 28 := by
    have : (h * 16 + c.toNat) % 4294967296 < 4294967296 := Nat.mod_lt _ (by decide)
    omega
  exact Nat.xor_lt_two_pow a b
theorem gnuS_lt (h : Nat) (c : UInt8) : gnuS h c < 4294967296 := Nat.mod_lt _ (by decide)
theorem foldl_snoc {α : Type} (f : α → UInt8 → α) (a : α) (l : List UInt8) (i : Nat) (h : i < l.length) : (l.take (i + 1)).foldl f a = f ((l.take i).foldl f a) (l.getD i 0) := by
  rw [List.take_add_one, List.foldl_append, List.getElem?_eq_getElem h]
  simp [List.getD, List.getElem?_eq_getElem h]
theorem sysv_lt (l : List UInt8) : sysv l < 268435456 := by
  unfold sysv
  rw [← List.take_length (l := l)]
  cases h : l.length with
  | zero => simp
  | succ n => rw [foldl_snoc _ _ _ _ (by omega)]; exact sysvS_lt _ _
theorem gnu_lt (l : List UInt8) : gnu l < 4294967296 := by
  unfold gnu
  rw [← List.take_length (l := l)]
  cases h : l.length with
  | zero => simp
  | succ n => rw [foldl_snoc _ _ _ _ (by omega)]; exact gnuS_lt _ _
theorem nat_top (x : Nat) (h : x < 4294967296) : x &&& 4026531840 = x / 268435456 * 268435456 := by
  apply Nat.eq_of_testBit_eq
  intro j
  rw [show (4026531840 : Nat) = (2 ^ 4 - 1) * 2 ^ 28 by decide, show (268435456 : Nat) = 2 ^ 28 by decide, Nat.testBit_and, Nat.testBit_mul_two_pow, Nat.testBit_mul_two_pow, Nat.testBit_two_pow_sub_one, Nat.testBit_div_two_pow]
  by_cases h1 : 28 ≤ j
  · rw [show j - 28 + 28 = j by omega]
    by_cases h2 : j - 28 < 4
    · simp [h1, h2]
    · have : x.testBit j = false := Nat.testBit_lt_two_pow (Nat.lt_of_lt_of_le (show x < 2 ^ 32 by omega) (Nat.pow_le_pow_right (by decide) (by omega)))
      simp [this]
  · simp [h1]
theorem nat_low (x : Nat) (h : x < 4294967296) : x &&& (4294967295 - x / 268435456 * 268435456) = x % 268435456 := by
  apply Nat.eq_of_testBit_eq
  intro j
  have e : 4294967295 - x / 268435456 * 268435456 = 2 ^ 32 - (x / 268435456 * 268435456 + 1) := by omega
  rw [e, Nat.testBit_and, Nat.testBit_two_pow_sub_succ (by omega), show (268435456 : Nat) = 2 ^ 28 by decide, Nat.testBit_mul_two_pow, Nat.testBit_div_two_pow, Nat.testBit_mod_two_pow]
  by_cases h1 : 28 ≤ j
  · rw [show j - 28 + 28 = j by omega]
    have : ¬ j < 28 := by omega
    cases hx : x.testBit j <;> simp [h1, this]
  · have h2 : j < 28 := by omega
    have h3 : j < 32 := by omega
    simp [h1, h2, h3]
theorem top_bits (x : Nat) (h : x < 4294967296) : bits .and .u32 (x : Int) 4026531840 = ((x / 268435456 * 268435456 : Nat) : Int) := by
  have := u32_and_nat x 4026531840 h (by decide)
  rw [nat_top x h] at this
  exact this
theorem low_bits (x : Nat) (h : x < 4294967296) : bits .andNot .u32 (x : Int) ((x / 268435456 * 268435456 : Nat) : Int) = ((x % 268435456 : Nat) : Int) := by
  have := u32_andNot_nat x (x / 268435456 * 268435456) h (by omega)
  rw [nat_low x h] at this
  exact this
/-! ### Symbols -/
structure Sy where
  name : List UInt8
  ver : List UInt8
  hidden : Bool
  bind : Int
  defined : Bool
  value : Nat
  size : Nat
def Sy.cells (s : Sy) : List Value := [.string ⟨s.name.toArray⟩, .string ⟨s.ver.toArray⟩, .bool s.hidden, .int .i64 s.bind, .bool s.defined, .int .u64 s.value, .int .u64 s.size]
/-- The empty one. -/
def noSy : Sy := ⟨[], [], false, 0, false, 0, 0⟩
def had (s : Sy) : Bool := s.defined && (s.bind != 0)
def fitB (vs hidden : Bool) (sv ver : List UInt8) : Bool := if ver = [] then !hidden else (!vs || sv == ver)
def okS (vs : Bool) (nm ver : List UInt8) (s : Sy) : Bool := had s && (s.name == nm) && fitB vs s.hidden s.ver ver
/-- The number of the first one that will do; -1: none. -/
def findS (vs : Bool) (nm ver : List UInt8) (l : List Sy) : Int := match l.findIdx? (okS vs nm ver) with
  | some i => (i : Int)
  | none => -1
theorem findS_hit {vs : Bool} {nm ver : List UInt8} {l : List Sy} {i : Nat} (hi : i < l.length) (h : okS vs nm ver l[i] = true) (hn : ∀ j (hj : j < l.length), j < i → okS vs nm ver l[j] = false) : findS vs nm ver l = (i : Int) := by
  have : l.findIdx? (okS vs nm ver) = some i := by
    rw [List.findIdx?_eq_some_iff_getElem]
    exact ⟨hi, h, fun j hj => by simp [hn j (by omega) hj]⟩
  unfold findS
  rw [this]
theorem findS_none {vs : Bool} {nm ver : List UInt8} {l : List Sy} (hn : ∀ j (hj : j < l.length), okS vs nm ver l[j] = false) : findS vs nm ver l = -1 := by
  have : l.findIdx? (okS vs nm ver) = none := by
    rw [List.findIdx?_eq_none_iff]
    intro x hx
    obtain ⟨j, hj, rfl⟩ := List.mem_iff_getElem.1 hx
    exact hn j hj
  unfold findS
  rw [this]
/-- What findS says. -/
theorem findS_says (vs : Bool) (nm ver : List UInt8) (l : List Sy) : (findS vs nm ver l = -1 ∧ ∀ j (hj : j < l.length), okS vs nm ver l[j] = false) ∨ ∃ i : Nat, ∃ hi : i < l.length, findS vs nm ver l = (i : Int) ∧ okS vs nm ver l[i] = true ∧ ∀ j (hj : j < l.length), j < i → okS vs nm ver l[j] = false := by
  cases h : l.findIdx? (okS vs nm ver) with
  | none =>
    left
    refine ⟨by unfold findS; rw [h], fun j hj => ?_⟩
    rw [List.findIdx?_eq_none_iff] at h
    exact h _ (List.getElem_mem hj)
  | some i =>
    right
    have e : findS vs nm ver l = (i : Int) := by unfold findS; rw [h]
    rw [List.findIdx?_eq_some_iff_getElem] at h
    obtain ⟨h1, h2, h3⟩ := h
    exact ⟨i, h1, e, h2, fun j hj hji => by have := h3 j hji; simpa using this⟩
/-- Does the place lie in a symbol's bytes? -/
def hasS (a : Nat) (s : Sy) : Bool := had s && decide (s.value ≤ a) && decide (a - s.value < max s.size 1)
/-- n is the first of the greatest value among the first k (from m on). -/
def IsNear (l : List Sy) (a m k : Nat) (n : Int) : Prop :=
  (n = -1 ∧ ∀ j (hj : j < l.length), m ≤ j → j < k → hasS a l[j] = false) ∨
  ∃ i : Nat, ∃ hi : i < l.length, n = (i : Int) ∧ m ≤ i ∧ i < k ∧ hasS a l[i] = true ∧ (∀ j (hj : j < l.length), m ≤ j → j < k → hasS a l[j] = true → l[j].value ≤ l[i].value) ∧ ∀ j (hj : j < l.length), m ≤ j → j < i → hasS a l[j] = true → l[j].value < l[i].value
theorem IsNear.one {l : List Sy} {a m k : Nat} {n n' : Int} (h : IsNear l a m k n) (h' : IsNear l a m k n') : n = n' := by
  rcases h with ⟨rfl, h1⟩ | ⟨i, hi, rfl, h1, h2, h3, h4, h5⟩
  · rcases h' with ⟨rfl, _⟩ | ⟨j, hj, rfl, g1, g2, g3, _⟩
    · rfl
    · have := h1 j hj g1 g2
      rw [g3] at this; cases this
  · rcases h' with ⟨rfl, g1⟩ | ⟨j, hj, rfl, g1, g2, g3, g4, g5⟩
    · have := g1 i hi h1 h2
      rw [h3] at this; cases this
    · rcases Nat.lt_trichotomy i j with c | c | c
      · have a1 := g5 i hi h1 c h3
        have a2 := h4 j hj g1 g2 g3
        omega
      · rw [c]
      · have a1 := h5 j hj g1 c g3
        have a2 := g4 i hi h1 h2 h3
        omega
theorem IsNear.start (l : List Sy) (a m : Nat) : IsNear l a m m (-1) := .inl ⟨rfl, fun j hj h1 h2 => by omega⟩
/-- One more behind them that isn't it. -/
theorem IsNear.skip {l : List Sy} {a k : Nat} {n : Int} (h : IsNear l a 0 k n) (hk : k < l.length) (hs : hasS a l[k] = false ∨ ∃ i : Nat, ∃ hi : i < l.length, n = (i : Int) ∧ l[k].value ≤ l[i].value) : IsNear l a 0 (k + 1) n := by
  rcases h with ⟨rfl, h1⟩ | ⟨i, hi, rfl, h1, h2, h3, h4, h5⟩
  · left
    refine ⟨rfl, fun j hj _ hjk => ?_⟩
    by_cases e : j = k
    · subst e
      rcases hs with hs | ⟨i, hi, e, _⟩
      · exact hs
      · omega
    · exact h1 j hj (by omega) (by omega)
  · right
    refine ⟨i, hi, rfl, by omega, by omega, h3, fun j hj _ hjk hb => ?_, h5⟩
    by_cases e : j = k
    · subst e
      rcases hs with hs | ⟨i', hi', e, hle⟩
      · rw [hs] at hb; cases hb
      · have : i' = i := by omega
        subst this
        exact hle
    · exact h4 j hj (by omega) (by omega) hb
/-- One more behind them that is it. -/
theorem IsNear.take {l : List Sy} {a k : Nat} {n : Int} (h : IsNear l a 0 k n) (hk : k < l.length) (hs : hasS a l[k] = true) (hg : n = -1 ∨ ∃ i : Nat, ∃ hi : i < l.length, n = (i : Int) ∧ l[i].value < l[k].value) : IsNear l a 0 (k + 1) (k : Int) := by
  right
  refine ⟨k, hk, rfl, by omega, by omega, hs, ?_, ?_⟩
  · intro j hj _ hjk hb
    by_cases e : j = k
    · subst e; exact Nat.le_refl _
    · rcases h with ⟨rfl, h1⟩ | ⟨i, hi, rfl, h1, h2, h3, h4, h5⟩
      · have := h1 j hj (by omega) (by omega); rw [this] at hb; cases hb
      · rcases hg with hg | ⟨i', hi', e', hlt⟩
        · omega
        · have : i' = i := by omega
          subst this
          have := h4 j hj (by omega) (by omega) hb
          omega
  · intro j hj _ hjk hb
    rcases h with ⟨rfl, h1⟩ | ⟨i, hi, rfl, h1, h2, h3, h4, h5⟩
    · have := h1 j hj (by omega) (by omega); rw [this] at hb; cases hb
    · rcases hg with hg | ⟨i', hi', e', hlt⟩
      · omega
      · have : i' = i := by omega
        subst this
        have := h4 j hj (by omega) (by omega) hb
        omega
/-- One more ahead of them that isn't it. -/
theorem IsNear.skipB {l : List Sy} {a m : Nat} {n : Int} (h : IsNear l a (m + 1) l.length n) (hk : m < l.length) (hs : hasS a l[m] = false ∨ ∃ i : Nat, ∃ hi : i < l.length, n = (i : Int) ∧ l[m].value < l[i].value) : IsNear l a m l.length n := by
  rcases h with ⟨rfl, h1⟩ | ⟨i, hi, rfl, h1, h2, h3, h4, h5⟩
  · left
    refine ⟨rfl, fun j hj _ hjk => ?_⟩
    by_cases e : j = m
    · subst e
      rcases hs with hs | ⟨i, hi, e, _⟩
      · exact hs
      · omega
    · exact h1 j hj (by omega) (by omega)
  · right
    refine ⟨i, hi, rfl, by omega, by omega, h3, fun j hj _ hjk hb => ?_, fun j hj _ hjk hb => ?_⟩
    · by_cases e : j = m
      · subst e
        rcases hs with hs | ⟨i', hi', e, hle⟩
        · rw [hs] at hb; cases hb
        · have : i' = i := by omega
          subst this
          omega
      · exact h4 j hj (by omega) (by omega) hb
    · by_cases e : j = m
      · subst e
        rcases hs with hs | ⟨i', hi', e, hle⟩
        · rw [hs] at hb; cases hb
        · have : i' = i := by omega
          subst this
          exact hle
      · exact h5 j hj (by omega) (by omega) hb
/-- One more ahead of them that is it. -/
theorem IsNear.takeB {l : List Sy} {a m : Nat} {n : Int} (h : IsNear l a (m + 1) l.length n) (hk : m < l.length) (hs : hasS a l[m] = true) (hg : n = -1 ∨ ∃ i : Nat, ∃ hi : i < l.length, n = (i : Int) ∧ l[i].value ≤ l[m].value) : IsNear l a m l.length (m : Int) := by
  right
  refine ⟨m, hk, rfl, by omega, hk, hs, ?_, fun j hj h1 h2 => by omega⟩
  intro j hj _ hjk hb
  by_cases e : j = m
  · subst e; exact Nat.le_refl _
  · rcases h with ⟨rfl, h1⟩ | ⟨i, hi, rfl, h1, h2, h3, h4, h5⟩
    · have := h1 j hj (by omega) (by omega); rw [this] at hb; cases hb
    · rcases hg with hg | ⟨i', hi', e', hlt⟩
      · omega
      · have : i' = i := by omega
        subst this
        have := h4 j hj (by omega) (by omega) hb
        omega
theorem IsNear.idx {l : List Sy} {a m k : Nat} {n : Int} (h : IsNear l a m k n) : n = -1 ∨ ∃ i : Nat, ∃ hi : i < l.length, n = (i : Int) := by
  rcases h with ⟨rfl, _⟩ | ⟨i, hi, rfl, _⟩
  · exact .inl rfl
  · exact .inr ⟨i, hi, rfl⟩
end Go.Proofs.Ytdclofiifcpkkaa
