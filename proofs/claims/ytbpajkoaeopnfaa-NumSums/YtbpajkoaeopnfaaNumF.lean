/-
  The products and powers of layer 1 and of its reference keep their contracts; nothing that was there is turned.
-/
import Derived.Test.YtbpajkoaeopnfaaNumE
set_option linter.unusedVariables false
namespace Go.Proofs.Ytbpajkoaeopnfaa
open Go.RowKit Go.PlainAid

/-! ### num.Mul: the library's own text for the product of two halves -/
theorem maskN (a : Nat) (ha : a < 18446744073709551616) : bits .and .u64 (a : Int) 4294967295 = ((a % 4294967296 : Nat) : Int) := by
  have h := bits_and_u64_nat a 4294967295 ha (by omega)
  have e : a &&& 4294967295 = a % 4294967296 := Nat.and_two_pow_sub_one_eq_mod a 32
  rw [e] at h
  exact h
theorem divN (a : Nat) : (a : Int) / 4294967296 = ((a / 4294967296 : Nat) : Int) := by omega
theorem mulN (a b : Nat) : (a : Int) * (b : Int) = ((a * b : Nat) : Int) := (Int.natCast_mul a b).symm
theorem addN' (a b : Nat) : (a : Int) + (b : Int) = ((a + b : Nat) : Int) := (Int.natCast_add a b).symm
theorem wrapN (a : Nat) (ha : a < 18446744073709551616) : IntKind.u64.wrap (a : Int) = (a : Int) := by rw [IntKind.wrap_u64]; omega
theorem wrapM (a : Nat) : IntKind.u64.wrap (a : Int) = ((a % 18446744073709551616 : Nat) : Int) := by rw [IntKind.wrap_u64]; omega
set_option maxHeartbeats 1000000 in
theorem lib_Mul64 (x y : Nat) (hx : x < 18446744073709551616) (hy : y < 18446744073709551616) (w : World) :
    Calls Try.prog 34 #[.int .u64 x, .int .u64 y] w fun e w' => e = .returned (.tuple #[.int .u64 ((x * y / 18446744073709551616 : Nat) : Int), .int .u64 ((x * y % 18446744073709551616 : Nat) : Int)]) ∧ w = w' := by
  obtain ⟨bd, bt, bw, hhi⟩ := Lib.mul64_hi x y hx hy
  have ba := Lib.half_mul_le (a := x / 4294967296) (b := y / 4294967296) (by omega) (by omega)
  have bb := Lib.half_mul_le (a := x / 4294967296) (b := y % 4294967296) (by omega) (by omega)
  have bc := Lib.half_mul_le (a := x % 4294967296) (b := y / 4294967296) (by omega) (by omega)
  have ba' : x / 4294967296 * (y / 4294967296) < 18446744073709551616 := by omega
  have bb' : x / 4294967296 * (y % 4294967296) < 18446744073709551616 := by omega
  have bc' : x % 4294967296 * (y / 4294967296) < 18446744073709551616 := by omega
  have bh1 : x / 4294967296 * (y / 4294967296) + (x / 4294967296 * (y % 4294967296) + x % 4294967296 * (y % 4294967296) / 4294967296) / 4294967296 < 18446744073709551616 := by omega
  have bh : x / 4294967296 * (y / 4294967296) + (x / 4294967296 * (y % 4294967296) + x % 4294967296 * (y % 4294967296) / 4294967296) / 4294967296 + ((x / 4294967296 * (y % 4294967296) + x % 4294967296 * (y % 4294967296) / 4294967296) % 4294967296 + x % 4294967296 * (y / 4294967296)) / 4294967296 < 18446744073709551616 := by omega
  go_enter Try.func34, Try.ntmps34
  go_wp2
  simp only [maskN x hx, maskN y hy, divN, mulN, addN', wrapN _ bd, wrapN _ bb', wrapN _ bt, maskN _ bt, wrapN _ bc', wrapN _ bw, wrapN _ ba', wrapN _ bh1, wrapN _ bh, wrapM (x * y)]
  rw [hhi]
  go_ret2
  exact ⟨rfl, rfl⟩
theorem num_Mul_yes (x y : Nat) (hx : x < 18446744073709551616) (hy : y < 18446744073709551616) (h : x * y < 18446744073709551616) (w : World) :
    Calls Try.prog 11 #[.int .u64 x, .int .u64 y] w fun e w' => e = .returned (.tuple #[.int .u64 ((x * y : Nat) : Int), .bool true]) ∧ w = w' := by
  have hM := fun w => lib_Mul64 x y hx hy w
  rw [Nat.mod_eq_of_lt h, Nat.div_eq_of_lt h] at hM
  generalize x * y = p at *
  go_enter Try.func11, Try.ntmps11
  go_wp2_with (go_at_call 34; refine (hM _).mono ?_; rintro e w1 ⟨rfl, rfl⟩)
  go_ret2
  exact ⟨rfl, rfl⟩
theorem num_Mul_no (x y : Nat) (hx : x < 18446744073709551616) (hy : y < 18446744073709551616) (h : ¬ x * y < 18446744073709551616) (w : World) :
    Calls Try.prog 11 #[.int .u64 x, .int .u64 y] w fun e w' => e = .returned (.tuple #[.int .u64 0, .bool false]) ∧ w = w' := by
  have hM := fun w => lib_Mul64 x y hx hy w
  generalize x * y = p at *
  obtain ⟨q, hq⟩ : ∃ q, p / 18446744073709551616 = q := ⟨_, rfl⟩
  obtain ⟨r, hr⟩ : ∃ r, p % 18446744073709551616 = r := ⟨_, rfl⟩
  rw [hq, hr] at hM
  have h1 : ((q : Int) != 0) = true := by simp; omega
  clear hq hr h hx hy
  go_enter Try.func11, Try.ntmps11
  go_wp2_with (go_at_call 34; refine (hM _).mono ?_; rintro e w1 ⟨rfl, rfl⟩)
  go_ret2
  exact ⟨rfl, rfl⟩

/-! ### The reference's product, bit by bit -/
def addB (a b : Int) : Bool := decide (a + b ≤ 18446744073709551615)
def addN (a b : Int) : Int := if a + b ≤ 18446744073709551615 then a + b else 0
theorem addN_bd {a b : Int} (ha : 0 ≤ a) (hb : 0 ≤ b) : 0 ≤ addN a b ∧ addN a b ≤ 18446744073709551615 := by unfold addN; split <;> omega
theorem ref_Add (a b : Int) (w : World) (ha : 0 ≤ a) (ha' : a ≤ 18446744073709551615) (hb : 0 ≤ b) (hb' : b ≤ 18446744073709551615) :
    Calls Try.prog 10 #[.int .u64 a, .int .u64 b] w fun e w' => e = .returned (.tuple #[.int .u64 (addN a b), .bool (addB a b)]) ∧ Below w.heap.size w w' := by
  by_cases h : a + b ≤ 18446744073709551615
  · have e1 : addN a b = a + b := by unfold addN; rw [if_pos h]
    have e2 : addB a b = true := by unfold addB; simp [h]
    rw [e1, e2]; exact ref_Add_yes a b w ha hb h
  · have e1 : addN a b = 0 := by unfold addN; rw [if_neg h]
    have e2 : addB a b = false := by unfold addB; simp; omega
    rw [e1, e2]; exact ref_Add_no a b w ha ha' hb hb' (by omega)
structure MulInv (p b N Q : Nat) (n part : Int) (ok fits : Bool) : Prop where
  all : p = N + Q * b
  fit : fits = true → part = (Q : Int)
  over : fits = false → 18446744073709551616 ≤ Q
  good : ok = true → n = (N : Int)
  bad : ok = false → 18446744073709551616 ≤ p
theorem MulInv.odd {p b N Q : Nat} {n part : Int} {ok fits : Bool} (I : MulInv p b N Q n part ok fits) (hb : b % 2 = 1) :
    MulInv p (b / 2) (N + Q) (Q + Q) (addN n part) (addN part part) (ok && (addB n part && fits)) (fits && addB part part) := by
  have h1 := mul_odd p N Q b I.all hb
  have hp : N + Q ≤ p := by rw [h1]; omega
  refine ⟨h1, ?_, ?_, ?_, ?_⟩
  · intro h; simp at h; have := I.fit h.1; have h2 := h.2; unfold addB at h2; simp at h2; unfold addN; rw [if_pos h2]; omega
  · intro h
    cases hf : fits
    · have := I.over hf; omega
    · have h3 := I.fit hf; rw [hf] at h; simp at h; unfold addB at h; simp at h; omega
  · intro h; simp at h
    have h4 := I.good h.1; have h5 := I.fit h.2.2; have h6 := h.2.1; unfold addB at h6; simp at h6; unfold addN; rw [if_pos h6]; omega
  · intro h
    cases ho : ok
    · exact I.bad ho
    · cases hf : fits
      · have := I.over hf; omega
      · have h4 := I.good ho; have h5 := I.fit hf; rw [ho, hf] at h; simp at h; unfold addB at h; simp at h; omega
theorem MulInv.even {p b N Q : Nat} {n part : Int} {ok fits : Bool} (I : MulInv p b N Q n part ok fits) (hb : b % 2 = 0) :
    MulInv p (b / 2) N (Q + Q) n (addN part part) ok (fits && addB part part) := by
  have h1 := mul_even p N Q b I.all hb
  refine ⟨h1, ?_, ?_, I.good, I.bad⟩
  · intro h; simp at h; have := I.fit h.1; have h2 := h.2; unfold addB at h2; simp at h2; unfold addN; rw [if_pos h2]; omega
  · intro h
    cases hf : fits
    · have := I.over hf; omega
    · have h3 := I.fit hf; rw [hf] at h; simp at h; unfold addB at h; simp at h; omega
def refMulB (x y : Nat) : Bool := decide (x * y < 18446744073709551616)
def refMulN (x y : Nat) : Nat := if x * y < 18446744073709551616 then x * y else 0
theorem MulInv.done_ok {x y N Q : Nat} {n part : Int} {fits : Bool} (I : MulInv (x * y) 0 N Q n part true fits) (hn : n ≤ 18446744073709551615) : n = (refMulN x y : Int) ∧ refMulB x y = true := by
  have h1 := I.all; have h2 := I.good rfl
  simp at h1
  have h3 : x * y < 18446744073709551616 := by omega
  unfold refMulN refMulB; rw [if_pos h3]; exact ⟨by omega, by simp [h3]⟩
theorem MulInv.done_bad {x y b N Q : Nat} {n part : Int} {fits : Bool} (I : MulInv (x * y) b N Q n part false fits) : refMulN x y = 0 ∧ refMulB x y = false := by
  have h2 := I.bad rfl
  unfold refMulN refMulB; rw [if_neg (by omega)]; exact ⟨rfl, by simp; omega⟩
set_option maxHeartbeats 1000000 in
theorem ref_Mul (x y : Nat) (hx : (x : Int) ≤ 18446744073709551615) (hy : (y : Int) ≤ 18446744073709551615) (w : World) :
    Calls Try.prog 12 #[.int .u64 x, .int .u64 y] w fun e w' => e = .returned (.tuple #[.int .u64 (refMulN x y : Int), .bool (refMulB x y)]) ∧ Below w.heap.size w w' := by
  go_enter Try.func12, Try.ntmps12
  go_wp2
  go_loopw [1, 6, 7, 8, 9] (fun vb vn vo vp vf wr => ∃ (b N Q : Nat) (n part : Int) (ok fits : Bool), vb = .int .u64 b ∧ vn = .int .u64 n ∧ vo = .bool ok ∧ vp = .int .u64 part ∧ vf = .bool fits ∧
      (b : Int) ≤ 18446744073709551615 ∧ 0 ≤ n ∧ n ≤ 18446744073709551615 ∧ 0 ≤ part ∧ part ≤ 18446744073709551615 ∧ Below w.heap.size w wr ∧ MulInv (x * y) b N Q n part ok fits)
    (fun vb _ _ _ _ _ => (intOf vb).toNat)
  case atStart => exact ⟨y, 0, x, 0, x, true, true, rfl, rfl, rfl, rfl, rfl, hy, by omega, by omega, by omega, hx, Below.refl _ _, ⟨by simp, fun _ => rfl, fun h => by simp at h, fun _ => rfl, fun h => by simp at h⟩⟩
  case round =>
    obtain ⟨b, N, Q, n, part, ok, fits, rfl, rfl, rfl, rfl, rfl, hb, hn0, hn1, hp0, hp1, hbl, I⟩ := hrel
    have hA1 := fun w => ref_Add n part w hn0 hn1 hp0 hp1
    have hA2 := fun w => ref_Add part part w hp0 hp1 hp0 hp1
    have bd1 := addN_bd hn0 hp0
    have bd2 := addN_bd hp0 hp0
    by_cases hz : b = 0
    · subst hz
      clear hA1 hA2
      by_cases hx0 : x = 0
      · subst hx0
        cases ok
        · have D := I.bad rfl; simp at D
        · have D := MulInv.done_ok I hn1
          go_wp2
          go_ret2
          exact ⟨by rw [D.2]; simp [refMulN], hbl⟩
      · have hx0' : ((x : Int) == 0) = false := by simp [hx0]
        cases ok
        · have D := MulInv.done_bad I
          go_wp2
          go_ret2
          exact ⟨by rw [D.1, D.2]; rfl, hbl⟩
        · have D := MulInv.done_ok I hn1
          clear I
          obtain ⟨rfl, D2⟩ := D
          go_wp2
          go_ret2
          exact ⟨by rw [D2]; rfl, hbl⟩
    · have hz' : (0 : Int) < (b : Int) := by omega
      by_cases ho : b % 2 = 1
      · have ho' : ((b : Int) % 2 == 1) = true := by simp; omega
        have J := I.odd ho
        clear I
        cases fits <;> cases h1 : addB n part <;> cases h2 : addB part part
        all_goals
          rw [h1] at hA1
          rw [h2] at hA2
          rw [h1, h2] at J
          simp only [Bool.and_true, Bool.and_false] at J
          go_wp2_with fail
          refine (hA1 _).mono ?_
          rintro e w1 ⟨rfl, hb1⟩
          go_wp2_with fail
          refine (hA2 _).mono ?_
          rintro e w2 ⟨rfl, hb2⟩
          go_wp2
          go_roundw
          case rel => exact ⟨b / 2, _, _, _, _, _, _, by go_num, rfl, rfl, rfl, rfl, by omega, bd1.1, bd1.2, bd2.1, bd2.2, (hbl.trans (hb1.mono hbl.size)).trans (hb2.mono (Nat.le_trans hbl.size hb1.size)), J⟩
          case measure => simp [intOf]; omega
      · have ho' : ((b : Int) % 2 == 1) = false := by simp; omega
        have J := I.even (by omega)
        clear I
        cases fits <;> cases h2 : addB part part
        all_goals
          rw [h2] at hA2
          rw [h2] at J
          simp only [Bool.and_true, Bool.and_false] at J
          go_wp2_with fail
          refine (hA2 _).mono ?_
          rintro e w2 ⟨rfl, hb2⟩
          go_wp2
          go_roundw
          case rel => exact ⟨b / 2, _, _, _, _, _, _, by go_num, rfl, rfl, rfl, rfl, by omega, hn0, hn1, bd2.1, bd2.2, hbl.trans (hb2.mono hbl.size), J⟩
          case measure => simp [intOf]; omega
end Go.Proofs.Ytbpajkoaeopnfaa
