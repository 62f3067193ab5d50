
/-
  The reference's Put, Zeros and To keep their contracts.
-/
import Derived.Test.YtgpjfcnlhlkblaaBufD
set_option linter.unusedVariables false
namespace Go.Proofs.Ytgpjfcnlhlkblaa
open Go.RowKit Go.PlainAid
/-- Only the row's own block and new blocks have turned, and the row lies where it lay, or in a new block. -/
def Gx (w w' : World) (v v' : Value) : Prop := w.grownBy w' v.ownBlock ∧ Nx w v.ownBlock v'.ownBlock
theorem Gx.refl (w : World) (v : Value) : Gx w w v v := ⟨World.grownBy.refl _ _, Nx.refl _ _⟩
theorem Gx.trans {a b c : World} {v v' v2 : Value} (h : Gx a b v v') (k : Gx b c v' v2) : Gx a c v v2 := by
  refine ⟨⟨k.1.os.trans h.1.os, k.1.tape.trans h.1.tape, k.1.output.trans h.1.output, Nat.le_trans h.1.size k.1.size, fun j hj ho => ?_⟩, h.2.trans h.1.size k.2⟩
  rw [k.1.block j (Nat.lt_of_lt_of_le hj h.1.size) ?_, h.1.block j hj ho]
  rcases h.2 with e | ⟨q, e, hq⟩
  · rw [e]; exact ho
  · rw [e]; intro e2; have := Option.some.inj e2; omega
set_option maxHeartbeats 1000000 in
theorem ref_Put (w : World) (B : Nat) (v : Value) (l : List UInt8) (n k : Nat) (h : Own w B v l) (hB : B ≤ w.heap.size) (hl : l.length + k ≤ 1000000000) (hn : (n : Int) ≤ 18446744073709551615) :
    Calls Try.prog 48 #[v, .int .u64 n, .int .i64 k] w fun e w' => ∃ v', e = .returned v' ∧ Own w' B v' (l ++ leN k n) ∧ Gx w w' v v' := by
  go_enter Try.func48, Try.ntmps48
  go_wp2
  go_loopw [0, 1, 7] (fun vb vn vi wr => ∃ (i : Nat), i ≤ k ∧ vi = .int .i64 i ∧ vn = .int .u64 ((n / 256 ^ i : Nat) : Int) ∧ Own wr B vb (l ++ leN i n) ∧ Gx w wr v vb)
    (fun _ _ vi _ => k - (intOf vi).toNat)
  case atStart => exact ⟨0, by omega, rfl, by simp, by simpa [leN] using h, Gx.refl _ _⟩
  case round =>
    obtain ⟨i, hi, rfl, rfl, hown, hg⟩ := hrel
    obtain ⟨m, hm⟩ : ∃ m, n / 256 ^ i = m := ⟨_, rfl⟩
    have hm2 : (m : Int) ≤ 18446744073709551615 := by
      have := Nat.div_le_self n (256 ^ i)
      omega
    have HM : Hid (n / 256 ^ i = m) := hm
    rw [hm]
    clear hm
    have hBr : B ≤ wr.heap.size := Nat.le_trans hB hg.1.size
    have HG : Hid _ := hg
    clear hg
    by_cases hlt : i < k
    · have HL : Hid ((l ++ leN i n).length < 140737488351232) := by rw [Hid, List.length_append, leN_length]; omega
      go_wp2_with (at_builtin; refine append_byte_at rfl _ _ rfl B wr _ (l ++ leN i n) _ hown (b8 (m % 256)) ?cc rfl rfl HL.out hBr ?_)
      case cc => rw [b8_toNat (by omega)]; omega
      intro v' w1 h1 h2 h3
      have HS : Hid (Gx w w1 v v') := Gx.trans HG.out ⟨h2, h3⟩
      obtain ⟨a', n', cap', rfl⟩ := h1.isSlice
      go_wp2
      go_roundw
      case rel =>
        refine ⟨i + 1, by omega, by go_num, ?_, ?_, HS.out⟩
        · rw [pow_step, HM.out]; go_num
        · rw [leN_snoc, HM.out]; exact h1
      case measure => simp [intOf]; omega
    · have hik : i = k := by omega
      subst hik
      go_wp2
      go_ret
      exact ⟨_, rfl, hown, HG.out⟩
set_option maxHeartbeats 1000000 in
theorem ref_Zeros (w : World) (B : Nat) (v : Value) (l : List UInt8) (z : Int) (h : Own w B v l) (hB : B ≤ w.heap.size) (hl : l.length ≤ 900000000) (hz : z ≤ 4096) :
    Calls Try.prog 49 #[v, .int .i64 z] w fun e w' => ∃ v', e = .returned v' ∧ Own w' B v' (l ++ List.replicate z.toNat 0) ∧ Gx w w' v v' := by
  go_enter Try.func49, Try.ntmps49
  go_wp2
  go_loopw [0, 5] (fun vb vi wr => ∃ (i : Nat), i ≤ z.toNat ∧ vi = .int .i64 i ∧ Own wr B vb (l ++ List.replicate i 0) ∧ Gx w wr v vb)
    (fun _ vi _ => z.toNat - (intOf vi).toNat)
  case atStart => exact ⟨0, by omega, rfl, by simpa using h, Gx.refl _ _⟩
  case round =>
    obtain ⟨i, hi, rfl, hown, hg⟩ := hrel
    have hBr : B ≤ wr.heap.size := Nat.le_trans hB hg.1.size
    have HG : Hid _ := hg
    clear hg
    by_cases hlt : (i : Int) < z
    · have HL : Hid ((l ++ List.replicate i (0 : UInt8)).length < 140737488351232) := by rw [Hid, List.length_append, List.length_replicate]; omega
      go_wp2_with (at_builtin; refine append_byte_at rfl _ _ rfl B wr _ (l ++ List.replicate i 0) _ hown 0 rfl rfl rfl HL.out hBr ?_)
      intro v' w1 h1 h2 h3
      have HS : Hid (Gx w w1 v v') := Gx.trans HG.out ⟨h2, h3⟩
      obtain ⟨a', n', cap', rfl⟩ := h1.isSlice
      go_wp2
      go_roundw
      case rel =>
        refine ⟨i + 1, by omega, by go_num, ?_, HS.out⟩
        rw [List.replicate_succ']; exact h1
      case measure => simp [intOf]; omega
    · have hik : i = z.toNat := by omega
      subst hik
      go_wp2
      go_ret
      exact ⟨_, rfl, hown, HG.out⟩
theorem to_stop {n t u : Nat} (hu : 0 < u) (ht : t ≤ toN n u) : ((n + t) % u ≠ 0 → t < toN n u) ∧ ((n + t) % u = 0 → t = toN n u) := by
  have h1 := toN_lt n u hu
  have e : n + toN n u = (n + (u - 1)) / u * u := by unfold toN; omega
  have h2 : (n + toN n u) % u = 0 := by rw [e]; exact Nat.mul_mod_left _ _
  have h3 : toN n u < u := by unfold toN; omega
  constructor
  · intro h
    rcases Nat.lt_or_ge t (toN n u) with q | q
    · exact q
    · have : t = toN n u := by omega
      subst this; exact absurd h2 h
  · intro h
    obtain ⟨a, ha⟩ := Nat.dvd_of_mod_eq_zero h
    obtain ⟨b, hb⟩ := Nat.dvd_of_mod_eq_zero h2
    rcases Nat.lt_or_ge a b with q | q
    · have : u * (a + 1) ≤ u * b := Nat.mul_le_mul_left u q
      rw [Nat.mul_add] at this
      omega
    · have : u * b ≤ u * a := Nat.mul_le_mul_left u q
      omega
/-- p is a power of 2, and the one below it lies below the unit. -/
def PowUp (u : Int) (p : Nat) : Prop := ∃ j, j ≤ 18 ∧ p = 2 ^ j ∧ (j = 0 ∨ ((2 ^ (j - 1) : Nat) : Int) < u)
theorem PowUp.le {u : Int} {p : Nat} (h : PowUp u p) : 1 ≤ p ∧ p ≤ 262144 := by
  obtain ⟨j, h1, rfl, _⟩ := h
  have a : 2 ^ j ≤ 2 ^ 18 := Nat.pow_le_pow_right (by omega) h1
  have b := Nat.two_pow_pos j
  have e : (2 : Nat) ^ 18 = 262144 := by decide
  omega
theorem PowUp.step {u : Int} {p : Nat} (h : PowUp u p) (h1 : (p : Int) < u) (h2 : p < 262144) : PowUp u (p * 2) := by
  obtain ⟨j, hj, rfl, _⟩ := h
  have hj2 : j < 18 := by
    rcases Nat.lt_or_ge j 18 with q | q
    · exact q
    · have : j = 18 := by omega
      subst this
      have e : (2 : Nat) ^ 18 = 262144 := by decide
      omega
  exact ⟨j + 1, by omega, by rw [Nat.pow_succ], .inr (by simpa using h1)⟩
theorem PowUp.ends {u : Int} {p : Nat} (h : PowUp u p) (hp : u ≤ (p : Int)) : (u = p → isPow u ∧ u ≤ 262144) ∧ (u ≠ p → ¬ (isPow u ∧ u ≤ 262144)) := by
  have hle := h.le
  obtain ⟨j, hj, rfl, h3⟩ := h
  constructor
  · intro e
    exact ⟨⟨j, by omega, e⟩, by omega⟩
  · rintro hne ⟨⟨m, hm, rfl⟩, _⟩
    apply hne
    have hmj : m ≤ j := by
      rcases Nat.lt_or_ge j m with q | q
      · have : 2 ^ j < 2 ^ m := Nat.pow_lt_pow_right (by omega) q
        omega
      · exact q
    rcases h3 with rfl | h3
    · have : m = 0 := by omega
      subst this; rfl
    · have : j - 1 < m := by
        rcases Nat.lt_or_ge (j - 1) m with q | q
        · exact q
        · have : 2 ^ m ≤ 2 ^ (j - 1) := Nat.pow_le_pow_right (by omega) q
          omega
      have : m = j := by omega
      rw [this]
def slen : Value → Nat
  | .slice _ n _ => n
  | _ => 0
set_option maxHeartbeats 2000000 in
theorem ref_To (w : World) (B : Nat) (v : Value) (l : List UInt8) (z : Int) (q : Nat) (h : Own w B v l) (hB : B ≤ w.heap.size) (hl : l.length ≤ 900000000) (h0 : -9223372036854775808 ≤ z) (hz : z ≤ 4096) (hq : ToIs l.length z q) :
    Calls Try.prog 55 #[v, .int .i64 z] w fun e w' => ∃ v', e = .returned v' ∧ Own w' B v' (l ++ List.replicate q 0) ∧ Gx w w' v v' := by
  have HQ : Hid (ToIs l.length z q) := hq
  clear hq
  have HO : Hid (Own w B v l) := h
  go_enter Try.func55, Try.ntmps55
  go_wp2
  go_loopw [5] (fun vp wr => wr = w ∧ ∃ p : Nat, vp = .int .i64 p ∧ Hid (PowUp z p)) (fun vp _ => 262144 - (intOf vp).toNat)
  case atStart => exact ⟨rfl, 1, rfl, ⟨0, by omega, rfl, .inl rfl⟩⟩
  case round =>
    obtain ⟨hwr, p, rfl, HP⟩ := hrel
    have hwr2 : w = wr := hwr.symm
    subst hwr2
    clear hwr
    have hpl := HP.out.le
    by_cases hlt : (p : Int) < z ∧ (p : Int) < 262144
    · obtain ⟨g1, g2⟩ := hlt
      have HP2 : Hid (PowUp z (p * 2)) := HP.out.step g1 (by omega)
      go_wp2
      go_roundw
      case rel => exact ⟨trivial, p * 2, by go_num, HP2⟩
      case measure => simp [intOf]; omega
    · have hge : z ≤ (p : Int) := by omega
      have E := HP.out.ends hge
      have HG0 : Hid (Gx w w v v) := Gx.refl _ _
      by_cases he : z = (p : Int)
      · obtain ⟨e1, e2⟩ := E.1 he
        have hq2 : q = toN l.length z.toNat := by
          rcases HQ.out with ⟨_, _, h3, _⟩ | ⟨h3, _⟩
          · exact h3
          · exact absurd ⟨e1, e2⟩ h3
        have hzp : z.toNat = p := by omega
        rw [hzp] at hq2
        have HQ2 : Hid (q = toN l.length p) := hq2
        have hq4 : q < 4097 := by
          have := toN_lt l.length p (by omega)
          rw [hq2]; unfold toN; omega
        subst he
        clear E e1 e2 hq2 hzp hlt hge
        go_wp2
        go_loopw [0] (fun vb wq => ∃ t : Nat, t ≤ q ∧ Own wq B vb (l ++ List.replicate t 0) ∧ Hid (Gx w wq v vb)) (fun vb _ => l.length + q - slen vb)
        case atStart => exact ⟨0, by omega, by simpa using h, HG0⟩
        case round =>
          obtain ⟨t, ht, hown, HG⟩ := hrel
          have hBr : B ≤ wr.heap.size := Nat.le_trans hB HG.out.1.size
          obtain ⟨a1, c1, he1, _⟩ := hown.slice
          have hle : (l ++ List.replicate t (0 : UInt8)).length = l.length + t := by simp
          have HS := to_stop (n := l.length) (t := t) (u := p) (by omega) (by rw [← HQ2.out]; exact ht)
          rw [← HQ2.out] at HS
          have HST : Hid _ := HS
          rw [hle] at he1
          clear HS hle
          subst he1
          have hr : ((l.length : Int) + (t : Int)).tmod (p : Int) = (((l.length + t) % p : Nat) : Int) := by
            rw [Int.tmod_eq_emod_of_nonneg (by omega), Int.natCast_emod]; rfl
          by_cases hm : (l.length + t) % p = 0
          · rw [hm] at hr
            have hmI2 : ((l.length : Int) + (t : Int)).tmod (p : Int) = 0 := hr
            have htq : t = q := HST.out.2 hm
            subst htq
            clear hr hm
            go_wp2
            go_ret
            exact ⟨_, rfl, hown, HG.out⟩
          · have htq : t < q := HST.out.1 hm
            have hmI2 : ¬ ((l.length : Int) + (t : Int)) % (p : Int) = 0 := by rw [← Int.tmod_eq_emod_of_nonneg (by omega), hr]; omega
            have HL : Hid ((l ++ List.replicate t (0 : UInt8)).length < 140737488351232) := by rw [Hid, List.length_append, List.length_replicate]; omega
            clear hr hm
            go_wp2_with (at_builtin; refine append_byte_at rfl _ _ rfl B wr _ (l ++ List.replicate t 0) _ hown 0 rfl rfl rfl HL.out hBr ?_)
            intro v' w1 h1 h2 h3
            have HS : Hid (Gx w w1 v v') := Gx.trans HG.out ⟨h2, h3⟩
            obtain ⟨a', cap', hv', _⟩ := h1.slice
            have hle : (l ++ (List.replicate t (0 : UInt8) ++ [0])).length = l.length + t + 1 := by simp; omega
            rw [hle] at hv'
            subst hv'
            clear hle
            go_wp2
            go_roundw
            case rel =>
              refine ⟨t + 1, by omega, ?_, HS⟩
              rw [List.replicate_succ']; simpa using h1
            case measure => simp [slen]; omega
      · have hq0 : q = 0 := by
          rcases HQ.out with ⟨h1, h2, _⟩ | ⟨_, h3⟩
          · exact absurd ⟨h1, h2⟩ (E.2 he)
          · exact h3
        subst hq0
        clear E
        go_wp2
        go_ret
        exact ⟨_, rfl, by simpa using HO.out, HG0⟩
end Go.Proofs.Ytgpjfcnlhlkblaa
