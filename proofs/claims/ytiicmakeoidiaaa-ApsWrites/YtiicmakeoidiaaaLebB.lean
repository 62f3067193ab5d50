
/-
  The reference's PutS keeps its contract: the groups of a number with its sign, in new memory; nothing that was there is turned.
-/
import Derived.Test.YtiicmakeoidiaaaLebA
set_option linter.unusedVariables false
namespace Go.Proofs.Ytiicmakeoidiaaa
open Go.RowKit Go.PlainAid
theorem tmod_facts (m : Int) (h : m < 0) : ∃ t, m.tmod 128 = t ∧ ((t = 0 ∧ m % 128 = 0) ∨ (t < 0 ∧ -128 < t ∧ m % 128 = t + 128)) := by
  refine ⟨_, rfl, ?_⟩
  have h1 := Int.tmod_eq_emod (a := m) (b := 128)
  rw [h1]
  split <;> omega
theorem tdiv_exact (m g : Int) (h : m % 128 = g) : (m - g).tdiv 128 = m / 128 := by
  have e : m - g = 128 * (m / 128) := by omega
  rw [e, Int.mul_tdiv_cancel_left _ (by omega)]
theorem b8_group {m : Int} : (m % 128) = ((b8 (m % 128).toNat).toNat : Int) := by rw [ofNat_toNat (by omega)]; omega
theorem b8_group2 {m : Int} : (m % 128) + 128 = ((b8 ((m % 128).toNat + 128)).toNat : Int) := by rw [ofNat_toNat (by omega)]; omega
set_option maxHeartbeats 1000000 in
theorem ref_PutS (n : Int) (w : World) (h0 : -9223372036854775808 ≤ n) (h : n ≤ 9223372036854775807) :
    Calls Try.prog 25 #[.int .i64 n] w fun e w' => ∃ v, e = .returned v ∧ Own w' w.heap.size v (lebS 10 n) ∧ Below w.heap.size w w' := by
  go_enter Try.func25, Try.ntmps25
  go_wp2
  go_loopw [0, 3] (fun vn vo wr => ∃ (m : Int) (f : Nat) (acc : List UInt8), vn = .int .i64 m ∧ -9223372036854775808 ≤ m ∧ m ≤ 9223372036854775807 ∧ 1 ≤ f ∧ f + acc.length = 10 ∧ Own wr w.heap.size vo acc ∧ Below w.heap.size w wr ∧ Hid (roomS f m) ∧ Hid (lebS 10 n = acc ++ lebS f m))
    (fun vn _ _ => (intOf vn).natAbs)
  case atStart => exact ⟨n, 10, [], rfl, h0, h, by omega, rfl, Own.nil _ _, Below.refl _ _, roomS_start h0 h, rfl⟩
  case round =>
    obtain ⟨m, f, acc, rfl, hm0, hm, hf, hfa, hown, hbl, HM, HD⟩ := hrel
    by_cases hlt : -64 ≤ m ∧ m < 64
    · have HL := lebS_last hf HD.out hlt
      have HLL : Hid (lebS 10 n = acc ++ [b8 (m % 128).toNat]) := HL
      obtain ⟨l1, l2⟩ := hlt
      have l2' : m ≤ 63 := by omega
      clear HL
      by_cases hs : 0 ≤ m
      · have hg : ¬ m % 128 < 0 := by omega
        have HB : Hid (m % 128 = ((b8 (m % 128).toNat).toNat : Int)) := b8_group
        go_wp2_with (at_builtin; refine append_byte rfl _ _ rfl w.heap.size _ _ acc _ hown (b8 (m % 128).toNat) HB.out rfl rfl (by omega) hbl.size ?_)
        intro v' w1 h1 h2
        go_wp2
        go_ret
        exact ⟨_, rfl, by rw [HLL.out]; exact h1, hbl.trans h2⟩
      · obtain ⟨t, ht, hor⟩ := tmod_facts m (by omega)
        rcases hor with ⟨rfl, he⟩ | ⟨t0, t1, he⟩
        · have hq := tdiv_exact m 0 he
          have HB : Hid ((0 : Int) = ((b8 (m % 128).toNat).toNat : Int)) := by rw [Hid, ← b8_group]; exact he.symm
          rw [Int.sub_zero] at hq
          clear he
          go_wp2_with (at_builtin; refine append_byte rfl _ _ rfl w.heap.size _ _ acc _ hown (b8 (m % 128).toNat) HB.out rfl rfl (by omega) hbl.size ?_)
          intro v' w1 h1 h2
          go_wp2
          go_ret
          exact ⟨_, rfl, by rw [HLL.out]; exact h1, hbl.trans h2⟩
        · have hq := tdiv_exact m (t + 128) he
          have HB : Hid (t + 128 = ((b8 (m % 128).toNat).toNat : Int)) := by rw [Hid, ← b8_group]; exact he.symm
          clear he
          go_wp2_with (at_builtin; refine append_byte rfl _ _ rfl w.heap.size _ _ acc _ hown (b8 (m % 128).toNat) HB.out rfl rfl (by omega) hbl.size ?_)
          intro v' w1 h1 h2
          go_wp2
          go_ret
          exact ⟨_, rfl, by rw [HLL.out]; exact h1, hbl.trans h2⟩
    · have D := roomS_step hf HM.out hlt
      have E := lebS_more hf HD.out hlt
      have HE : Hid (roomS (f - 1) (m / 128) ∧ lebS 10 n = (acc ++ [b8 ((m % 128).toNat + 128)]) ++ lebS (f - 1) (m / 128)) := ⟨D.1, E⟩
      have hf2 := D.2
      have hor2 : (m < -64) ∨ (-64 ≤ m ∧ 63 < m) := by omega
      clear D E hlt
      by_cases hs : 0 ≤ m
      · have hg : ¬ m % 128 < 0 := by omega
        have l1 : 63 < m := by omega
        have HB : Hid (m % 128 + 128 = ((b8 ((m % 128).toNat + 128)).toNat : Int)) := b8_group2
        clear hor2
        go_wp2_with (at_builtin; refine append_byte rfl _ _ rfl w.heap.size _ _ acc _ hown (b8 ((m % 128).toNat + 128)) HB.out rfl rfl (by omega) hbl.size ?_)
        intro v' w1 h1 h2
        go_wp2
        go_roundw
        case rel => exact ⟨m / 128, f - 1, acc ++ [b8 ((m % 128).toNat + 128)], by first | go_num | (congr 1; omega), by omega, by omega, hf2, by simp; omega, h1, hbl.trans h2, HE.out.1, HE.out.2⟩
        case measure => simp [intOf]; omega
      · have l1 : m < -64 := by omega
        clear hor2
        obtain ⟨t, ht, hor⟩ := tmod_facts m (by omega)
        rcases hor with ⟨rfl, he⟩ | ⟨t0, t1, he⟩
        · have hq := tdiv_exact m 0 he
          have HB : Hid ((128 : Int) = ((b8 ((m % 128).toNat + 128)).toNat : Int)) := by rw [Hid, ← b8_group2]; omega
          rw [Int.sub_zero] at hq
          have HQ : Hid (m % 128 = 0) := he
          clear he
          go_wp2_with (at_builtin; refine append_byte rfl _ _ rfl w.heap.size _ _ acc _ hown (b8 ((m % 128).toNat + 128)) HB.out rfl rfl (by omega) hbl.size ?_)
          intro v' w1 h1 h2
          go_wp2
          go_roundw
          case rel => exact ⟨m / 128, f - 1, acc ++ [b8 ((m % 128).toNat + 128)], by first | go_num | (congr 1; omega), by omega, by omega, hf2, by simp; omega, h1, hbl.trans h2, HE.out.1, HE.out.2⟩
          case measure => simp [intOf]; omega
        · have hq := tdiv_exact m (t + 128) he
          have HB : Hid (t + 128 + 128 = ((b8 ((m % 128).toNat + 128)).toNat : Int)) := by rw [Hid, ← b8_group2]; omega
          have hlow : -9223372036854775808 ≤ m - (t + 128) := by omega
          have HQ : Hid (m % 128 = t + 128) := he
          clear he
          go_wp2_with (at_builtin; refine append_byte rfl _ _ rfl w.heap.size _ _ acc _ hown (b8 ((m % 128).toNat + 128)) HB.out rfl rfl (by omega) hbl.size ?_)
          intro v' w1 h1 h2
          go_wp2
          go_roundw
          case rel => exact ⟨m / 128, f - 1, acc ++ [b8 ((m % 128).toNat + 128)], by first | go_num | (congr 1; omega), by omega, by omega, hf2, by simp; omega, h1, hbl.trans h2, HE.out.1, HE.out.2⟩
          case measure => simp [intOf]; omega
end Go.Proofs.Ytiicmakeoidiaaa
