
/-
  The reference of layer 3: number keeps its contract (what a row of 64 bits says).
-/
import Derived.Test.YthbikbeedopbcaaLebM
import Derived.Test.YthbikbeedopbcaaRdF
set_option linter.unusedVariables false
namespace Go.Proofs.Ythbikbeedopbcaa
open Go.RowKit Go.PlainAid
/-- What bits say, the lowest first. -/
def nb : List Bool → Nat
  | [] => 0
  | b :: t => b.toNat + 2 * nb t
theorem nb_lt : ∀ l : List Bool, nb l < 2 ^ l.length
  | [] => by simp [nb]
  | b :: t => by
    have := nb_lt t
    have hb : b.toNat ≤ 1 := Bool.toNat_le b
    simp only [nb, List.length_cons, Nat.pow_succ]
    omega
theorem nb_drop (l : List Bool) (k : Nat) (h : k < l.length) : nb (l.drop k) = (l.getD k false).toNat + 2 * nb (l.drop (k + 1)) := by
  rw [List.drop_eq_getElem_cons h, nb]
  congr 2
  simp [List.getD, List.getElem?_eq_getElem h]
theorem nb_drop_lt (l : List Bool) (k : Nat) (hl : l.length = 64) : nb (l.drop k) < 2 ^ (64 - k) := by
  have := nb_lt (l.drop k)
  rwa [List.length_drop, hl] at this
set_option maxHeartbeats 1000000 in
theorem ref_number (w : World) (g o cap : Nat) (l : List Bool) (hl : l.length = 64) (hc1 : 64 ≤ cap) (hc2 : cap ≤ maxLen) (hc : ∀ j, j < 64 → w.cell? ⟨g, o + j, none⟩ = some (.bool (l.getD j false))) :
    Calls Try.prog 36 #[.slice (some ⟨g, o, none⟩) 64 cap] w fun e w' => e = .returned (.int .u64 (nb l)) ∧ Below w.heap.size w w' := by
  have HC : Hid (∀ j, j < 64 → w.cell? ⟨g, o + j, none⟩ = some (.bool (l.getD j false))) := hc
  have HL : Hid (l.length = 64) := hl
  have hcap : cap ≤ 9223372036854775807 := by unfold maxLen at hc2; omega
  clear hc hl
  go_enter Try.func36, Try.ntmps36
  go_wp2
  go_loopw [3, 4] (fun vn vi wr => ∃ (k : Nat), k ≤ 64 ∧ vi = .int .i64 ((k : Int) - 1) ∧ vn = .int .u64 (nb (l.drop k)) ∧ Hid (Below w.heap.size w wr) ∧ Hid (∀ j, j < 64 → wr.cell? ⟨g, o + j, none⟩ = some (.bool (l.getD j false)))) (fun _ vi _ => (intOf vi + 1).toNat)
  case atStart =>
    refine ⟨64, by omega, by go_num, ?_, Below.refl _ _, HC⟩
    rw [List.drop_of_length_le (by have := HL.out; omega)]; rfl
  case round =>
    obtain ⟨k, hk, rfl, rfl, HB, HCC⟩ := hrel
    by_cases h0 : k = 0
    · subst h0
      rw [List.drop_zero]
      go_wp2
      go_ret
      exact ⟨rfl, HB.out⟩
    · obtain ⟨q, rfl⟩ : ∃ q, k = q + 1 := ⟨k - 1, by omega⟩
      have hq : ((q + 1 : Nat) : Int) - 1 = (q : Int) := by omega
      rw [hq]
      have hcell := HCC.out q (by omega)
      have HS := nb_drop l q (by have := HL.out; omega)
      have hlt := nb_drop_lt l (q + 1) HL.out
      have h63 : 2 ^ (64 - (q + 1)) ≤ 2 ^ 63 := Nat.pow_le_pow_right (by omega) (by omega)
      have e63 : (2 : Nat) ^ 63 = 9223372036854775808 := by decide
      obtain ⟨n, hn⟩ : ∃ n, nb (l.drop (q + 1)) = n := ⟨_, rfl⟩
      rw [hn] at HS hlt ⊢
      have hn63 : n < 9223372036854775808 := by omega
      obtain ⟨b, hb⟩ : ∃ b, l.getD q false = b := ⟨_, rfl⟩
      rw [hb] at HS hcell
      have HSS : Hid _ := HS
      have hw : IntKind.u64.wrap ((n : Int) * 2) = (n : Int) * 2 := by rw [IntKind.wrap_u64]; omega
      have hw2 : IntKind.u64.wrap ((n : Int) * 2 + 1) = (n : Int) * 2 + 1 := by rw [IntKind.wrap_u64]; omega
      clear HS hlt h63 e63 hn hb
      have hge : (0 : Int) ≤ (q : Int) := by omega
      cases b
      · go_wp2
        go_roundw
        case rel => exact ⟨q, by omega, by go_num, by rw [HSS.out]; simp; omega, HB, HCC⟩
        case measure => simp [intOf]
      · go_wp2
        go_roundw
        case rel => exact ⟨q, by omega, by go_num, by rw [HSS.out]; simp; omega, HB, HCC⟩
        case measure => simp [intOf]
end Go.Proofs.Ythbikbeedopbcaa
