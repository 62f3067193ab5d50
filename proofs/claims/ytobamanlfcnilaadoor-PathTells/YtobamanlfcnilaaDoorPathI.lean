/-
  Layer 4, the program's and the reference's: Archive and Same keep their contracts.
-/
import Derived.Test.YtobamanlfcnilaaDoorPathH
set_option linter.unusedVariables false
namespace Go.Proofs.YtobamanlfcnilaaDoor
open Go.RowKit Go.PlainAid
theorem below_drewN (w : World) (n : Nat) : Below w.heap.size w (w.drewN n) := ⟨rfl, rfl, rfl, Nat.le_refl _, fun _ _ => rfl⟩
/-- Both sides of the first !/, and whether there is one. -/
def arcA (l : List UInt8) : List UInt8 := (Lib.cut l [33, 47]).1
def arcB (l : List UInt8) : List UInt8 := (Lib.cut l [33, 47]).2.1
def arcC (l : List UInt8) : Bool := (Lib.cut l [33, 47]).2.2
set_option maxHeartbeats 400000 in
theorem path_Archive (s : ByteArray) (w : World) (hm : Mx w) (hs : s.size ≤ 100000000) :
    Calls Tryd.prog 16 #[.string s] w fun e w' => e = .returned (.tuple #[.string (tx (arcA s.data.toList)), .string (tx (arcB s.data.toList)), .bool (arcC s.data.toList)]) ∧ Below w.heap.size w w' := by
  obtain ⟨m, hm⟩ := hm
  have hC : Calls Tryd.prog 34 #[.string s, .string ⟨#[33, 47]⟩] w fun e w' => e = .returned (.tuple #[.string (tx (arcA s.data.toList)), .string (tx (arcB s.data.toList)), .bool (arcC s.data.toList)]) ∧ ∃ n, w' = w.drewN n := Tryd.strings_Cut s ⟨#[33, 47]⟩ m w (by omega) hm
  clear hm
  generalize tx (arcA s.data.toList) = A at *
  generalize tx (arcB s.data.toList) = B at *
  generalize arcC s.data.toList = C at *
  go_enter Tryd.func16, Tryd.ntmps16
  go_wp2_with (go_at_call 34; refine hC.mono ?_; rintro e w0 ⟨rfl, n, hw0⟩; rw [hw0]; clear hw0)
  go_ret3
  exact ⟨rfl, below_drewN _ _⟩
theorem occ2 (l : List UInt8) (k : Nat) (h : k + 1 < l.length) : Lib.occAt l [33, 47] k = (l.getD k 0 == 33 && l.getD (k + 1) 0 == 47) := by
  unfold Lib.occAt
  rw [drop_cons l k (by omega), drop_cons l (k + 1) h]
  simp only [List.isPrefixOf, Bool.and_true]
  rw [Bool.beq_comm (a := (33 : UInt8)), Bool.beq_comm (a := (47 : UInt8))]
theorem occ2_no (l : List UInt8) (k : Nat) (h : ¬ k + 1 < l.length) : Lib.occAt l [33, 47] k = false := by
  rw [Bool.eq_false_iff]
  intro hh
  rcases Lib.occAt_room hh with h1 | h1
  · simp at h1; omega
  · cases h1
theorem arc_hit (l : List UInt8) (k : Nat) (hk : k + 1 < l.length) (h : Lib.occAt l [33, 47] k = true) (hn : ∀ j, j < k → Lib.occAt l [33, 47] j = false) : arcA l = l.take k ∧ arcB l = l.drop (k + 2) ∧ arcC l = true := by
  have hi := Lib.index_first (by omega) h hn
  unfold arcA arcB arcC Lib.cut
  rw [if_pos (by omega), hi]
  exact ⟨rfl, rfl, rfl⟩
theorem arc_none (l : List UInt8) (hn : ∀ j, Lib.occAt l [33, 47] j = false) : arcA l = l ∧ arcB l = [] ∧ arcC l = false := by
  have hi := Lib.index_none (s := l) (sub := [33, 47]) (fun j _ => hn j)
  unfold arcA arcB arcC Lib.cut
  rw [if_neg (by omega)]
  exact ⟨rfl, rfl, rfl⟩
theorem byte_is (a : UInt8) (n : Nat) (hn : n < 256) : ((a.toNat : Int) == (n : Int)) = (a == UInt8.ofNat n) := by
  rw [Bool.eq_iff_iff]
  simp only [beq_iff_eq]
  constructor
  · intro h; apply UInt8.toNat_inj.1; rw [UInt8.toNat_ofNat']; omega
  · intro h; rw [h, UInt8.toNat_ofNat']; omega
set_option maxHeartbeats 1000000 in
theorem ref_Archive (s : ByteArray) (w : World) (hs : s.size ≤ 100000000) :
    Calls Tryd.prog 17 #[.string s] w fun e w' => e = .returned (.tuple #[.string (tx (arcA s.data.toList)), .string (tx (arcB s.data.toList)), .bool (arcC s.data.toList)]) ∧ Below w.heap.size w w' := by
  have HSL : Hid (s.size = s.data.toList.length) := size_list s
  obtain ⟨A, hA⟩ : ∃ A, tx (arcA s.data.toList) = A := ⟨_, rfl⟩
  obtain ⟨B, hB⟩ : ∃ B, tx (arcB s.data.toList) = B := ⟨_, rfl⟩
  obtain ⟨C, hC⟩ : ∃ C, arcC s.data.toList = C := ⟨_, rfl⟩
  rw [hA, hB, hC]
  have HA : Hid (tx (arcA s.data.toList) = A) := hA
  have HB : Hid (tx (arcB s.data.toList) = B) := hB
  have HC : Hid (arcC s.data.toList = C) := hC
  clear hA hB hC
  go_enter Tryd.func17, Tryd.ntmps17
  go_wp2
  go_loop [5] (fun vi => ∃ k : Nat, vi = .int .i64 k ∧ k ≤ s.size ∧ Hid (∀ j, j < k → Lib.occAt s.data.toList [33, 47] j = false)) (fun vi => s.size - (intOf vi).toNat)
  case atStart => exact ⟨0, rfl, by omega, fun j hj => by omega⟩
  case round =>
    obtain ⟨k, rfl, hk, HN⟩ := hrel
    by_cases hlt : k + 1 < s.size
    · have hltI : (k : Int) + 1 < (s.size : Int) := by omega
      have ho := occ2 s.data.toList k (by have := HSL.out; omega)
      have hk1 : k < s.size := by omega
      rw [← get_list s k hk1, ← get_list s (k + 1) hlt] at ho
      have e1 : ((s[k].toNat : Int) == 33) = (s[k] == 33) := byte_is s[k] 33 (by omega)
      have e2 : ((s[k + 1].toNat : Int) == 47) = (s[k + 1] == 47) := byte_is s[k + 1] 47 (by omega)
      rw [← e1, ← e2] at ho
      clear e1 e2
      cases h1 : ((s[k].toNat : Int) == 33) with
      | false =>
        have HN2 : Hid (∀ j, j < k + 1 → Lib.occAt s.data.toList [33, 47] j = false) := by
          intro j hj
          by_cases hjk : j = k
          · rw [hjk, ho, h1]; rfl
          · exact HN.out j (by omega)
        clear ho HN
        go_wp2
        go_round
        case rel => exact ⟨k + 1, by go_num, by omega, HN2⟩
        case measure => (simp [intOf] <;> omega)
      | true =>
        cases h2 : ((s[k + 1].toNat : Int) == 47) with
        | false =>
          have HN2 : Hid (∀ j, j < k + 1 → Lib.occAt s.data.toList [33, 47] j = false) := by
            intro j hj
            by_cases hjk : j = k
            · rw [hjk, ho, h1, h2]; rfl
            · exact HN.out j (by omega)
          clear ho HN
          go_wp2
          go_round
          case rel => exact ⟨k + 1, by go_num, by omega, HN2⟩
          case measure => (simp [intOf] <;> omega)
        | true =>
          have hh := arc_hit s.data.toList k (by have := HSL.out; omega) (by rw [ho, h1, h2]; rfl) HN.out
          have HH : Hid (tx (s.data.toList.take k) = A ∧ tx (s.data.toList.drop (k + 2)) = B ∧ true = C) := by
            rw [Hid, ← HA.out, ← HB.out, ← HC.out, hh.1, hh.2.1, hh.2.2]; exact ⟨rfl, rfl, rfl⟩
          have HE1 : Hid (s.extract 0 k = tx (s.data.toList.take k)) := extract_start s k
          have HE2 : Hid (s.extract (k + 2) s.size = tx (s.data.toList.drop (k + 2))) := extract_end s (k + 2)
          have hk2 : (k : Int) + 2 ≤ (s.size : Int) := by omega
          have hk3 : (k : Int) ≤ (s.size : Int) := by omega
          clear hh ho HN
          go_wp2
          go_region
          go_wp2
          go_ret3
          exact ⟨by rw [← HH.out.1, ← HH.out.2.1, ← HH.out.2.2, ← HE1.out, ← HE2.out]; rfl, (Below.refl _ _).drew⟩
    · have hltI : ¬ (k : Int) + 1 < (s.size : Int) := by omega
      have hh := arc_none s.data.toList (by
        intro j
        by_cases hj : j < k
        · exact HN.out j hj
        · exact occ2_no _ _ (by have := HSL.out; omega))
      have HH : Hid (s = A ∧ tx [] = B ∧ false = C) := by
        rw [Hid, ← HA.out, ← HB.out, ← HC.out, hh.1, hh.2.1, hh.2.2, tx_data]; exact ⟨rfl, rfl, rfl⟩
      clear hh HN
      go_wp2
      go_ret3
      exact ⟨by rw [← HH.out.1, ← HH.out.2.1, ← HH.out.2.2]; rfl, Below.refl _ _⟩
set_option maxHeartbeats 1000000 in
theorem ref_Same (w : World) (B C : Nat) (v u : Value) (xs : List ByteArray) (h1 : OwnS w B v xs) (h2 : OwnS w C u xs) (hl : xs.length ≤ 1000000) :
    Calls Tryd.prog 9 #[v, u] w fun e w' => e = .returned (.bool true) ∧ Below w.heap.size w w' := by
  obtain ⟨a, cap, rfl⟩ := h1.slice
  obtain ⟨b, cap', rfl⟩ := h2.slice
  by_cases h0 : 0 < xs.length
  · obtain ⟨g, rfl, _, _, hc1, hc2, hcell⟩ := h1.cells h0
    obtain ⟨g', rfl, _, _, hc1', hc2', hcell'⟩ := h2.cells h0
    have hcap : cap ≤ 9223372036854775807 := by unfold maxLen at hc2; omega
    have hcap' : cap' ≤ 9223372036854775807 := by unfold maxLen at hc2'; omega
    have HC1 : Hid (∀ j x, xs[j]? = some x → w.cell? ⟨g, j, none⟩ = some (.string x)) := hcell
    have HC2 : Hid (∀ j x, xs[j]? = some x → w.cell? ⟨g', j, none⟩ = some (.string x)) := hcell'
    clear h1 h2 hcell hcell'
    go_enter Tryd.func9, Tryd.ntmps9
    go_wp2
    go_loopw [5] (fun vi wr => ∃ i m : Nat, vi = .int .i64 i ∧ i ≤ xs.length ∧ wr = w.drewN m) (fun vi _ => xs.length - (intOf vi).toNat)
    case atStart => exact ⟨0, 0, rfl, by omega, rfl⟩
    case round =>
      obtain ⟨i, m, rfl, hi, rfl⟩ := hrel
      by_cases hlt : i < xs.length
      · have hltI : (i : Int) < (xs.length : Int) := by omega
        obtain ⟨x, hx⟩ : ∃ x, xs[i]? = some x := ⟨xs[i], List.getElem?_eq_getElem hlt⟩
        have c1 := HC1.out i x hx
        have c2 := HC2.out i x hx
        have k1 : i < cap := by omega
        have k2 : i < cap' := by omega
        clear hx
        go_wp2
        go_quiet (fail)
        go_wp2
        go_roundw
        case rel => exact ⟨i + 1, _, by go_num, by omega, rfl⟩
        case measure => (simp [intOf] <;> omega)
      · have hltI : ¬ (i : Int) < (xs.length : Int) := by omega
        go_wp2
        go_ret
        exact ⟨rfl, below_drewN _ _⟩
  · have h00 : xs.length = 0 := by omega
    clear h1 h2
    go_enter Tryd.func9, Tryd.ntmps9
    go_wp2
    go_loop [5] (fun vi => vi = .int .i64 0) (fun _ => 0)
    case atStart => rfl
    case round =>
      subst hrel
      go_wp2
      go_ret
      exact ⟨rfl, Below.refl _ _⟩
end Go.Proofs.YtobamanlfcnilaaDoor
