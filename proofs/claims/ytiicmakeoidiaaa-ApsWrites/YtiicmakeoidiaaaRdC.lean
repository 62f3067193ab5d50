
/-
  leb's Reader.take where there is no whole number left: the reader stops, with the first error, and answers noughts.
-/
import Derived.Test.YtiicmakeoidiaaaRdB
import Derived.Deep.AppendLies
set_option linter.unusedVariables false
namespace Go.Proofs.Ytiicmakeoidiaaa
open Go.RowKit Go.PlainAid
/-- What is kept of a reader with nothing left, where cells of another block are set. -/
theorem Rd.setFar {w : World} {R : Nat} {e : Int} (h : Rd w R [] e) (b o : Nat) (hb : b ≠ R) (x : Value) : Rd (w.setCell ⟨b, o, none⟩ x) R [] e := by
  obtain ⟨h1, ⟨v, h2, h3⟩, h4, h5, h6⟩ := h
  refine ⟨by simpa using h1, ⟨v, ?_, ?_⟩, ?_, by simpa using h5, by simpa using h6⟩
  · rw [World.cell?_setCell_other _ _ _ _ (by intro h; exact hb (congrArg Addr.block h))]; exact h2
  · obtain ⟨a, cap, rfl, q1, q2, _⟩ := h3
    exact ⟨a, cap, rfl, q1, q2, .inl rfl⟩
  · rw [World.cell?_setCell_other _ _ _ _ (by intro h; exact hb (congrArg Addr.block h))]; exact h4
theorem Rd.drew {w : World} {R : Nat} {l : List UInt8} {e : Int} (h : Rd w R l e) : Rd w.drew R l e := by
  obtain ⟨h1, ⟨v, h2, ⟨a, cap, rfl, q1, q2, q3⟩⟩, h4, h5, h6⟩ := h
  exact ⟨h1, ⟨_, h2, ⟨a, cap, rfl, q1, q2, q3⟩⟩, h4, h5, h6⟩
def noErr (l : List UInt8) : Int := if 10 ≤ l.length then 30 else 20
set_option maxHeartbeats 2000000 in
theorem take_no (R : Nat) (l : List UInt8) (e : Int) (w : World) (h : Rd w R l e) (hne : l ≠ []) (hhigh : ∀ i, i < 10 → i < l.length → 128 ≤ (l.getD i 0).toNat) :
    Calls Try.prog 36 #[.pointer (some ⟨R, 0, none⟩)] w fun x w' =>
      x = .returned (.tuple #[.agg #[.int .u64 0, .int .i64 0, .int .u8 0], .bool false]) ∧ Rd w' R [] (first e (noErr l)) ∧ w.grownBy w' (some R) := by
  have HRD : Hid (Rd w R l e) := h
  obtain ⟨h1, ⟨v, h2, ⟨a, cap, rfl, h7, h8, h9⟩⟩, h4, h5, h6⟩ := h
  have hcap : cap ≤ 9223372036854775807 := by unfold maxLen at h8; omega
  obtain ⟨g, o, rfl, h10, h11, h12⟩ : ∃ g o, a = some ⟨g, o, none⟩ ∧ g < R ∧ g < w.heap.size ∧ ∀ j (hj : j < l.length), w.cell? ⟨g, o + j, none⟩ = some (.int .u8 (l[j].toNat : Int)) := by
    rcases h9 with rfl | h9
    · exact absurd rfl hne
    · exact h9
  have hpos : 0 < l.length := List.length_pos_iff.mpr hne
  clear h9 hne
  have H12 : Hid (∀ j (hj : j < l.length), w.cell? ⟨g, o + j, none⟩ = some (.int .u8 (l[j].toNat : Int))) := h12
  have HH : Hid (∀ i, i < 10 → i < l.length → 128 ≤ (l.getD i 0).toNat) := hhigh
  clear h12 hhigh
  have hN : w.heap.size ≠ R := by omega
  obtain ⟨m, hm10, hml, hmm⟩ : ∃ m : Nat, m ≤ 10 ∧ m ≤ l.length ∧ ((10 < (l.length : Int) ∧ m = 10 ∧ noErr l = 30 ∧ ((m : Int) == 10) = true) ∨ ((l.length : Int) ≤ 10 ∧ m = l.length ∧ noErr l = 30 ∧ ((m : Int) == 10) = true) ∨ ((l.length : Int) ≤ 10 ∧ m = l.length ∧ noErr l = 20 ∧ ((m : Int) == 10) = false)) := by
    by_cases hx : 10 < l.length
    · exact ⟨10, by omega, by omega, .inl ⟨by omega, rfl, by unfold noErr; rw [if_pos (by omega)], rfl⟩⟩
    · by_cases hy : l.length = 10
      · exact ⟨l.length, by omega, by omega, .inr (.inl ⟨by omega, rfl, by unfold noErr; rw [if_pos (by omega)], by simp [hy]⟩)⟩
      · exact ⟨l.length, by omega, by omega, .inr (.inr ⟨by omega, rfl, by unfold noErr; rw [if_neg (by omega)], by simp; omega⟩)⟩
  rcases hmm with ⟨hl1, rfl, hE, h10t⟩ | ⟨hl1, rfl, hE, h10t⟩ | ⟨hl1, rfl, hE, h10t⟩
  all_goals
    rw [hE]
    clear hE
    have hl2 : (l.length : Int) ≤ (cap : Int) := by omega
    go_enter Try.func36, Try.ntmps36
    go_wp2
    go_region
    all_goals go_wp2
    go_loopw [20] (fun vi wr => ∃ (k : Nat), k ≤ 10 ∧ k ≤ l.length ∧ vi = .int .i64 k ∧ TR w.heap.size w wr R l k)
      (fun vi _ => 11 - (intOf vi).toNat)
    case atStart => exact ⟨0, by omega, by omega, rfl, TR.start w R l _ _⟩
    case round =>
      obtain ⟨k, hk, hkl, rfl, T⟩ := hrel
      have T' := T
      obtain ⟨c0, c1, c2, s0, s1, s2, r0, r1, r2, t0, t1, t2, gb⟩ := T
      have HT : Hid (TR w.heap.size w wr R l k) := T'
      clear T'
      by_cases hkn : k < 10 ∧ k < l.length
      · obtain ⟨hk1, hk2⟩ := hkn
        obtain ⟨c, hcc⟩ : ∃ c, l.getD k 0 = c := ⟨_, rfl⟩
        have hc : wr.cell? ⟨g, o + k, none⟩ = some (.int .u8 (c.toNat : Int)) := by
          have e1 := H12.out k (by omega)
          have e2 : l[k]'(by omega) = c := by rw [← hcc]; simp [List.getD, List.getElem?_eq_getElem hk2]
          rw [e2] at e1
          exact gb.cell e1 (by simp)
        have ha := and127 c
        have hb := and128 c
        have hk1' : (k : Int) < 10 := by omega
        have hkl' : (k : Int) < (l.length : Int) := by omega
        have HC : Hid (l.getD k 0 = c) := hcc
        obtain ⟨x, hx⟩ : ∃ x, gv l k = x := ⟨_, rfl⟩
        have HX : Hid (gv l k = x) := hx
        rw [hx] at c0
        have hd : decide (c.toNat < 128) = false := by have := HH.out k hk1 hk2; rw [hcc] at this; simp; omega
        rw [hd] at hb
        clear hcc hx hd
        go_wp2
        go_region
        all_goals go_wp2
        go_roundw
        case rel => exact ⟨k + 1, by omega, by omega, by go_num, HT.out.step c HC.out x HX.out.symm⟩
        case measure => simp [intOf]; omega
      · have hST := fun n => leb_stop R l e n wr (HRD.out.on gb)
        first
          | (have hke : k = 10 := by omega
             subst hke)
          | (have hke : k = l.length := by omega
             subst hke)
        clear c0 c2 s0 s1 s2 HT
        go_wp2_with fail
        refine (hST _).mono ?_
        rintro x w1 ⟨rfl, hrd, hgb⟩
        have p0 := hgb.cell r0 (by simpa using hN)
        have p1 := hgb.cell r1 (by simpa using hN)
        have p2 := hgb.cell r2 (by simpa using hN)
        have f0 := (hgb.frozen_far ⟨w.heap.size, 0, none⟩ (World.block_lt_of_cell? _ _ r0) (by simpa using hN)).trans t0
        have f1 := (hgb.frozen_far ⟨w.heap.size, 1, none⟩ (World.block_lt_of_cell? _ _ r1) (by simpa using hN)).trans t1
        have f2 := (hgb.frozen_far ⟨w.heap.size, 2, none⟩ (World.block_lt_of_cell? _ _ r2) (by simpa using hN)).trans t2
        have gw : w.grownBy w1 (some R) := (gb.but _).trans hgb
        clear hST r0 r1 r2 t0 t1 t2 c1 hgb
        go_wp2
        refine bodyPost_ret (v := .tuple #[.agg #[.int .u64 0, .int .i64 0, .int .u8 0], .bool false]) (by simp [results, Try.results36, go_sem, p0, p1, p2]) rfl ⟨rfl, ?_, ?_⟩
        · exact ((hrd.setFar _ _ hN _).setFar _ _ hN _).setFar _ _ hN _
        · exact gb_setNew (gb_setNew (gb_setNew gw _ _ (Nat.le_refl _) _) _ _ (Nat.le_refl _) _) _ _ (Nat.le_refl _) _
set_option maxHeartbeats 2000000 in
theorem take_nil (R : Nat) (e : Int) (w : World) (h : Rd w R [] e) :
    Calls Try.prog 36 #[.pointer (some ⟨R, 0, none⟩)] w fun x w' =>
      x = .returned (.tuple #[.agg #[.int .u64 0, .int .i64 0, .int .u8 0], .bool false]) ∧ Rd w' R [] (first e 20) ∧ w.grownBy w' (some R) := by
  have HRD : Hid (Rd w R [] e) := h
  obtain ⟨h1, ⟨v, h2, ⟨a, cap, rfl, h7, h8, h9⟩⟩, h4, h5, h6⟩ := h
  have hcap : cap ≤ 9223372036854775807 := by unfold maxLen at h8; omega
  have hN : w.heap.size ≠ R := by omega
  simp only [List.length_nil] at h2
  clear h9 h7
  go_enter Try.func36, Try.ntmps36
  go_wp2
  go_region
  all_goals go_wp2
  go_loopw [20] (fun vi wr => vi = .int .i64 0 ∧ TR w.heap.size w wr R [] 0) (fun vi _ => 0)
  case atStart => exact ⟨rfl, TR.start w R [] _ _⟩
  case round =>
    obtain ⟨rfl, T⟩ := hrel
    obtain ⟨c0, c1, c2, s0, s1, s2, r0, r1, r2, t0, t1, t2, gb⟩ := T
    have hST := fun n => leb_stop R [] e n wr (HRD.out.on gb)
    clear c0 c2 s0 s1 s2
    go_wp2_with fail
    refine (hST _).mono ?_
    rintro x w1 ⟨rfl, hrd, hgb⟩
    have p0 := hgb.cell r0 (by simpa using hN)
    have p1 := hgb.cell r1 (by simpa using hN)
    have p2 := hgb.cell r2 (by simpa using hN)
    have f0 := (hgb.frozen_far ⟨w.heap.size, 0, none⟩ (World.block_lt_of_cell? _ _ r0) (by simpa using hN)).trans t0
    have f1 := (hgb.frozen_far ⟨w.heap.size, 1, none⟩ (World.block_lt_of_cell? _ _ r1) (by simpa using hN)).trans t1
    have f2 := (hgb.frozen_far ⟨w.heap.size, 2, none⟩ (World.block_lt_of_cell? _ _ r2) (by simpa using hN)).trans t2
    have gw : w.grownBy w1 (some R) := (gb.but _).trans hgb
    clear hST r0 r1 r2 t0 t1 t2 c1 hgb
    go_wp2
    refine bodyPost_ret (v := .tuple #[.agg #[.int .u64 0, .int .i64 0, .int .u8 0], .bool false]) (by simp [results, Try.results36, go_sem, p0, p1, p2]) rfl ⟨rfl, ?_, ?_⟩
    · exact ((hrd.setFar _ _ hN _).setFar _ _ hN _).setFar _ _ hN _
    · exact gb_setNew (gb_setNew (gb_setNew gw _ _ (Nat.le_refl _) _) _ _ (Nat.le_refl _) _) _ _ (Nat.le_refl _) _
end Go.Proofs.Ytiicmakeoidiaaa
