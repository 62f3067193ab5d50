
/-
  leb's Reader.take keeps its contract: the groups of the next number are taken up, or the reader stops with an error.
-/
import Derived.Test.YtiicmakeoidiaaaRdA
import Derived.BigRegion
import Derived.Maps.RangeWalk
set_option linter.unusedVariables false
namespace Go.Proofs.Ytiicmakeoidiaaa
open Go.RowKit Go.PlainAid
/-- The bits of the first k groups, as the code gathers them. -/
def gv (l : List UInt8) : Nat → Int
  | 0 => 0
  | k + 1 => bits .or .u64 (gv l k) (IntKind.u64.wrap (((l.getD k 0).toNat : Int) % 128 * 2 ^ (7 * k)))
/-- The last group of the first k. -/
def gl (l : List UInt8) : Nat → Int
  | 0 => 0
  | k + 1 => ((l.getD k 0).toNat : Int) % 128
structure TR (N : Nat) (w wr : World) (R : Nat) (l : List UInt8) (k : Nat) : Prop where
  c0 : wr.cell? ⟨N + 1, 0, none⟩ = some (.int .u64 (gv l k))
  c1 : wr.cell? ⟨N + 1, 1, none⟩ = some (.int .i64 k)
  c2 : wr.cell? ⟨N + 1, 2, none⟩ = some (.int .u8 (gl l k))
  s0 : wr.frozen? ⟨N + 1, 0, none⟩ = false
  s1 : wr.frozen? ⟨N + 1, 1, none⟩ = false
  s2 : wr.frozen? ⟨N + 1, 2, none⟩ = false
  r0 : wr.cell? ⟨N, 0, none⟩ = some (.int .u64 0)
  r1 : wr.cell? ⟨N, 1, none⟩ = some (.int .i64 0)
  r2 : wr.cell? ⟨N, 2, none⟩ = some (.int .u8 0)
  t0 : wr.frozen? ⟨N, 0, none⟩ = false
  t1 : wr.frozen? ⟨N, 1, none⟩ = false
  t2 : wr.frozen? ⟨N, 2, none⟩ = false
  gb : w.grownBy wr none
theorem TR.start (w : World) (R : Nat) (l : List UInt8) (T1 T2 : TypeId) :
    TR w.heap.size w (((w.alloc (.cells #[.int .u64 0, .int .i64 0, .int .u8 0] T1)).alloc (.cells #[.int .u64 0, .int .i64 0, .int .u8 0] T2)).drew) R l 0 :=
  ⟨by simp [gv], by simp, by simp [gl], by simp, by simp, by simp, by simp, by simp, by simp, by simp, by simp, by simp, gb_drew (gb_alloc (gb_alloc (gb_refl _ _) _) _)⟩
theorem TR.step {w wr : World} {R : Nat} {l : List UInt8} {k : Nat} (T : TR w.heap.size w wr R l k) (c : UInt8) (hc : l.getD k 0 = c) (x : Int) (hx : x = gv l k) :
    TR w.heap.size w (((wr.setCell ⟨w.heap.size + 1, 2, none⟩ (.int .u8 ((c.toNat : Int) % 128))).setCell ⟨w.heap.size + 1, 0, none⟩
      (.int .u64 (bits .or .u64 x (IntKind.u64.wrap ((c.toNat : Int) % 128 * 2 ^ (7 * k)))))).setCell ⟨w.heap.size + 1, 1, none⟩ (.int .i64 ((k : Int) + 1))).drew R l (k + 1) := by
  obtain ⟨c0, c1, c2, s0, s1, s2, r0, r1, r2, t0, t1, t2, gb⟩ := T
  subst hc hx
  refine ⟨?_, ?_, ?_, by simpa using s0, by simpa using s1, by simpa using s2, ?_, ?_, ?_, by simpa using t0, by simpa using t1, by simpa using t2, gb_drew (gb_setNew (gb_setNew (gb_setNew gb _ _ (by omega) _) _ _ (by omega) _) _ _ (by omega) _)⟩
  · rw [World.cell?_drew, World.cell?_setCell_other _ _ _ _ (by simp)]
    exact World.cell?_setCell_same _ _ _ (by rw [World.cell?_setCell_other _ _ _ _ (by simp)]; exact c0)
  · rw [World.cell?_drew]
    exact World.cell?_setCell_same _ _ _ (by rw [World.cell?_setCell_other _ _ _ _ (by simp), World.cell?_setCell_other _ _ _ _ (by simp)]; exact c1)
  · rw [World.cell?_drew, World.cell?_setCell_other _ _ _ _ (by simp), World.cell?_setCell_other _ _ _ _ (by simp)]
    exact World.cell?_setCell_same _ _ _ c2
  · rw [World.cell?_drew, World.cell?_setCell_other _ _ _ _ (by simp), World.cell?_setCell_other _ _ _ _ (by simp), World.cell?_setCell_other _ _ _ _ (by simp)]; exact r0
  · rw [World.cell?_drew, World.cell?_setCell_other _ _ _ _ (by simp), World.cell?_setCell_other _ _ _ _ (by simp), World.cell?_setCell_other _ _ _ _ (by simp)]; exact r1
  · rw [World.cell?_drew, World.cell?_setCell_other _ _ _ _ (by simp), World.cell?_setCell_other _ _ _ _ (by simp), World.cell?_setCell_other _ _ _ _ (by simp)]; exact r2
theorem and127 (c : UInt8) : bits .and .u8 (c.toNat : Int) 127 = ((c.toNat % 128 : Nat) : Int) := by
  have h2 : ∀ k : Fin 256, bits .and .u8 (k.val : Int) 127 = ((k.val % 128 : Nat) : Int) := by decide +kernel
  exact h2 ⟨c.toNat, c.toNat_lt⟩
theorem and128 (c : UInt8) : (bits .and .u8 (c.toNat : Int) 128 == 0) = decide (c.toNat < 128) := by
  have h2 : ∀ k : Fin 256, (bits .and .u8 (k.val : Int) 128 == 0) = decide (k.val < 128) := by decide +kernel
  exact h2 ⟨c.toNat, c.toNat_lt⟩
theorem take_done {w wr W : World} {R : Nat} {l l' : List UInt8} {e : Int} {g o cap : Nat} {x y z : Value} {a b c : Value} {sv : Value} (h1 : R < w.heap.size) (gb : w.grownBy wr none)
    (h2 : w.cell? ⟨R, 0, none⟩ = some (.slice (some ⟨g, o, none⟩) l.length cap)) (h4 : w.cell? ⟨R, 1, none⟩ = some (.int .i64 e)) (h5 : w.frozen? ⟨R, 0, none⟩ = false) (h6 : w.frozen? ⟨R, 1, none⟩ = false)
    (hsv : Row w R sv l')
    (hW : W = (((((((wr.setCell ⟨w.heap.size + 1, 2, none⟩ x).setCell ⟨w.heap.size + 1, 0, none⟩ y).setCell ⟨w.heap.size + 1, 1, none⟩ z).setCell ⟨R, 0, none⟩ sv).setCell ⟨w.heap.size, 0, none⟩ a).setCell ⟨w.heap.size, 1, none⟩ b).setCell ⟨w.heap.size, 2, none⟩ c).drew.drew) :
    Rd W R l' e ∧ w.grownBy W (some R) := by
  have gb1 : w.grownBy wr (some R) := gb.but _
  have gW : w.grownBy W (some R) := by
    rw [hW]
    exact gb_drew (gb_drew (gb_setNew (gb_setNew (gb_setNew (gb_setCell (gb_setNew (gb_setNew (gb_setNew gb1 _ _ (by omega) _) _ _ (by omega) _) _ _ (by omega) _) _ _) _ _ (by omega) _) _ _ (by omega) _) _ _ (by omega) _))
  have e2 : wr.cell? ⟨R, 0, none⟩ = some (.slice (some ⟨g, o, none⟩) l.length cap) := gb.cell h2 (by simp)
  have e4 : wr.cell? ⟨R, 1, none⟩ = some (.int .i64 e) := gb.cell h4 (by simp)
  have e5 : wr.frozen? ⟨R, 0, none⟩ = false := by rw [World.frozen?_of_block (a := ⟨R, 0, none⟩) (gb.block R h1 (by simp))]; exact h5
  have e6 : wr.frozen? ⟨R, 1, none⟩ = false := by rw [World.frozen?_of_block (a := ⟨R, 1, none⟩) (gb.block R h1 (by simp))]; exact h6
  have ne1 : R ≠ w.heap.size := by omega
  have ne2 : R ≠ w.heap.size + 1 := by omega
  refine ⟨⟨Nat.lt_of_lt_of_le h1 gW.size, ⟨sv, ?_, hsv.on gW⟩, ?_, by rw [hW]; simpa using e5, by rw [hW]; simpa using e6⟩, gW⟩
  · rw [hW, World.cell?_drew, World.cell?_drew, World.cell?_setCell_other _ _ _ _ (by simp <;> omega), World.cell?_setCell_other _ _ _ _ (by simp <;> omega), World.cell?_setCell_other _ _ _ _ (by simp <;> omega)]
    refine World.cell?_setCell_same _ _ _ (u := .slice (some ⟨g, o, none⟩) l.length cap) ?_
    rw [World.cell?_setCell_other _ _ _ _ (by simp <;> omega), World.cell?_setCell_other _ _ _ _ (by simp <;> omega), World.cell?_setCell_other _ _ _ _ (by simp <;> omega)]
    exact e2
  · rw [hW, World.cell?_drew, World.cell?_drew, World.cell?_setCell_other _ _ _ _ (by simp <;> omega), World.cell?_setCell_other _ _ _ _ (by simp <;> omega), World.cell?_setCell_other _ _ _ _ (by simp <;> omega), World.cell?_setCell_other _ _ _ _ (by simp),
      World.cell?_setCell_other _ _ _ _ (by simp <;> omega), World.cell?_setCell_other _ _ _ _ (by simp <;> omega), World.cell?_setCell_other _ _ _ _ (by simp <;> omega)]
    exact e4
theorem Row.cut {w : World} {R : Nat} {l : List UInt8} {g o cap n : Nat} (hn : n ≤ l.length) (h7 : l.length ≤ cap) (h8 : cap ≤ maxLen) (h10 : g < R) (h11 : g < w.heap.size)
    (h12 : ∀ j (hj : j < l.length), w.cell? ⟨g, o + j, none⟩ = some (.int .u8 (l[j].toNat : Int))) : Row w R (.slice (some ⟨g, o + n, none⟩) (l.length - n) (cap - n)) (l.drop n) :=
  ⟨some ⟨g, o + n, none⟩, cap - n, by simp, by simp; omega, by omega, .inr ⟨g, o + n, rfl, h10, h11, fun j hj => by
    have := h12 (n + j) (by simp at hj; omega)
    rw [← Nat.add_assoc] at this
    simpa using this⟩⟩
theorem Row.gone {w : World} {R : Nat} {l : List UInt8} {a : Option Addr} {n : Nat} (hn : l.length ≤ n) : Row w R (.slice a (l.length - n) 0) (l.drop n) :=
  ⟨a, 0, by simp, by simp; omega, by simp, .inl (List.drop_of_length_le hn)⟩
set_option maxHeartbeats 2000000 in
theorem take_yes (R : Nat) (l : List UInt8) (e : Int) (w : World) (h : Rd w R l e) (n : Nat) (hn10 : n < 10) (hnl : n < l.length) (hlow : (l.getD n 0).toNat < 128) (hhigh : ∀ i, i < n → 128 ≤ (l.getD i 0).toNat) :
    Calls Try.prog 36 #[.pointer (some ⟨R, 0, none⟩)] w fun x w' =>
      x = .returned (.tuple #[.agg #[.int .u64 (gv l (n + 1)), .int .i64 ((n : Int) + 1), .int .u8 (gl l (n + 1))], .bool true]) ∧ Rd w' R (l.drop (n + 1)) e ∧ w.grownBy w' (some R) := by
  obtain ⟨h1, ⟨v, h2, ⟨a, cap, rfl, h7, h8, h9⟩⟩, h4, h5, h6⟩ := h
  have hcap : cap ≤ 9223372036854775807 := by unfold maxLen at h8; omega
  obtain ⟨g, o, rfl, h10, h11, h12⟩ : ∃ g o, a = some ⟨g, o, none⟩ ∧ g < R ∧ g < w.heap.size ∧ ∀ j (hj : j < l.length), w.cell? ⟨g, o + j, none⟩ = some (.int .u8 (l[j].toNat : Int)) := by
    rcases h9 with rfl | h9
    · simp at hnl
    · exact h9
  clear h9
  have H12 : Hid (∀ j (hj : j < l.length), w.cell? ⟨g, o + j, none⟩ = some (.int .u8 (l[j].toNat : Int))) := h12
  have HH : Hid (∀ i, i < n → 128 ≤ (l.getD i 0).toNat) := hhigh
  clear h12 hhigh
  obtain ⟨m, hm10, hmn, hml, hmm⟩ : ∃ m : Nat, m ≤ 10 ∧ n < m ∧ m ≤ l.length ∧ ((10 < (l.length : Int) ∧ m = 10) ∨ ((l.length : Int) ≤ 10 ∧ m = l.length)) := by
    by_cases hx : 10 < l.length
    · exact ⟨10, by omega, hn10, by omega, .inl ⟨by omega, rfl⟩⟩
    · exact ⟨l.length, by omega, hnl, by omega, .inr ⟨by omega, rfl⟩⟩
  rcases hmm with ⟨hl1, rfl⟩ | ⟨hl1, rfl⟩
  all_goals
    have hl2 : (l.length : Int) ≤ (cap : Int) := by omega
    go_enter Try.func36, Try.ntmps36
    go_wp2
    go_region
    all_goals go_wp2
    go_loopw [20] (fun vi wr => ∃ (k : Nat), k ≤ n ∧ vi = .int .i64 k ∧ TR w.heap.size w wr R l k)
      (fun vi _ => 11 - (intOf vi).toNat)
    case atStart => exact ⟨0, by omega, rfl, TR.start w R l _ _⟩
    case round =>
      obtain ⟨k, hk, rfl, T⟩ := hrel
      have T' := T
      obtain ⟨c0, c1, c2, s0, s1, s2, r0, r1, r2, t0, t1, t2, gb⟩ := T
      obtain ⟨c, hcc⟩ : ∃ c, l.getD k 0 = c := ⟨_, rfl⟩
      have hc : wr.cell? ⟨g, o + k, none⟩ = some (.int .u8 (c.toNat : Int)) := by
        have e1 := H12.out k (by omega)
        have e2 : l[k]'(by omega) = c := by rw [← hcc]; simp [List.getD, List.getElem?_eq_getElem (show k < l.length by omega)]
        rw [e2] at e1
        exact gb.cell e1 (by simp)
      have ha := and127 c
      have hb := and128 c
      have hk1 : (k : Int) < 10 := by omega
      have hkl : (k : Int) < (l.length : Int) := by omega
      have HT : Hid (TR w.heap.size w wr R l k) := T'
      have HC : Hid (l.getD k 0 = c) := hcc
      obtain ⟨x, hx⟩ : ∃ x, gv l k = x := ⟨_, rfl⟩
      have HX : Hid (gv l k = x) := hx
      rw [hx] at c0
      clear T' hcc hx
      by_cases hkn : k < n
      · have hd : decide (c.toNat < 128) = false := by have := HH.out k hkn; rw [HC.out] at this; simp; omega
        rw [hd] at hb
        clear hd
        go_wp2
        go_region
        all_goals go_wp2
        go_roundw
        case rel => exact ⟨k + 1, by omega, by go_num, HT.out.step c HC.out x HX.out.symm⟩
        case measure => simp [intOf]; omega
      · have hke : k = n := by omega
        subst hke
        have hd : decide (c.toNat < 128) = true := by rw [HC.out] at hlow; simpa using hlow
        rw [hd] at hb
        have q0 : wr.cell? ⟨R, 0, none⟩ = some (.slice (some ⟨g, o, none⟩) l.length cap) := gb.cell h2 (by simp)
        have q1 : wr.frozen? ⟨R, 0, none⟩ = false := by rw [World.frozen?_of_block (a := ⟨R, 0, none⟩) (gb.block R h1 (by simp))]; exact h5
        have hR1 : R ≠ w.heap.size + 1 := by omega
        have hR2 : R ≠ w.heap.size := by omega
        clear hd
        go_wp2
        go_region
        all_goals go_wp2
        go_region
        all_goals go_wp2
        all_goals
          refine bodyPost_ret (v := .tuple #[.agg #[.int .u64 (bits .or .u64 x (IntKind.u64.wrap ((c.toNat : Int) % 128 * 2 ^ (7 * k)))), .int .i64 ((k : Int) + 1), .int .u8 ((c.toNat : Int) % 128)], .bool true]) (by simp [results, Try.results36, go_sem, r0, r1, r2]) rfl ⟨?_, ?_⟩
          · simp only [gv, gl, HC.out, HX.out]
          · first
              | (have hcp : cap = k + 1 := by assumption
                 exact take_done h1 gb h2 h4 h5 h6 (Row.gone (by omega)) rfl)
              | exact take_done h1 gb h2 h4 h5 h6 (Row.cut (by omega) h7 h8 h10 h11 H12.out) rfl
end Go.Proofs.Ytiicmakeoidiaaa
