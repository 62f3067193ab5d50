
/-
  Layer 14 (aps), the reference: Decode keeps its contract (the same answer as the program's).
-/
import Derived.Test.YthbikbeedopbcaaApR
import Derived.Deep.CutRange
set_option linter.unusedVariables false
namespace Go.Proofs.Ythbikbeedopbcaa
open Go.RowKit Go.PlainAid
/-- What the reference's Decode holds: numbers left in the variable X, the relocations in a row of its own. -/
structure RD (w wr : World) (X : Nat) (vN vo : Value) (s : Ts) (rela : Bool) : Prop where
  c : wr.heap[X]? = some (.cells #[vN, .bool s.bad] 52 (0, 0))
  arg : ArgI wr X vN s.N
  own : OwnR wr (X + 1) vo s.out
  bel : Below w.heap.size w wr
  lo : w.heap.size ≤ X
  good : s.good rela
theorem RD.size {w wr : World} {X : Nat} {vN vo : Value} {s : Ts} {rela : Bool} (h : RD w wr X vN vo s rela) : X < wr.heap.size := bk_lt h.c
theorem RD.below {w wr w' : World} {X : Nat} {vN vo : Value} {s : Ts} {rela : Bool} (h : RD w wr X vN vo s rela) (hb : Below wr.heap.size wr w') : RD w w' X vN vo s rela :=
  ⟨block_stay h.c hb, h.arg.move (fun k hk => hb.block k (by have := h.size; omega)), h.own.stay hb, h.bel.trans (hb.mono h.bel.size), h.lo, h.good⟩
/-- Another s with the same numbers, the same row. -/
theorem RD.with {w wr : World} {X : Nat} {vN vo : Value} {s s' : Ts} {rela : Bool} (h : RD w wr X vN vo s rela) (h1 : s'.N = s.N) (h2 : s'.bad = s.bad) (h3 : s'.out = s.out) (hg : s'.good rela) : RD w wr X vN vo s' rela :=
  ⟨by rw [h2]; exact h.c, by rw [h1]; exact h.arg, by rw [h3]; exact h.own, h.bel, h.lo, hg⟩
/-- Behind a take and the store of what it leaves. -/
theorem RD.took {w wr w2 : World} {X : Nat} {vN vN' vo : Value} {s : Ts} {rela : Bool} (h : RD w wr X vN vo s rela) (hb : Below wr.heap.size wr w2) (ht : ∀ W, ArgI W X vN s.N → ArgI W X vN' s.N.tail) :
    RD w ((w2.setCell ⟨X, 0, none⟩ vN').setCell ⟨X, 1, none⟩ (.bool (s.bad || s.N.isEmpty))) X vN' vo s.tl rela := by
  have h2 := h.below hb
  have ho : ∀ k, k ≠ X → ((w2.setCell ⟨X, 0, none⟩ vN').setCell ⟨X, 1, none⟩ (.bool (s.bad || s.N.isEmpty))).heap[k]? = w2.heap[k]? := fun k hk => by rw [set_bother _ _ _ _ _ hk, set_bother _ _ _ _ _ hk]
  refine ⟨?_, (ht _ h2.arg).move (fun k hk => ho k (by omega)), h2.own.move (fun k hk => ho k (by have := (h2.own.base k hk).1; omega)), (h2.bel.setCell h.lo _).setCell h.lo _, h.lo, h.good.tl⟩
  have k1 := set_bk w2 X 0 vN' _ _ _ h2.c
  have k2 := set_bk _ X 1 (.bool (s.bad || s.N.isEmpty)) _ _ _ k1
  exact k2
structure RDC (wr : World) (X : Nat) (vN : Value) (bad : Bool) : Prop where
  c0 : wr.cell? ⟨X, 0, none⟩ = some vN
  c1 : wr.cell? ⟨X, 1, none⟩ = some (.bool bad)
  f0 : wr.frozen? ⟨X, 0, none⟩ = false
  f1 : wr.frozen? ⟨X, 1, none⟩ = false
theorem RD.cells {w wr : World} {X : Nat} {vN vo : Value} {s : Ts} {rela : Bool} (h : RD w wr X vN vo s rela) : RDC wr X vN s.bad := ⟨cells_of_block h.c 0 _ rfl, cells_of_block h.c 1 _ rfl, frozen_bk h.c 0, frozen_bk h.c 1⟩
theorem RD.sl {w wr : World} {X : Nat} {vN vo : Value} {s : Ts} {rela : Bool} (h : RD w wr X vN vo s rela) : ∃ a n c, vN = .slice a n c := by
  obtain ⟨a, cap, rfl, _⟩ := h.arg; exact ⟨_, _, _, rfl⟩
/-- take, where what it leaves is told as a slice. -/
theorem rd_take (w wr : World) (X : Nat) (vN vo : Value) (s : Ts) (rela : Bool) (h : RD w wr X vN vo s rela) :
    Calls Try.prog 19 #[.agg #[vN, .bool s.bad]] wr fun e w' => (∃ a n c, e = .returned (.tuple #[.agg #[.slice a n c, .bool (s.bad || s.N.isEmpty)], .int .i64 s.hd]) ∧ RD w ((w'.setCell ⟨X, 0, none⟩ (.slice a n c)).setCell ⟨X, 1, none⟩ (.bool (s.bad || s.N.isEmpty))) X (.slice a n c) vo s.tl rela) ∧ RD w w' X vN vo s rela := by
  refine (ref14_take wr X vN s.N s.bad h.arg (by have := h.size; omega)).mono ?_
  rintro e w' ⟨⟨v', rfl, ht⟩, hb⟩
  have h2 := h.took hb ht
  obtain ⟨a, n, c, rfl⟩ := h2.sl
  exact ⟨⟨a, n, c, rfl, h2⟩, h.below hb⟩
/-- How the loop over the groups goes on. -/
structure RL (w wr : World) (X : Nat) (vN vo : Value) (s : Ts) (rela fine : Bool) (m : Int) (k : Nat) (O : Option (List Rl)) : Prop where
  rd : RD w wr X vN vo s rela
  ok : s.bad = false
  fuel : m - (s.out.length : Int) < (k : Int)
  le : (s.out.length : Int) ≤ m
  ans : O = finT fine (runT rela m k s)
set_option maxHeartbeats 2000000 in
set_option maxRecDepth 20000 in
theorem ref14_head (w : World) (v : Value) (l : List UInt8) (h : Arg w v l) (rela : Bool) (hP : ¬ l.take 4 = [65, 80, 83, 50]) :
    Calls Try.prog 7 #[v, .bool rela] w fun e w' => ApsIs w none e w' ∧ Below w.heap.size w w' := by
  have HF : Hid (ApsIs w none (.returned (.tuple #[.slice none 0 0, .int .i64 140])) w) := rfl
  have HB : Hid (Below w.heap.size w w) := Below.refl _ _
  by_cases hl : l.length < 4
  · obtain ⟨a, cap, rfl, _⟩ := h
    obtain ⟨n, hn⟩ : ∃ n, l.length = n := ⟨_, rfl⟩
    rw [hn] at hl ⊢
    have hlI : (n : Int) < 4 := by omega
    clear hP hn
    go_enter Try.func7, Try.ntmps7
    go_wp2
    go_ret2
    exact ⟨HF.out, HB.out⟩
  · match l, hl with
    | b0 :: b1 :: b2 :: b3 :: t, _ =>
      obtain ⟨g, o, cap, rfl, hc1, hc2, hc⟩ := h.cells (by simp)
      have y0 := hc 0 (by simp)
      have y1 := hc 1 (by simp)
      have y2 := hc 2 (by simp)
      have y3 := hc 3 (by simp)
      simp only [List.getD_cons_zero, List.getD_cons_succ, Nat.add_zero] at y0 y1 y2 y3
      obtain ⟨n, hn⟩ : ∃ n, (b0 :: b1 :: b2 :: b3 :: t).length = n := ⟨_, rfl⟩
      have hn4 : 4 ≤ n := by rw [← hn]; simp
      rw [hn] at hc1 ⊢
      have dl : decide ((n : Int) < 4) = false := decide_eq_false (by omega)
      have i0 : (0 : Int) < (n : Int) := by omega
      have i1 : (1 : Int) < (n : Int) := by omega
      have i2 : (2 : Int) < (n : Int) := by omega
      have i3 : (3 : Int) < (n : Int) := by omega
      have hcap : cap ≤ 9223372036854775807 := by unfold maxLen at hc2; omega
      have hx : ∀ c : UInt8, ∀ k : Nat, k < 256 → c ≠ UInt8.ofNat k → ((c.toNat : Int) != (k : Int)) = true := fun c k hk hne => by
        simp only [bne_iff_ne, ne_eq]
        intro e
        apply hne
        apply UInt8.toNat_inj.1
        rw [UInt8.toNat_ofNat']
        omega
      have hcase : ((b0.toNat : Int) != 65) = true ∨ (((b0.toNat : Int) != 65) = false ∧ ((b1.toNat : Int) != 80) = true) ∨ (((b0.toNat : Int) != 65) = false ∧ ((b1.toNat : Int) != 80) = false ∧ ((b2.toNat : Int) != 83) = true) ∨ (((b0.toNat : Int) != 65) = false ∧ ((b1.toNat : Int) != 80) = false ∧ ((b2.toNat : Int) != 83) = false ∧ ((b3.toNat : Int) != 50) = true) := by
        by_cases e0 : b0 = 65
        · by_cases e1 : b1 = 80
          · by_cases e2 : b2 = 83
            · by_cases e3 : b3 = 50
              · subst e0 e1 e2 e3; exact absurd rfl hP
              · subst e0 e1 e2; exact .inr (.inr (.inr ⟨rfl, rfl, rfl, hx b3 50 (by omega) e3⟩))
            · subst e0 e1; exact .inr (.inr (.inl ⟨rfl, rfl, hx b2 83 (by omega) e2⟩))
          · subst e0; exact .inr (.inl ⟨rfl, hx b1 80 (by omega) e1⟩)
        · exact .inl (hx b0 65 (by omega) e0)
      clear hP hn hc hx hc1 hc2
      rcases hcase with d0 | ⟨d0, d1⟩ | ⟨d0, d1, d2⟩ | ⟨d0, d1, d2, d3⟩
      all_goals
        go_enter Try.func7, Try.ntmps7
        go_wp2
        go_ret2
        exact ⟨HF.out, HB.out⟩
    | [], hl => simp at hl
    | [_], hl => simp at hl
    | [_, _], hl => simp at hl
    | [_, _, _], hl => simp at hl
end Go.Proofs.Ythbikbeedopbcaa
