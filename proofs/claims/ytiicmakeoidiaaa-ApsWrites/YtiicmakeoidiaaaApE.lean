
/-
  Layer 14 (aps): bytes.Equal, HasPrefix and CutPrefix of Go's library, for a prefix of four bytes.
-/
import Derived.Test.YtiicmakeoidiaaaApM
set_option linter.unusedVariables false
namespace Go.Proofs.Ytiicmakeoidiaaa
open Go.RowKit Go.PlainAid
theorem ba_eq (l m : List UInt8) : (l == m) = decide (l = m) := by
  by_cases h : l = m
  · subst h; simp
  · rw [decide_eq_false h]
    rw [beq_eq_false_iff_ne]
    exact h
set_option maxHeartbeats 1000000 in
theorem bytes_Equal (w : World) (v1 v2 : Value) (l m : List UInt8) (h1 : Arg w v1 l) (h2 : Arg w v2 m) :
    Calls Try.prog 40 #[v1, v2] w fun e w' => e = .returned (.bool (decide (l = m))) ∧ w = w' := by
  have t1 := h1.text
  have t2 := h2.text
  have hE := ba_eq l m
  obtain ⟨a1, c1, rfl, _⟩ := h1
  obtain ⟨a2, c2, rfl, _⟩ := h2
  generalize decide (l = m) = b at *
  go_enter Try.func40, Try.ntmps40
  go_wp2
  go_ret
  exact ⟨rfl, rfl⟩
theorem Arg.take {w : World} {g o n cap : Nat} {l : List UInt8} (h : Arg w (.slice (some ⟨g, o, none⟩) n cap) l) (k : Nat) (hk : k ≤ l.length) : Arg w (.slice (some ⟨g, o, none⟩) k cap) (l.take k) := by
  obtain ⟨a, cap', e, h1, h2, h3, h4⟩ := h
  injection e with e1 e2 e3
  subst e1 e2 e3
  have hl : (l.take k).length = k := by rw [List.length_take]; omega
  refine ⟨_, cap, by rw [hl], by omega, h2, by omega, .inr ⟨_, rfl, fun j hj => ?_⟩⟩
  rcases h4 with ⟨h, _⟩ | ⟨x, h, hc⟩
  · cases h
  · injection h with h
    subst h
    rw [hc j (by omega), List.getElem_take]
set_option maxHeartbeats 1000000 in
theorem bytes_HasPrefix (w : World) (v vp : Value) (l p : List UInt8) (h : Arg w v l) (hp : Arg w vp p) (h4 : p.length = 4) :
    Calls Try.prog 34 #[v, vp] w fun e w' => e = .returned (.bool (decide (l.take 4 = p))) ∧ w = w' := by
  by_cases hl : l.length < 4
  · have hd : decide (l.take 4 = p) = false := by
      rw [decide_eq_false_iff_not]; intro e
      have := congrArg List.length e
      rw [List.length_take] at this; omega
    rw [hd]
    obtain ⟨a1, c1, rfl, _⟩ := h
    obtain ⟨a2, c2, rfl, _⟩ := hp
    rw [h4]
    have hlt : decide ((4 : Int) ≤ (l.length : Int)) = false := decide_eq_false (by omega)
    have hlt' : decide (4 ≤ l.length) = false := decide_eq_false (by omega)
    clear hl hd
    go_enter Try.func34, Try.ntmps34
    go_wp2
    go_ret
    exact ⟨rfl, rfl⟩
  · obtain ⟨g, o, cap, rfl, hc1, hc2, _⟩ := h.cells (by omega)
    have hT := h.take 4 (by omega)
    have hE := bytes_Equal w _ vp _ p hT hp
    obtain ⟨a2, c2, rfl, _⟩ := hp
    rw [h4] at hE ⊢
    have hcap : cap ≤ 9223372036854775807 := by unfold maxLen at hc2; omega
    obtain ⟨n, hn⟩ : ∃ n, l.length = n := ⟨_, rfl⟩
    rw [hn] at hl hc1 ⊢
    have hle : (4 : Int) ≤ (n : Int) := by omega
    have hle2 : (4 : Int) ≤ (cap : Int) := by omega
    generalize decide (l.take 4 = p) = b at *
    clear h hT hn hl
    go_enter Try.func34, Try.ntmps34
    go_wp2_with fail
    refine hE.mono ?_
    rintro e w1 ⟨rfl, rfl⟩
    go_wp2
    go_ret
    exact ⟨rfl, rfl⟩
theorem Arg.drop {w : World} {g o n cap : Nat} {l : List UInt8} (h : Arg w (.slice (some ⟨g, o, none⟩) n cap) l) (k : Nat) (hk : k ≤ l.length) : Arg w (.slice (some ⟨g, o + k, none⟩) (n - k) (cap - k)) (l.drop k) := by
  obtain ⟨a, cap', e, h1, h2, h3, h4⟩ := h
  injection e with e1 e2 e3
  subst e1 e2 e3
  refine ⟨_, cap - k, by rw [List.length_drop], by rw [List.length_drop]; omega, by omega, by rw [List.length_drop]; omega, .inr ⟨_, rfl, fun j hj => ?_⟩⟩
  rcases h4 with ⟨h, _⟩ | ⟨x, h, hc⟩
  · cases h
  · injection h with h
    subst h
    have := hc (k + j) (by rw [List.length_drop] at hj; omega)
    rw [add_at] at this ⊢
    rw [List.getElem_drop, ← this, Nat.add_assoc]
theorem Arg.gone {w : World} {g o : Nat} {l : List UInt8} (hl : l = []) : Arg w (.slice (some ⟨g, o, none⟩) 0 0) l := by
  subst hl
  exact ⟨_, 0, rfl, by simp, by simp, by simp, .inr ⟨_, rfl, fun j hj => absurd hj (by simp)⟩⟩
/-- What CutPrefix answers. -/
def CutIs (l p : List UInt8) (e : Ending) (w' : World) : Prop := ∃ v', e = .returned (.tuple #[v', .bool (decide (l.take 4 = p))]) ∧ (l.take 4 = p → Arg w' v' (l.drop 4)) ∧ ∃ a n c, v' = .slice a n c
set_option maxHeartbeats 1000000 in
theorem bytes_CutPrefix (w : World) (v vp : Value) (l p : List UInt8) (h : Arg w v l) (hp : Arg w vp p) (h4 : p.length = 4) :
    Calls Try.prog 28 #[v, vp] w fun e w' => CutIs l p e w' ∧ w = w' := by
  have hH := bytes_HasPrefix w v vp l p h hp h4
  by_cases hd : l.take 4 = p
  · have hl : 4 ≤ l.length := by have := congrArg List.length hd; rw [List.length_take] at this; omega
    rw [decide_eq_true hd] at hH
    obtain ⟨g, o, cap, rfl, hc1, hc2, _⟩ := h.cells (by omega)
    have hD := h.drop 4 hl
    obtain ⟨a2, c2, rfl, _⟩ := hp
    rw [h4] at hH ⊢
    have hcap : cap ≤ 9223372036854775807 := by unfold maxLen at hc2; omega
    obtain ⟨n, hn⟩ : ∃ n, l.length = n := ⟨_, rfl⟩
    have HZ : Hid (cap = 4 → l.drop 4 = []) := fun e => by rw [List.drop_eq_nil_iff]; omega
    have HR : Hid (∀ v' w', Arg w' v' (l.drop 4) → (∃ a n c, v' = .slice a n c) → CutIs l p (.returned (.tuple #[v', .bool true])) w') := fun v' w' h1 h2 => ⟨v', by rw [decide_eq_true hd], fun _ => h1, h2⟩
    have HD := hide hD
    rw [hn] at hH hc1 hl HD ⊢
    have hle : (4 : Int) ≤ (n : Int) := by omega
    have hle2 : (4 : Int) ≤ (cap : Int) := by omega
    clear h hD hn hd
    by_cases hc4 : cap = 4
    · subst hc4
      have HZ2 := hide (HZ.out rfl)
      obtain rfl : n = 4 := by omega
      go_enter Try.func28, Try.ntmps28
      go_wp2_with fail
      refine hH.mono ?_
      rintro e w1 ⟨rfl, rfl⟩
      go_wp2
      go_ret2
      exact ⟨HR.out _ _ (by rw [HZ2.out]; exact Arg.gone rfl) ⟨_, _, _, rfl⟩, rfl⟩
    · go_enter Try.func28, Try.ntmps28
      go_wp2_with fail
      refine hH.mono ?_
      rintro e w1 ⟨rfl, rfl⟩
      go_wp2
      go_ret2
      exact ⟨HR.out _ _ HD.out ⟨_, _, _, rfl⟩, rfl⟩
  · rw [decide_eq_false hd] at hH
    have HR : Hid (∀ v' w', (∃ a n c, v' = .slice a n c) → CutIs l p (.returned (.tuple #[v', .bool false])) w') := fun v' w' h2 => ⟨v', by rw [decide_eq_false hd], fun e => absurd e hd, h2⟩
    obtain ⟨a1, c1, rfl, _⟩ := h
    obtain ⟨a2, c2, rfl, _⟩ := hp
    clear hd h4
    go_enter Try.func28, Try.ntmps28
    go_wp2_with fail
    refine hH.mono ?_
    rintro e w1 ⟨rfl, rfl⟩
    go_wp2
    go_ret2
    exact ⟨HR.out _ _ ⟨_, _, _, rfl⟩, rfl⟩
end Go.Proofs.Ytiicmakeoidiaaa
