
/-
  Layer 18 (conf): a line behind a configuration: what ends the statement early.
-/
import Derived.Test.YtmcefflgbliehaaDoorCfZ
import Derived.Test.YtmcefflgbliehaaDoorCfNm
import Derived.Test.YtmcefflgbliehaaDoorCfN
set_option linter.unusedVariables false
namespace Go.Proofs.YtmcefflgbliehaaDoor
namespace LConfLast
open Go.RowKit Go.PlainAid
theorem go_ok : ∀ (xs : List (List UInt8)) (F : Cf) (k : Int), (goC F xs k).2.2 = 0 → (goC F xs k).2.1 = 0
  | [], F, k, _ => rfl
  | x :: xs, F, k, h => by
    rw [goC] at h ⊢
    by_cases he : (takeC F x k).2 = 0
    · rw [if_pos he] at h ⊢; exact go_ok xs _ _ h
    · rw [if_neg he] at h; exact absurd h he
theorem parse_ok (l : List UInt8) (h : (parseC l).2.2 = 0) : parseC l = ((parseC l).1, 0, 0) := by
  have h2 : (parseC l).2.1 = 0 := by
    unfold parseC at h ⊢
    by_cases hb : 16384 < l.length
    · rw [if_pos hb] at h ⊢
    · rw [if_neg hb] at h ⊢; exact go_ok _ _ _ h
  ext1
  · rfl
  · ext1
    · exact h2
    · exact h
theorem vB_int (c : UInt8) : (vB c = false) = ((c.toNat : Int) ≤ 32 ∨ (126 : Int) < c.toNat ∨ (c.toNat : Int) = 35) := by
  unfold vB
  simp only [Bool.and_eq_false_iff, decide_eq_false_iff_not, eq_iff_iff]
  omega
/-- No value is longer. -/
def VlF (F : Cf) (M : Nat) : Prop := ∀ s ∈ F.secs, ∀ p ∈ s.props, p.value.length ≤ M
theorem betw_one (n : List UInt8) : (betwC n).length = 1 := by unfold betwC; split <;> rfl
theorem tell_vl {l : List Pr} {t : Td} {n : Int} {M L : Nat} (h : ∀ p ∈ l, p.value.length ≤ M) (ht : t.value.length ≤ L) : ∀ p ∈ tellC l t n, p.value.length ≤ M + L + 1 := by
  rcases tell_set (l := l) (t := t) (n := n) with ⟨_, h2⟩ | ⟨k, hk, _, _, _, h2⟩
  · rw [h2]
    intro p hp
    rcases List.mem_append.1 hp with hp | hp
    · have := h p hp; omega
    · rw [List.mem_singleton] at hp; subst hp; simp only []; omega
  · rw [h2]
    intro p hp
    rcases List.mem_or_eq_of_mem_set hp with hp | hp
    · have := h p hp; omega
    · subst hp
      simp only []
      unfold newV
      have hb := betw_one t.name
      have := h l[k] (List.getElem_mem hk)
      split
      · rw [List.length_append, List.length_append]; omega
      · omega
theorem take_vl {F : Cf} {M L : Nat} (h : VlF F M) (l : List UInt8) (hl : l.length ≤ L) (n : Int) : VlF (takeC F l n).1 (M + L + 1) := by
  have hm : VlF F (M + L + 1) := fun s hs p hp => by have := h s hs p hp; omega
  unfold takeC
  split
  · exact hm
  · split
    · exact hm
    · split
      · split
        · intro s hs
          rcases List.mem_append.1 hs with hs | hs
          · exact hm s hs
          · rw [List.mem_singleton] at hs; subst hs; intro p hp; cases hp
        · exact hm
      · split
        · exact hm
        · split
          · split
            · exact hm
            · exact hm
          · have hv : (readT (saidC l)).value.length ≤ L := by
              have a1 := said_len l
              have a2 := (cut_len (saidC l) [61]).2
              have a3 := trim_len (Lib.cut (saidC l) [61]).2.1
              unfold readT
              simp only []
              omega
            unfold tellS
            cases hg : F.secs.getLast? with
            | none => exact hm
            | some x =>
              intro s hs
              simp only [] at hs
              rcases List.mem_append.1 hs with hs | hs
              · exact hm s (List.dropLast_subset _ hs)
              · rw [List.mem_singleton] at hs
                subst hs
                exact tell_vl (h x (List.mem_of_getLast? hg)) hv
theorem go_vl (L : Nat) : ∀ (xs : List (List UInt8)) (F : Cf) (k : Int) (M : Nat), VlF F M → (∀ x ∈ xs, x.length ≤ L) → VlF (goC F xs k).1 (M + xs.length * (L + 1))
  | [], F, k, M, h, _ => by rw [goC]; intro s hs p hp; have := h s hs p hp; simpa using this
  | x :: xs, F, k, M, h, hx => by
    rw [goC]
    split
    · have := go_vl L xs _ (k + 1) _ (take_vl h x (hx x List.mem_cons_self) k) (fun y hy => hx y (List.mem_cons_of_mem _ hy))
      intro s hs p hp
      have h2 := this s hs p hp
      rw [List.length_cons, Nat.succ_mul]
      omega
    · intro s hs; cases hs
theorem parse_vl (l : List UInt8) (hl : l.length ≤ 8000) : VlF (parseC l).1 1000000000 := by
  unfold parseC
  rw [if_neg (by omega)]
  have h1 := go_vl l.length (sp 10 l) noCf 1 0 (fun s hs => by cases hs) (fun x hx => sp_le 10 l x hx)
  have h2 := sp_len 10 l
  intro s hs p hp
  have h3 := h1 s hs p hp
  have h4 : (sp 10 l).length * (l.length + 1) ≤ 8001 * 8001 := Nat.mul_le_mul (by omega) (by omega)
  omega
/-- What is tried, boxed in block b. -/
abbrev xC (a nm va : List UInt8) (m : Bool) : Array Value := #[.string (tx a), .string (tx nm), .string (tx va), .bool m]
set_option maxHeartbeats 4000000 in
set_option maxRecDepth 20000 in
theorem early (w : World) (a nm va : List UInt8) (m : Bool) (ha : a.length ≤ 9223372036854775807) (hn : nm.length ≤ 9223372036854775807) (hv : va.length ≤ 9223372036854775807)
    (hc : 8000 < a.length ∨ 100 < nm.length ∨ 1000 < va.length ∨ nameC nm = false ∨ Lib.hasSuffix nm linksN = true ∨ nm = spacesN) :
    Calls Tryd.prog 6 #[.agg (xC a nm va m)] w fun e w' => e = .returned (.bool true) ∧ Below w.heap.size w w' := by
  have HB0 := hide (below_box w (.cells (xC a nm va m) 57))
  have HX0 := hide (block_new w (.cells (xC a nm va m) 57))
  have hN := fun w (h : nm.length ≤ 1000000000) => ref18_Name (tx nm) w (by rw [tx_size]; exact h)
  have hE := fun w (h : nm.length ≤ 1000000000) => ref18_Ends (tx nm) (tx linksN) w (by rw [tx_size]; exact h) (by decide)
  simp only [data_tx] at hN hE
  unfold xC tx at *
  unfold linksN at *
  unfold spacesN at *
  by_cases h1 : 8000 < a.length
  · have i1 : (8000 : Int) < (a.length : Int) := by omega
    clear hc hN hE
    go_enter Tryd.func6, Tryd.ntmps6
    go_wp2_with fail
    go_quiet (fail)
    go_wp2
    go_ret
    exact ⟨rfl, bel_drewN HB0.out _⟩
  · have i1 : ¬ (8000 : Int) < (a.length : Int) := by omega
    by_cases h2 : 100 < nm.length
    · have i2 : (100 : Int) < (nm.length : Int) := by omega
      clear hc hN hE
      go_enter Tryd.func6, Tryd.ntmps6
      go_wp2_with fail
      go_quiet (fail)
      go_wp2
      go_ret
      exact ⟨rfl, bel_drewN HB0.out _⟩
    · have i2 : ¬ (100 : Int) < (nm.length : Int) := by omega
      by_cases h3 : 1000 < va.length
      · have i3 : (1000 : Int) < (va.length : Int) := by omega
        clear hc hN hE
        go_enter Tryd.func6, Tryd.ntmps6
        go_wp2_with fail
        go_quiet (fail)
        go_wp2
        go_ret
        exact ⟨rfl, bel_drewN HB0.out _⟩
      · have i3 : ¬ (1000 : Int) < (va.length : Int) := by omega
        have hN := fun w => hN w (by omega)
        have hE := fun w => hE w (by omega)
        cases h4 : nameC nm with
        | false =>
          rw [h4] at hN
          clear hc hE h4
          go_enter Tryd.func6, Tryd.ntmps6
          go_wp2_with fail
          go_quiet (fail)
          go_wp2_with (go_at_call 19; refine (hN _).mono ?_; rintro e w1 ⟨rfl, rfl⟩)
          go_ret
          exact ⟨rfl, bel_drewN HB0.out _⟩
        | true =>
          rw [h4] at hN
          cases h5 : Lib.hasSuffix nm [46, 108, 105, 110, 107, 115] with
          | true =>
            rw [h5] at hE
            clear hc h4 h5
            go_enter Tryd.func6, Tryd.ntmps6
            go_wp2_with fail
            go_quiet (fail)
            go_wp2_with (first
              | (go_at_call 19; refine (hN _).mono ?_; rintro e w1 ⟨rfl, rfl⟩)
              | (go_at_call 20; refine (hE _).mono ?_; rintro e w1 ⟨rfl, rfl⟩))
            go_ret
            exact ⟨rfl, bel_drewN HB0.out _⟩
          | false =>
            rw [h5] at hE
            have h6 : nm = [97, 100, 100, 105, 116, 105, 111, 110, 97, 108, 46, 110, 97, 109, 101, 115, 112, 97, 99, 101, 115] := by
              rcases hc with h | h | h | h | h | h
              · exact absurd h h1
              · exact absurd h h2
              · exact absurd h h3
              · rw [h4] at h; cases h
              · rw [h5] at h; cases h
              · exact h
            subst h6
            clear hc h4 h5
            go_enter Tryd.func6, Tryd.ntmps6
            go_wp2_with fail
            go_quiet (fail)
            go_wp2_with (first
              | (go_at_call 19; refine (hN _).mono ?_; rintro e w1 ⟨rfl, rfl⟩)
              | (go_at_call 20; refine (hE _).mono ?_; rintro e w1 ⟨rfl, rfl⟩))
            go_ret
            exact ⟨rfl, bel_drewN HB0.out _⟩
end LConfLast
end Go.Proofs.YtmcefflgbliehaaDoor
