
/-
  Great and New keep their contracts.
-/
import Derived.Test.YthkpcafbfgfjpaaDoorFsD
set_option linter.unusedVariables false
namespace Go.Proofs.YthkpcafbfgfjpaaDoor
open Go.RowKit Go.PlainAid
theorem list_of {α : Type} (P : Nat → α → Prop) : ∀ n : Nat, (∀ i, i < n → ∃ x, P i x) → ∃ L : List α, L.length = n ∧ ∀ i (h : i < L.length), P i L[i]
  | 0, _ => ⟨[], rfl, fun i h => by simp at h⟩
  | n + 1, hx => by
    obtain ⟨L, h1, h2⟩ := list_of P n (fun i hi => hx i (by omega))
    obtain ⟨x, hxn⟩ := hx n (by omega)
    refine ⟨L ++ [x], by simp [h1], fun i h => ?_⟩
    by_cases e : i < L.length
    · rw [List.getElem_append_left e]; exact h2 i e
    · have e2 : i = L.length := by rw [List.length_append] at h; simp at h; omega
      subst e2
      rw [List.getElem_append_right (Nat.le_refl _)]
      simp
      rw [h1]; exact hxn
/-- The nodes that came in, as a list. -/
structure NdsAt (w : World) (a : Option Addr) (L : List Nd) : Prop where
  at_ : L = [] ∨ ∃ y o, a = some ⟨y, o, none⟩ ∧ ∀ i (h : i < L.length), IsNd w y (o + i * 4) L[i]
theorem IsNds.list {w : World} {a : Option Addr} {len cap : Nat} (h : IsNds w a len cap) : ∃ L : List Nd, L.length = len ∧ NdsAt w a L := by
  obtain ⟨_, _, h3⟩ := h
  rcases h3 with h0 | ⟨y, o, e, hx⟩
  · exact ⟨[], h0.symm, ⟨.inl rfl⟩⟩
  · obtain ⟨L, h1, h2⟩ := list_of (fun i n => IsNd w y (o + i * 4) n) len hx
    exact ⟨L, h1, ⟨.inr ⟨y, o, e, h2⟩⟩⟩
def SmallN (n : Nd) : Prop := n.path.size ≤ 4096 ∧ n.to.size ≤ 4096
def GreatIs (L : List Nd) (b : Bool) : Prop := b = true ∨ (b = false ∧ L.length ≤ 400 ∧ ∀ n ∈ L, SmallN n)
def GreatE (L : List Nd) (e : Ending) : Prop := ∃ b, e = .returned (.bool b) ∧ GreatIs L b
set_option maxHeartbeats 2000000 in
set_option maxRecDepth 20000 in
theorem law_Great (w : World) (a : Option Addr) (cap : Nat) (L : List Nd) (hcap : L.length ≤ cap) (hcm : cap ≤ maxLen) (h : NdsAt w a L) :
    Calls Tryd.prog 4 #[.slice a L.length cap] w fun e w' => GreatE L e ∧ w = w' := by
  have hc2 : cap ≤ 9223372036854775807 := by unfold maxLen at hcm; omega
  have HL : Hid (∀ i (hi : i < L.length), ∃ y o, a = some ⟨y, o, none⟩ ∧ IsNd w y (o + i * 4) L[i]) := fun i hi => by
    rcases h.at_ with e | ⟨y, o, e, hx⟩
    · rw [e] at hi; simp at hi
    · exact ⟨y, o, e, hx i hi⟩
  clear h hcm
  go_enter Tryd.func4, Tryd.ntmps4
  go_wp2
  go_loop [3, 4] (fun va vi => ∃ (z : Int) (i : Nat), va = .int .i64 z ∧ vi = .int .i64 i ∧ i ≤ L.length ∧ i ≤ 400 ∧ Hid (∀ j (hj : j < L.length), j < i → SmallN L[j])) (fun _ vi => L.length - (intOf vi).toNat)
  case atStart => exact ⟨0, 0, rfl, rfl, by omega, by omega, fun j _ hj => by omega⟩
  case round =>
    obtain ⟨z, i, rfl, rfl, hi, hi4, HS⟩ := hrel
    by_cases hlt : i < L.length
    · have hltI : (i : Int) < (L.length : Int) := by omega
      by_cases h4 : i < 400
      · have h4I : (i : Int) < 400 := by omega
        obtain ⟨y, o, rfl, I⟩ := HL.out i hlt
        have c0 := I.c0
        have c2 := I.c2
        have c3 := I.c3
        obtain ⟨da, dc, hvd, hq1, hq2, hq3⟩ := I.src
        rw [hvd] at c2
        clear hq1 hq2 hq3 hvd I
        obtain ⟨z2, hz2⟩ : ∃ z2, IntKind.i64.wrap (z + (L[i].data.length : Int)) = z2 := ⟨_, rfl⟩
        by_cases hz : 1048576 < z2
        · skip
          generalize L[i].data.length = dn at *
          generalize L[i].path = pp at *
          generalize L[i].to = tt at *
          go_wp2
          go_ret
          exact ⟨⟨true, rfl, .inl rfl⟩, rfl⟩
        · by_cases hp : 4096 < L[i].path.size
          · have hpI : (4096 : Int) < (L[i].path.size : Int) := by omega
            clear hp
            generalize L[i].data.length = dn at *
            generalize L[i].path = pp at *
            generalize L[i].to = tt at *
            go_wp2
            go_ret
            exact ⟨⟨true, rfl, .inl rfl⟩, rfl⟩
          · by_cases ht : 4096 < L[i].to.size
            · have hpI : ¬ (4096 : Int) < (L[i].path.size : Int) := by omega
              have htI : (4096 : Int) < (L[i].to.size : Int) := by omega
              clear hp ht
              generalize L[i].data.length = dn at *
              generalize L[i].path = pp at *
              generalize L[i].to = tt at *
              go_wp2
              go_ret
              exact ⟨⟨true, rfl, .inl rfl⟩, rfl⟩
            · have hpI : ¬ (4096 : Int) < (L[i].path.size : Int) := by omega
              have htI : ¬ (4096 : Int) < (L[i].to.size : Int) := by omega
              have HN : Hid (∀ j (hj : j < L.length), j < i + 1 → SmallN L[j]) := fun j hj hj2 => by
                by_cases e : j = i
                · subst e; exact ⟨by omega, by omega⟩
                · exact HS.out j hj (by omega)
              clear hp ht
              generalize L[i].data.length = dn at *
              generalize L[i].path = pp at *
              generalize L[i].to = tt at *
              go_wp2
              go_round
              case rel => exact ⟨_, i + 1, rfl, by go_num, by omega, by omega, HN⟩
              case measure => simp [intOf]; omega
      · have h4I : ¬ (i : Int) < 400 := by omega
        have hg : (400 : Int) < (L.length : Int) := by omega
        go_wp2
        go_ret
        exact ⟨⟨true, rfl, .inl rfl⟩, rfl⟩
    · have hltI : ¬ (i : Int) < (L.length : Int) := by omega
      have hg : ¬ (400 : Int) < (L.length : Int) := by omega
      go_wp2
      go_ret
      refine ⟨⟨false, rfl, .inr ⟨rfl, by omega, fun n hn => ?_⟩⟩, rfl⟩
      obtain ⟨j, hj, e⟩ := List.getElem_of_mem hn
      rw [← e]
      exact HS.out j hj (by omega)
end Go.Proofs.YthkpcafbfgfjpaaDoor
