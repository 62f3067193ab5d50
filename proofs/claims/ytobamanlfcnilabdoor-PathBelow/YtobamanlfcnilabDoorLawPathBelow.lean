/-
  PathBelow returns true for every three texts, and the texts read afterwards as they read before: no condition (the listed tables of unicode/utf8 are tied to the program's text, and never read; internal/bytealg.MaxLen is whatever it is).
-/
import Derived.Test.YtobamanlfcnilabDoorRows
import Derived.Test.YtobamanlfcnilabDoorCards
import Derived.Test.YtobamanlfcnilabDoorTie
import Derived.Test.YtobamanlfcnilabDoorDoorK
import Derived.Test.YtobamanlfcnilabDoorPathK
import Derived.WalkKit
import Derived.ProofKit
import Derived.OpenShut
import Derived.ShutString
import Derived.ChangeOld
import Derived.Below
import Derived.LaidMore
import Derived.Lay
import Derived.SevenTiedAt
import Derived.Stop.Joined
set_option linter.unusedVariables false
namespace Go.Proofs.YtobamanlfcnilabDoor
namespace LPathBelow
open Go.ChangeShapes Go.WideShapes Go.ChangeAt Go.RowKit
open Go.ChangeMaps (open_string shut_string)
theorem neat_is {l : List UInt8} (h : isCl l = true) : ∃ st, l = whole st ∧ Neat st := by
  unfold isCl at h
  simp only [Bool.and_eq_true, beq_iff_eq] at h
  exact ⟨stk (names l), h.2.symm, neat_of h.1⟩
theorem pre_iff (p d : List UInt8) : Lib.hasPrefix p d = true ↔ d <+: p := by unfold Lib.hasPrefix; exact List.isPrefixOf_iff_prefix
theorem under_iff (p d : List UInt8) : underOf p d = true ↔ (d = [47] ∧ [47] <+: p) ∨ (d ≠ [47] ∧ (p = d ∨ (d ++ [47]) <+: p)) := by
  unfold underOf
  by_cases h : d = [47]
  · rw [if_pos h, pre_iff]; simp [h]
  · rw [if_neg h, Bool.or_eq_true, beq_iff_eq, pre_iff]; simp [h]
theorem head_is {l : List UInt8} (h : isCl l = true) : [47] <+: l ∧ l ≠ [] := by
  obtain ⟨st, rfl, _⟩ := neat_is h
  exact ⟨(pre_iff _ _).1 (whole_head st), whole_ne st⟩
theorem under_trans {a b c : List UInt8} (ha : isCl a = true) (hb : isCl b = true) (hc : isCl c = true) (h1 : underOf a b = true) (h2 : underOf b c = true) : underOf a c = true := by
  rw [under_iff] at *
  by_cases hc0 : c = [47]
  · exact .inl ⟨hc0, (head_is ha).1⟩
  · refine .inr ⟨hc0, ?_⟩
    rcases h2 with ⟨h, _⟩ | ⟨_, h2⟩
    · exact absurd h hc0
    · rcases h1 with ⟨rfl, _⟩ | ⟨_, h1⟩
      · rcases h2 with h2 | h2
        · exact absurd h2.symm hc0
        · have := h2.length_le
          have h3 : c = [] := List.length_eq_zero_iff.1 (by simp only [List.length_append, List.length_cons, List.length_nil] at this; omega)
          exact absurd h3 (head_is hc).2
      · rcases h1 with rfl | h1
        · exact h2
        · rcases h2 with rfl | h2
          · exact .inr h1
          · exact .inr (h2.trans ((List.prefix_append b [47]).trans h1))
theorem under_anti {a b : List UInt8} (ha : isCl a = true) (hb : isCl b = true) (h1 : underOf a b = true) (h2 : underOf b a = true) : a = b := by
  rw [under_iff] at *
  by_cases ha0 : a = [47]
  · by_cases hb0 : b = [47]
    · rw [ha0, hb0]
    · rcases h1 with ⟨h, _⟩ | ⟨_, h | h⟩
      · exact absurd h hb0
      · exact h
      · have := h.length_le
        rw [ha0] at this
        have h3 : b = [] := List.length_eq_zero_iff.1 (by simp only [List.length_append, List.length_cons, List.length_nil] at this; omega)
        exact absurd h3 (head_is hb).2
  · rcases h2 with ⟨h, _⟩ | ⟨_, h | h⟩
    · exact absurd h ha0
    · exact h.symm
    · have l2 := h.length_le
      by_cases hb0 : b = [47]
      · rw [hb0] at l2
        have h3 : a = [] := List.length_eq_zero_iff.1 (by simp only [List.length_append, List.length_cons, List.length_nil] at l2; omega)
        exact absurd h3 (head_is ha).2
      · rcases h1 with ⟨h, _⟩ | ⟨_, h | h⟩
        · exact absurd h hb0
        · exact h
        · have l1 := h.length_le
          simp at l1 l2; omega
theorem child_under {a b : List UInt8} (ha : isCl a = true) (h : childOf a b = true) : underOf a b = true := by
  obtain ⟨st, rfl, hN⟩ := neat_is ha
  unfold childOf at h
  simp only [Bool.and_eq_true, bne_iff_ne, beq_iff_eq] at h
  rcases List.eq_nil_or_concat st with rfl | ⟨r, n, rfl⟩
  · exact absurd rfl h.2.1
  · rw [List.concat_eq_append] at *
    rw [← h.2.2, up_snoc hN]
    exact under_snoc hN
theorem under_self (a : List UInt8) (ha : isCl a = true) : underOf a a = true := by
  rw [under_iff]
  by_cases h : a = [47]
  · exact .inl ⟨h, (head_is ha).1⟩
  · exact .inr ⟨h, .inl rfl⟩
theorem no_child_self (a : List UInt8) (ha : isCl a = true) : childOf a a = false := by
  rw [Bool.eq_false_iff]
  intro h
  have hs := under_self a ha
  obtain ⟨st, rfl, hN⟩ := neat_is ha
  unfold childOf at h
  simp only [Bool.and_eq_true, bne_iff_ne, beq_iff_eq] at h
  rcases List.eq_nil_or_concat st with rfl | ⟨r, n, rfl⟩
  · exact absurd rfl h.2.1
  · rw [List.concat_eq_append] at *
    have h2 := h.2.2
    rw [up_snoc hN] at h2
    have h3 := not_under_snoc hN
    rw [h2, hs] at h3
    cases h3
theorem under_root (a : List UInt8) (ha : isCl a = true) : underOf a [47] = true := by
  rw [under_iff]; exact .inl ⟨rfl, (head_is ha).1⟩
set_option maxHeartbeats 1000000 in
theorem law_clean (s : ByteArray) (w : World) (hs : s.size ≤ 100000) :
    Calls Tryd.prog 8 #[.string s] w fun e w' => e = .returned (.bool (isCl s.data.toList)) ∧ Below w.heap.size w w' := by
  have hC := ref_Clean s w hs
  rw [isCl_eq]
  generalize clE s.data.toList = E at *
  generalize tx (clT s.data.toList) = T at *
  cases hE : (E == 0)
  all_goals
    go_enter Tryd.func8, Tryd.ntmps8
    go_wp2_with (go_at_call 18; refine hC.mono ?_; rintro e w1 ⟨rfl, hb⟩)
    go_ret
    exact ⟨by simp, hb⟩
set_option maxHeartbeats 4000000 in
set_option maxRecDepth 20000 in
theorem core (a b c : ByteArray) (w : World) (hm : Mx w) (ha : a.size ≤ 256) (hb : b.size ≤ 256) (hc : c.size ≤ 256) :
    Calls Tryd.prog 4 #[.string a, .string b, .string c] w fun e w' => e = .returned (.bool true) ∧ Below w.heap.size w w' := by
  have hA := fun w => law_clean a w (by omega)
  have hB := fun w => law_clean b w (by omega)
  have hC := fun w => law_clean c w (by omega)
  have haI : ¬ 256 < (a.size : Int) := by omega
  have hbI : ¬ 256 < (b.size : Int) := by omega
  have hcI : ¬ 256 < (c.size : Int) := by omega
  have HM : Hid (Mx w) := hm
  clear hm
  cases ca : isCl a.data.toList with
  | false =>
    rw [ca] at hA
    clear hB hC ca
    go_enter Tryd.func4, Tryd.ntmps4
    go_wp2_with fail
    refine (hA _).mono ?_
    rintro e w1 ⟨rfl, b1⟩
    go_wp2
    go_ret
    exact ⟨rfl, b1⟩
  | true =>
  rw [ca] at hA
  cases cb : isCl b.data.toList with
  | false =>
    rw [cb] at hB
    clear hC ca cb
    go_enter Tryd.func4, Tryd.ntmps4
    go_wp2_with fail
    refine (hA _).mono ?_
    rintro e w1 ⟨rfl, b1⟩
    go_wp2_with fail
    refine (hB _).mono ?_
    rintro e w2 ⟨rfl, b2⟩
    go_wp2
    go_ret
    exact ⟨rfl, b1.trans (b2.mono b1.size)⟩
  | true =>
  rw [cb] at hB
  cases cc : isCl c.data.toList with
  | false =>
    rw [cc] at hC
    clear ca cb cc
    go_enter Tryd.func4, Tryd.ntmps4
    go_wp2_with fail
    refine (hA _).mono ?_
    rintro e w1 ⟨rfl, b1⟩
    go_wp2_with fail
    refine (hB _).mono ?_
    rintro e w2 ⟨rfl, b2⟩
    have bl2 := b1.trans (b2.mono b1.size)
    go_wp2_with fail
    refine (hC _).mono ?_
    rintro e w3 ⟨rfl, b3⟩
    go_wp2
    go_ret
    exact ⟨rfl, bl2.trans (b3.mono bl2.size)⟩
  | true =>
  rw [cc] at hC
  have f1 := fun h1 h2 => under_trans ca cb cc h1 h2
  have f2 := fun h => child_under (b := b.data.toList) ca h
  have f3 := fun h1 h2 => under_anti ca cb h1 h2
  have f4 := under_root _ ca
  have f5 := under_self _ ca
  have f6 := no_child_self _ ca
  have u1 : ∀ w, Calls Tryd.prog 9 #[.string a, .string b] w _ := fun w => path_Under a b w
  have u2 : ∀ w, Calls Tryd.prog 9 #[.string b, .string c] w _ := fun w => path_Under b c w
  have u3 : ∀ w, Calls Tryd.prog 9 #[.string a, .string c] w _ := fun w => path_Under a c w
  have u4 : ∀ w, Calls Tryd.prog 9 #[.string b, .string a] w _ := fun w => path_Under b a w
  have u5 : ∀ w, Calls Tryd.prog 9 #[.string a, .string ⟨#[47]⟩] w _ := fun w => path_Under a ⟨#[47]⟩ w
  have u6 : ∀ w, Calls Tryd.prog 9 #[.string a, .string a] w _ := fun w => path_Under a a w
  have k1 : ∀ w, Calls Tryd.prog 10 #[.string a, .string b] w _ := fun w => path_Child a b w (by omega)
  have k2 : ∀ w, Calls Tryd.prog 10 #[.string a, .string a] w _ := fun w => path_Child a a w (by omega)
  rw [show (⟨#[47]⟩ : ByteArray).data.toList = [47] from rfl, f4] at u5
  rw [f5] at u6
  rw [f6] at k2
  have f7 : underOf a.data.toList b.data.toList = true → underOf b.data.toList a.data.toList = true → (a.toList == b.toList) = true := by
    intro h1 h2; rw [tl, tl]; simpa using f3 h1 h2
  clear ca cb cc f3 f4 f5 f6
  generalize underOf a.data.toList b.data.toList = X1 at *
  generalize underOf b.data.toList c.data.toList = X2 at *
  generalize underOf a.data.toList c.data.toList = X3 at *
  generalize underOf b.data.toList a.data.toList = X4 at *
  generalize childOf a.data.toList b.data.toList = K1 at *
  have cases4 : (X1 = false ∧ K1 = false) ∨ (X1 = true ∧ X2 = true ∧ X3 = true) ∨ (X1 = true ∧ X2 = false) := by
    cases X1 <;> cases X2 <;> cases X3 <;> cases K1 <;> simp_all
  have cases5 : X1 = false ∨ X4 = false ∨ (X1 = true ∧ X4 = true ∧ (a.toList == b.toList) = true) := by
    cases X1 <;> cases X4 <;> simp_all
  clear f1 f2 f7
  rcases cases4 with ⟨rfl, rfl⟩ | ⟨rfl, rfl, rfl⟩ | ⟨rfl, rfl⟩
  · go_enter Tryd.func4, Tryd.ntmps4
    go_wp2_with fail
    refine (hA _).mono ?_
    rintro e w1 ⟨rfl, b1⟩
    go_wp2_with fail
    refine (hB _).mono ?_
    rintro e w2 ⟨rfl, b2⟩
    have bl2 := b1.trans (b2.mono b1.size)
    go_wp2_with fail
    refine (hC _).mono ?_
    rintro e w3 ⟨rfl, b3⟩
    have bl3 := bl2.trans (b3.mono bl2.size)
    have HM3 : Hid (Mx w3) := HM.out.below bl3
    clear hA hB hC
    go_wp2_with fail
    refine (u1 _).mono ?_
    rintro e w0 ⟨rfl, hw0⟩; rw [hw0]; clear hw0
    go_wp2_with fail
    refine (k1 _).mono ?_
    rintro e w0 ⟨rfl, hw0⟩; rw [hw0]; clear hw0
    go_wp2_with fail
    refine (u1 _).mono ?_
    rintro e w0 ⟨rfl, hw0⟩; rw [hw0]; clear hw0
    go_wp2_with fail
    refine (u5 _).mono ?_
    rintro e w0 ⟨rfl, hw0⟩; rw [hw0]; clear hw0
    go_wp2_with fail
    refine (u6 _).mono ?_
    rintro e w0 ⟨rfl, hw0⟩; rw [hw0]; clear hw0
    go_wp2_with fail
    refine (k2 _).mono ?_
    rintro e w0 ⟨rfl, hw0⟩; rw [hw0]; clear hw0
    go_wp2_with fail
    refine (alive04 _ HM3.out).mono ?_
    rintro e w7 ⟨rfl, b7⟩
    go_wp2
    go_ret
    exact ⟨rfl, bl3.trans (b7.mono bl3.size)⟩
  · rcases cases5 with h | rfl | ⟨_, rfl, he⟩
    · cases h
    all_goals
      cases K1
      · go_enter Tryd.func4, Tryd.ntmps4
        go_wp2_with fail
        refine (hA _).mono ?_
        rintro e w1 ⟨rfl, b1⟩
        go_wp2_with fail
        refine (hB _).mono ?_
        rintro e w2 ⟨rfl, b2⟩
        have bl2 := b1.trans (b2.mono b1.size)
        go_wp2_with fail
        refine (hC _).mono ?_
        rintro e w3 ⟨rfl, b3⟩
        have bl3 := bl2.trans (b3.mono bl2.size)
        have HM3 : Hid (Mx w3) := HM.out.below bl3
        clear hA hB hC
        go_wp2_with fail
        refine (u1 _).mono ?_
        rintro e w0 ⟨rfl, hw0⟩; rw [hw0]; clear hw0
        go_wp2_with fail
        refine (u2 _).mono ?_
        rintro e w0 ⟨rfl, hw0⟩; rw [hw0]; clear hw0
        go_wp2_with fail
        refine (u3 _).mono ?_
        rintro e w0 ⟨rfl, hw0⟩; rw [hw0]; clear hw0
        go_wp2_with fail
        refine (k1 _).mono ?_
        rintro e w0 ⟨rfl, hw0⟩; rw [hw0]; clear hw0
        go_wp2_with fail
        refine (u1 _).mono ?_
        rintro e w0 ⟨rfl, hw0⟩; rw [hw0]; clear hw0
        go_wp2_with fail
        refine (u4 _).mono ?_
        rintro e w0 ⟨rfl, hw0⟩; rw [hw0]; clear hw0
        go_wp2_with fail
        refine (u5 _).mono ?_
        rintro e w0 ⟨rfl, hw0⟩; rw [hw0]; clear hw0
        go_wp2_with fail
        refine (u6 _).mono ?_
        rintro e w0 ⟨rfl, hw0⟩; rw [hw0]; clear hw0
        go_wp2_with fail
        refine (k2 _).mono ?_
        rintro e w0 ⟨rfl, hw0⟩; rw [hw0]; clear hw0
        go_wp2_with fail
        refine (alive04 _ HM3.out).mono ?_
        rintro e w7 ⟨rfl, b7⟩
        go_wp2
        go_ret
        exact ⟨rfl, bl3.trans (b7.mono bl3.size)⟩
      · go_enter Tryd.func4, Tryd.ntmps4
        go_wp2_with fail
        refine (hA _).mono ?_
        rintro e w1 ⟨rfl, b1⟩
        go_wp2_with fail
        refine (hB _).mono ?_
        rintro e w2 ⟨rfl, b2⟩
        have bl2 := b1.trans (b2.mono b1.size)
        go_wp2_with fail
        refine (hC _).mono ?_
        rintro e w3 ⟨rfl, b3⟩
        have bl3 := bl2.trans (b3.mono bl2.size)
        have HM3 : Hid (Mx w3) := HM.out.below bl3
        clear hA hB hC
        go_wp2_with fail
        refine (u1 _).mono ?_
        rintro e w0 ⟨rfl, hw0⟩; rw [hw0]; clear hw0
        go_wp2_with fail
        refine (u2 _).mono ?_
        rintro e w0 ⟨rfl, hw0⟩; rw [hw0]; clear hw0
        go_wp2_with fail
        refine (u3 _).mono ?_
        rintro e w0 ⟨rfl, hw0⟩; rw [hw0]; clear hw0
        go_wp2_with fail
        refine (k1 _).mono ?_
        rintro e w0 ⟨rfl, hw0⟩; rw [hw0]; clear hw0
        go_wp2_with fail
        refine (u1 _).mono ?_
        rintro e w0 ⟨rfl, hw0⟩; rw [hw0]; clear hw0
        go_wp2_with fail
        refine (u1 _).mono ?_
        rintro e w0 ⟨rfl, hw0⟩; rw [hw0]; clear hw0
        go_wp2_with fail
        refine (u4 _).mono ?_
        rintro e w0 ⟨rfl, hw0⟩; rw [hw0]; clear hw0
        go_wp2_with fail
        refine (u5 _).mono ?_
        rintro e w0 ⟨rfl, hw0⟩; rw [hw0]; clear hw0
        go_wp2_with fail
        refine (u6 _).mono ?_
        rintro e w0 ⟨rfl, hw0⟩; rw [hw0]; clear hw0
        go_wp2_with fail
        refine (k2 _).mono ?_
        rintro e w0 ⟨rfl, hw0⟩; rw [hw0]; clear hw0
        go_wp2_with fail
        refine (alive04 _ HM3.out).mono ?_
        rintro e w7 ⟨rfl, b7⟩
        go_wp2
        go_ret
        exact ⟨rfl, bl3.trans (b7.mono bl3.size)⟩
  · rcases cases5 with h | rfl | ⟨_, rfl, he⟩
    · cases h
    all_goals
      cases K1
      · go_enter Tryd.func4, Tryd.ntmps4
        go_wp2_with fail
        refine (hA _).mono ?_
        rintro e w1 ⟨rfl, b1⟩
        go_wp2_with fail
        refine (hB _).mono ?_
        rintro e w2 ⟨rfl, b2⟩
        have bl2 := b1.trans (b2.mono b1.size)
        go_wp2_with fail
        refine (hC _).mono ?_
        rintro e w3 ⟨rfl, b3⟩
        have bl3 := bl2.trans (b3.mono bl2.size)
        have HM3 : Hid (Mx w3) := HM.out.below bl3
        clear hA hB hC
        go_wp2_with fail
        refine (u1 _).mono ?_
        rintro e w0 ⟨rfl, hw0⟩; rw [hw0]; clear hw0
        go_wp2_with fail
        refine (u2 _).mono ?_
        rintro e w0 ⟨rfl, hw0⟩; rw [hw0]; clear hw0
        go_wp2_with fail
        refine (k1 _).mono ?_
        rintro e w0 ⟨rfl, hw0⟩; rw [hw0]; clear hw0
        go_wp2_with fail
        refine (u1 _).mono ?_
        rintro e w0 ⟨rfl, hw0⟩; rw [hw0]; clear hw0
        go_wp2_with fail
        refine (u4 _).mono ?_
        rintro e w0 ⟨rfl, hw0⟩; rw [hw0]; clear hw0
        go_wp2_with fail
        refine (u5 _).mono ?_
        rintro e w0 ⟨rfl, hw0⟩; rw [hw0]; clear hw0
        go_wp2_with fail
        refine (u6 _).mono ?_
        rintro e w0 ⟨rfl, hw0⟩; rw [hw0]; clear hw0
        go_wp2_with fail
        refine (k2 _).mono ?_
        rintro e w0 ⟨rfl, hw0⟩; rw [hw0]; clear hw0
        go_wp2_with fail
        refine (alive04 _ HM3.out).mono ?_
        rintro e w7 ⟨rfl, b7⟩
        go_wp2
        go_ret
        exact ⟨rfl, bl3.trans (b7.mono bl3.size)⟩
      · go_enter Tryd.func4, Tryd.ntmps4
        go_wp2_with fail
        refine (hA _).mono ?_
        rintro e w1 ⟨rfl, b1⟩
        go_wp2_with fail
        refine (hB _).mono ?_
        rintro e w2 ⟨rfl, b2⟩
        have bl2 := b1.trans (b2.mono b1.size)
        go_wp2_with fail
        refine (hC _).mono ?_
        rintro e w3 ⟨rfl, b3⟩
        have bl3 := bl2.trans (b3.mono bl2.size)
        have HM3 : Hid (Mx w3) := HM.out.below bl3
        clear hA hB hC
        go_wp2_with fail
        refine (u1 _).mono ?_
        rintro e w0 ⟨rfl, hw0⟩; rw [hw0]; clear hw0
        go_wp2_with fail
        refine (u2 _).mono ?_
        rintro e w0 ⟨rfl, hw0⟩; rw [hw0]; clear hw0
        go_wp2_with fail
        refine (k1 _).mono ?_
        rintro e w0 ⟨rfl, hw0⟩; rw [hw0]; clear hw0
        go_wp2_with fail
        refine (u1 _).mono ?_
        rintro e w0 ⟨rfl, hw0⟩; rw [hw0]; clear hw0
        go_wp2_with fail
        refine (u1 _).mono ?_
        rintro e w0 ⟨rfl, hw0⟩; rw [hw0]; clear hw0
        go_wp2_with fail
        refine (u4 _).mono ?_
        rintro e w0 ⟨rfl, hw0⟩; rw [hw0]; clear hw0
        go_wp2_with fail
        refine (u5 _).mono ?_
        rintro e w0 ⟨rfl, hw0⟩; rw [hw0]; clear hw0
        go_wp2_with fail
        refine (u6 _).mono ?_
        rintro e w0 ⟨rfl, hw0⟩; rw [hw0]; clear hw0
        go_wp2_with fail
        refine (k2 _).mono ?_
        rintro e w0 ⟨rfl, hw0⟩; rw [hw0]; clear hw0
        go_wp2_with fail
        refine (alive04 _ HM3.out).mono ?_
        rintro e w7 ⟨rfl, b7⟩
        go_wp2
        go_ret
        exact ⟨rfl, bl3.trans (b7.mono bl3.size)⟩
theorem walk (a : ByteArray) (w0 : a.size ≤ maxLen) (b : ByteArray) (w1 : b.size ≤ maxLen) (c : ByteArray) (w2 : c.size ≤ maxLen) (w : World) (hsh : w.ShapedOpen Tryd.prog) (hL : laidMetH Tryd.prog Rows.pathBelowRow.laid w) :
    Calls Tryd.prog 4 #[.string a, .string b, .string c] w fun e w' => e = .returned (.bool true) ∧ Below w.heap.size w w' := by
  have ham : a.size ≤ 9223372036854775807 := by unfold maxLen at w0; omega
  have hbm : b.size ≤ 9223372036854775807 := by unfold maxLen at w1; omega
  have hcm : c.size ≤ 9223372036854775807 := by unfold maxLen at w2; omega
  by_cases ha : a.size ≤ 256
  · have haI : ¬ 256 < (a.size : Int) := by omega
    by_cases hb : b.size ≤ 256
    · have hbI : ¬ 256 < (b.size : Int) := by omega
      by_cases hc : c.size ≤ 256
      · exact core a b c w (mx_of_shape hsh) ha hb hc
      · have hcI : 256 < (c.size : Int) := by omega
        clear hL hsh
        go_enter Tryd.func4, Tryd.ntmps4
        go_wp2
        go_ret
        exact ⟨rfl, Below.refl _ _⟩
    · have hbI : 256 < (b.size : Int) := by omega
      clear hL hsh
      go_enter Tryd.func4, Tryd.ntmps4
      go_wp2
      go_ret
      exact ⟨rfl, Below.refl _ _⟩
  · have haI : 256 < (a.size : Int) := by omega
    clear hL hsh
    go_enter Tryd.func4, Tryd.ntmps4
    go_wp2
    go_ret
    exact ⟨rfl, Below.refl _ _⟩
theorem own : ownKnob Tryd.prog.godebug = none := by kernel_rfl
theorem laidOut : laidOutB Tryd.prog = true := by kernel_rfl
set_option maxRecDepth 100000 in
theorem lifted (os : Os) (started : os.Started) (H : Type) (enc : TypeId × Value → H) :
    ReturnsInHanded {} Tryd.checked os 4 .any (fun w args => (Rows.pathBelowSpec.pre enc Tryd.prog Tryd.f4 Rows.pathBelowRow.domain false w args ∧ laidMetH Tryd.prog Rows.pathBelowRow.laid w) ∧ sizedMet enc Tryd.prog Tryd.f4 (OpenSpec.ofChange Rows.pathBelowSpec) false w args)
      (Rows.pathBelowSpec.post enc Tryd.prog Tryd.f4 false true false false) := by
  refine wrap_and_shaped (C := Tryd.checked) (X := fun w _ => laidMetH Tryd.prog Rows.pathBelowRow.laid w) (fun _ _ _ hh h => h.of_heap hh) own started (by kernel_rfl) Tryd.func4
    (ChangeSpec.witness_shaped (enc := enc) (C := Tryd.checked) (os := os) (X := fun w _ => laidMetH Tryd.prog Rows.pathBelowRow.laid w) false (World.laidAll Tryd.prog os Rows.pathBelowRow.laid) #[.string ByteArray.empty, .string ByteArray.empty, .string ByteArray.empty] 8 (World.laidAll_os _ _ _)
      (World.shaped_of_ZipB (by kernel_rfl) (by kernel_rfl)) (by kernel_rfl) (by kernel_rfl) (by kernel_rfl)
      (by rw [MakeChecks.laidMetH_plain _ _ _ (by kernel_rfl)]; exact laidMet_laidAll _ (by kernel_rfl) (by kernel_rfl))) ?_
  intro W base args ds gs before hval0 hW hcnd _ hL hsh
  have hval : ∀ (j : Nat) t v, Tryd.f4.params[j]? = some t → args[j]? = some v → Value.okWide Tryd.prog W .any base t v := hval0
  have hW' := hW
  obtain ⟨p, q, hA0, hV, rfl, hfz, hnd⟩ := hW
  have hA : DataW.TrodAll enc Tryd.prog W 0 (fun _ => true) true Tryd.f4.params.toList args.toList ds p := hA0
  rw [Tryd.params4] at hA hval
  obtain ⟨v0, vs0, d0, ds0, p0, q0, hargs, rfl, rfl, h0, r0⟩ := trodAll_cons hA
  obtain ⟨v1, vs1, d1, ds1, p1, q1, rfl, rfl, rfl, h1, r1⟩ := trodAll_cons r0
  obtain ⟨v2, vs2, d2, ds2, p2, q2, rfl, rfl, rfl, h2, r2⟩ := trodAll_cons r1
  obtain ⟨rfl, rfl, rfl⟩ := trodAll_nil r2
  obtain rfl : args = #[v0, v1, v2] := by cases args; simp_all
  obtain ⟨rfl, rfl⟩ := trodVars_none hV
  have k0 := h0
  have lt0 : ∀ x ∈ p0, x.block < W.heap.size := by obtain ⟨m, hm⟩ := k0; exact DataW.trod_lt m _ _ _ hm
  have k1 := h1
  have lt1 : ∀ x ∈ p1, x.block < W.heap.size := by obtain ⟨m, hm⟩ := k1; exact DataW.trod_lt m _ _ _ hm
  have k2 := h2
  have lt2 : ∀ x ∈ p2, x.block < W.heap.size := by obtain ⟨m, hm⟩ := k2; exact DataW.trod_lt m _ _ _ hm
  obtain ⟨a0, rfl, rfl, rfl, w0⟩ := open_string Tryd.underlying9 (hval 0 9 v0 rfl rfl) h0
  obtain ⟨a1, rfl, rfl, rfl, w1⟩ := open_string Tryd.underlying9 (hval 1 9 v1 rfl rfl) h1
  obtain ⟨a2, rfl, rfl, rfl, w2⟩ := open_string Tryd.underlying9 (hval 2 9 v2 rfl rfl) h2
  clear hA0 hval0
  refine (walk a0 w0 a1 w1 a2 w2 W hsh hL).mono fun e W' ⟨he, bel⟩ => ?_
  subst he
  exact ⟨_, rfl, _, _, _, [], _, [], hW', trodAll_mk1 (shut_bool Tryd.underlying4 _), (trodAll_cons_mk (Below.trod laidOut (by kernel_rfl) (of_decide_eq_true (by kernel_rfl)) k0 bel lt0) (trodAll_cons_mk (Below.trod laidOut (by kernel_rfl) (of_decide_eq_true (by kernel_rfl)) k1 bel lt1) (trodAll_cons_mk (Below.trod laidOut (by kernel_rfl) (of_decide_eq_true (by kernel_rfl)) k2 bel lt2) trodAll_mk0))), rfl, bel.frame _, fun h => by cases h⟩

theorem over : Rows.pathBelowRow.holds Tryd.pinned (OpenSpec.ofChange Rows.pathBelowSpec) :=
  OpenClaim.holds_of_wide 4 Tryd.f4 rfl rfl rfl rfl rfl rfl rfl ⟨rfl, rfl, rfl, rfl, rfl⟩ rfl rfl rfl rfl rfl (by kernel_rfl) Tryd.func4 (by kernel_rfl)
    (of_decide_eq_true (by kernel_rfl)) (by unfold Func.isWrapper; first | (rw [if_pos (by decide +kernel)]; kernel_rfl) | (rw [if_neg (by decide +kernel)]; exact ⟨rfl, rfl⟩))
    (fun os started H enc _ => lifted os started H enc)

theorem card : Claim7.holds Tryd.pinned (.plain (OpenSpec.ofChange Rows.pathBelowSpec)) Rows.pathBelowCard :=
  Claim7.holds_tied_plain_at .later [] [.data, .pinned] true (true, "9c08c2cb9dbfde85c607266586be4322027c23229bb01b2653dc26eca1849a85") false over (fun _ h => by cases h) (by kernel_rfl) (fun _ h => by cases h) pathBelow_row_tie rfl ⟨rfl, rfl⟩ (by kernel_rfl) rfl
    (fun f fn hf hfn => by
      obtain rfl : f = 4 := Option.some.inj ((show Tryd.prog.funcNamed Rows.pathBelowRow.func = some 4 by kernel_rfl).symm.trans hf) |>.symm
      obtain rfl : fn = Tryd.f4 := (Option.some.inj (Tryd.func4.symm.trans hfn)).symm
      exact ⟨by kernel_rfl, fun j t ht => by
        rw [Tryd.params4] at ht
        have hm : t ∈ [9] := by simpa using Array.mem_of_getElem? ht
        have hall : ([9].all fun u => !Tryd.prog.wantsStandIn u) = true := by kernel_rfl
        exact (show Tryd.prog.wantsStandIn t = false by simpa using List.all_eq_true.1 hall t hm)⟩)
    (by kernel_rfl)
end LPathBelow
theorem PathBelow_proved : Rows.PathBelowCardSaid := LPathBelow.card
end Go.Proofs.YtobamanlfcnilabDoor
