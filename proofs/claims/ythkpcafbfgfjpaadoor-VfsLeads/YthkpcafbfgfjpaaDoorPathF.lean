
/-
  Layer 4, the program's and the reference's: IsClean, Join, Base, Up, Under, Child, Archive keep their contracts.
-/
import Derived.Test.YthkpcafbfgfjpaaDoorPathE
import Derived.RegionTactic
import Derived.Deep.QuietTactic
import Derived.BigQuiet
set_option linter.unusedVariables false
namespace Go.Proofs.YthkpcafbfgfjpaaDoor
open Go.RowKit Go.PlainAid
/-- Is it what Clean answers for it? -/
def isCl (l : List UInt8) : Bool := can l && (cl l == l)
theorem isCl_eq (s : ByteArray) : isCl s.data.toList = ((clE s.data.toList == 0) && ((tx (clT s.data.toList)).toList == s.toList)) := by
  rw [tx_list, Lib.toList_data]
  unfold isCl clE clT
  cases can s.data.toList <;> simp
set_option maxHeartbeats 1000000 in
theorem path_IsClean (s : ByteArray) (w : World) (hm : Mx w) (hs : s.size ≤ 100000) :
    Calls Tryd.prog 43 #[.string s] w fun e w' => e = .returned (.bool (isCl s.data.toList)) ∧ Below w.heap.size w w' := by
  have hC := path_Clean s w hm hs
  rw [isCl_eq]
  generalize clE s.data.toList = E at *
  generalize tx (clT s.data.toList) = T at *
  cases hE : (E == 0)
  all_goals
    go_enter Tryd.func43, Tryd.ntmps43
    go_wp2_with (go_at_call 36; refine hC.mono ?_; rintro e w1 ⟨rfl, hb⟩)
    go_ret
    exact ⟨by simp, hb⟩
def joinT (d n : List UInt8) : List UInt8 := if Lib.hasPrefix n [47] then clT n else clT (d ++ 47 :: n)
def joinE (d n : List UInt8) : Int := if Lib.hasPrefix n [47] then clE n else clE (d ++ 47 :: n)
theorem add_slash (d n : ByteArray) : (d ++ ⟨#[47]⟩ ++ n).data.toList = d.data.toList ++ 47 :: n.data.toList := by
  rw [← tx_data d, ← tx_data n, show (⟨#[47]⟩ : ByteArray) = tx [47] from rfl, tx_append, tx_append, data_tx, data_tx, data_tx]; simp
set_option maxHeartbeats 1000000 in
theorem path_Join (d n : ByteArray) (w : World) (hm : Mx w) (hd : d.size ≤ 40000) (hn : n.size ≤ 40000) :
    Calls Tryd.prog 45 #[.string d, .string n] w fun e w' => e = .returned (.tuple #[.string (tx (joinT d.data.toList n.data.toList)), .int .i64 (joinE d.data.toList n.data.toList)]) ∧ Below w.heap.size w w' := by
  have hH := fun w => Tryd.strings_HasPrefix n ⟨#[47]⟩ w
  rw [show (⟨#[47]⟩ : ByteArray).data.toList = [47] from rfl] at hH
  cases hp : Lib.hasPrefix n.data.toList [47] with
  | true =>
    rw [hp] at hH
    have hC := path_Clean n w hm (by omega)
    have hT : joinT d.data.toList n.data.toList = clT n.data.toList := by unfold joinT; rw [hp]; rfl
    have hE : joinE d.data.toList n.data.toList = clE n.data.toList := by unfold joinE; rw [hp]; rfl
    rw [hT, hE]
    clear hT hE hp
    generalize clE n.data.toList = E at *
    generalize tx (clT n.data.toList) = T at *
    go_enter Tryd.func45, Tryd.ntmps45
    go_wp2_with (first | (go_at_call 49; refine (hH _).mono ?_; rintro e w0 ⟨rfl, hw0⟩; rw [hw0]; clear hw0) | (go_at_call 36; refine hC.mono ?_; rintro e w1 ⟨rfl, hb⟩))
    go_ret2
    exact ⟨rfl, hb⟩
  | false =>
    rw [hp] at hH
    have hC := path_Clean (d ++ ⟨#[47]⟩ ++ n) w hm (by simp [ByteArray.size_append]; show d.size + 1 + n.size ≤ _; omega)
    rw [add_slash] at hC
    have hT : joinT d.data.toList n.data.toList = clT (d.data.toList ++ 47 :: n.data.toList) := by unfold joinT; rw [hp]; rfl
    have hE : joinE d.data.toList n.data.toList = clE (d.data.toList ++ 47 :: n.data.toList) := by unfold joinE; rw [hp]; rfl
    rw [hT, hE]
    clear hT hE hp
    generalize clE (d.data.toList ++ 47 :: n.data.toList) = E at *
    generalize tx (clT (d.data.toList ++ 47 :: n.data.toList)) = T at *
    go_enter Tryd.func45, Tryd.ntmps45
    go_wp2_with (first | (go_at_call 49; refine (hH _).mono ?_; rintro e w0 ⟨rfl, hw0⟩; rw [hw0]; clear hw0) | (go_at_call 36; refine hC.mono ?_; rintro e w1 ⟨rfl, hb⟩))
    go_ret2
    exact ⟨rfl, hb⟩
theorem good_slash (d n : List UInt8) (h : good (d ++ 47 :: n) = true) : good d = true ∧ good n = true := by
  unfold good at *
  simp only [Bool.and_eq_true, List.all_append, List.all_cons, List.length_append, List.length_cons, decide_eq_true_eq] at *
  exact ⟨⟨h.1.1, by omega⟩, ⟨h.1.2.2, by omega⟩⟩
theorem can_bad (d n : List UInt8) (h : good d = false ∨ good n = false) : can (d ++ 47 :: n) = false := by
  unfold can
  cases hg : good (d ++ 47 :: n) with
  | false => rfl
  | true =>
    have := good_slash d n hg
    rcases h with h | h
    · rw [h] at this; simp at this
    · rw [h] at this; simp at this
theorem head_bool (s : ByteArray) (h : 0 < s.size) : Lib.hasPrefix s.data.toList [47] = ((s[0].toNat : Int) == 47) := by
  have h1 := drop_cons s.data.toList 0 (by rw [← size_list]; exact h)
  rw [← get_list s 0 h, List.drop_zero] at h1
  rw [h1]
  generalize s[0] = c
  have : ∀ c : UInt8, (((47 : UInt8) == c) = ((c.toNat : Int) == 47)) := by
    intro c
    rw [Bool.eq_iff_iff]
    simp
    constructor
    · intro h; subst h; rfl
    · intro h; apply UInt8.toNat_inj.1; show (47 : Nat) = c.toNat; omega
  simp [Lib.hasPrefix, List.isPrefixOf, this]
theorem head_none (s : ByteArray) (h : ¬ 0 < s.size) : s.data.toList = [] := by apply List.length_eq_zero_iff.1; rw [← size_list]; omega
set_option maxHeartbeats 1000000 in
theorem ref_Join (d n : ByteArray) (w : World) (hd : d.size ≤ 40000) (hn : n.size ≤ 40000) :
    Calls Tryd.prog 34 #[.string d, .string n] w fun e w' => e = .returned (.tuple #[.string (tx (joinT d.data.toList n.data.toList)), .int .i64 (joinE d.data.toList n.data.toList)]) ∧ Below w.heap.size w w' := by
  have hG1 := fun w => ref_good d w (by omega)
  have hG2 := fun w => ref_good n w (by omega)
  cases hp : Lib.hasPrefix n.data.toList [47] with
  | true =>
    have hpos : 0 < n.size := by
      by_cases h : 0 < n.size
      · exact h
      · rw [head_none n h] at hp; simp [Lib.hasPrefix, List.isPrefixOf] at hp
    have hposI : 0 < (n.size : Int) := by omega
    have h47 := head_bool n hpos
    rw [hp] at h47
    have h47' : ((n[0].toNat : Int) == 47) = true := h47.symm
    have hC := ref_Clean n w (by omega)
    have hT : joinT d.data.toList n.data.toList = clT n.data.toList := by unfold joinT; rw [hp]; rfl
    have hE : joinE d.data.toList n.data.toList = clE n.data.toList := by unfold joinE; rw [hp]; rfl
    rw [hT, hE]
    clear hT hE hp h47 hG1 hG2
    generalize clE n.data.toList = E at *
    generalize tx (clT n.data.toList) = T at *
    go_enter Tryd.func34, Tryd.ntmps34
    go_wp2_with (go_at_call 24; refine hC.mono ?_; rintro e w1 ⟨rfl, hb⟩)
    go_ret2
    exact ⟨rfl, hb⟩
  | false =>
    have hT : joinT d.data.toList n.data.toList = clT (d.data.toList ++ 47 :: n.data.toList) := by unfold joinT; rw [hp]; rfl
    have hE : joinE d.data.toList n.data.toList = clE (d.data.toList ++ 47 :: n.data.toList) := by unfold joinE; rw [hp]; rfl
    rw [hT, hE]
    clear hT hE
    have hC := ref_Clean (d ++ ⟨#[47]⟩ ++ n) w (by simp [ByteArray.size_append]; show d.size + 1 + n.size ≤ _; omega)
    rw [add_slash] at hC
    have hbad := can_bad d.data.toList n.data.toList
    have hcases : ((0 < n.size) ∧ ∃ h : 0 < n.size, ((n[0].toNat : Int) == 47) = false) ∨ ¬ 0 < n.size := by
      by_cases h : 0 < n.size
      · exact .inl ⟨h, h, by rw [← head_bool n h]; exact hp⟩
      · exact .inr h
    clear hp
    cases hg1 : good d.data.toList with
    | false =>
      rw [hg1] at hG1
      have hb0 := hbad (.inl hg1)
      have hT : clT (d.data.toList ++ 47 :: n.data.toList) = [] := by unfold clT; rw [hb0]; rfl
      have hE : clE (d.data.toList ++ 47 :: n.data.toList) = 40 := by unfold clE; rw [hb0]; rfl
      rw [hT, hE]
      clear hT hE hb0 hg1 hbad hC hG2
      rcases hcases with ⟨hpos, _, h47⟩ | hpos
      · have hposI : 0 < (n.size : Int) := by omega
        go_enter Tryd.func34, Tryd.ntmps34
        go_wp2_with (go_at_call 39; refine (hG1 _).mono ?_; rintro e w0 ⟨rfl, hw0⟩; rw [hw0]; clear hw0)
        go_ret2
        exact ⟨rfl, Below.refl _ _⟩
      · have hposI : ¬ 0 < (n.size : Int) := by omega
        go_enter Tryd.func34, Tryd.ntmps34
        go_wp2_with (go_at_call 39; refine (hG1 _).mono ?_; rintro e w0 ⟨rfl, hw0⟩; rw [hw0]; clear hw0)
        go_ret2
        exact ⟨rfl, Below.refl _ _⟩
    | true =>
      rw [hg1] at hG1
      cases hg2 : good n.data.toList with
      | false =>
        rw [hg2] at hG2
        have hb0 := hbad (.inr hg2)
        have hT : clT (d.data.toList ++ 47 :: n.data.toList) = [] := by unfold clT; rw [hb0]; rfl
        have hE : clE (d.data.toList ++ 47 :: n.data.toList) = 40 := by unfold clE; rw [hb0]; rfl
        rw [hT, hE]
        clear hT hE hb0 hg1 hg2 hbad hC
        rcases hcases with ⟨hpos, _, h47⟩ | hpos
        · have hposI : 0 < (n.size : Int) := by omega
          go_enter Tryd.func34, Tryd.ntmps34
          go_wp2_with fail
          refine (hG1 _).mono ?_
          rintro e w0 ⟨rfl, hw0⟩; rw [hw0]; clear hw0
          go_wp2_with fail
          refine (hG2 _).mono ?_
          rintro e w0 ⟨rfl, hw0⟩; rw [hw0]; clear hw0
          go_wp2
          go_ret2
          exact ⟨rfl, Below.refl _ _⟩
        · have hposI : ¬ 0 < (n.size : Int) := by omega
          go_enter Tryd.func34, Tryd.ntmps34
          go_wp2_with fail
          refine (hG1 _).mono ?_
          rintro e w0 ⟨rfl, hw0⟩; rw [hw0]; clear hw0
          go_wp2_with fail
          refine (hG2 _).mono ?_
          rintro e w0 ⟨rfl, hw0⟩; rw [hw0]; clear hw0
          go_wp2
          go_ret2
          exact ⟨rfl, Below.refl _ _⟩
      | true =>
        rw [hg2] at hG2
        clear hg1 hg2 hbad
        generalize clE (d.data.toList ++ 47 :: n.data.toList) = E at *
        generalize tx (clT (d.data.toList ++ 47 :: n.data.toList)) = T at *
        rcases hcases with ⟨hpos, _, h47⟩ | hpos
        · have hposI : 0 < (n.size : Int) := by omega
          go_enter Tryd.func34, Tryd.ntmps34
          go_wp2_with fail
          refine (hG1 _).mono ?_
          rintro e w0 ⟨rfl, hw0⟩; rw [hw0]; clear hw0
          go_wp2_with fail
          refine (hG2 _).mono ?_
          rintro e w0 ⟨rfl, hw0⟩; rw [hw0]; clear hw0
          go_wp2_with (go_at_call 24; refine hC.mono ?_; rintro e w1 ⟨rfl, hb⟩)
          go_ret2
          exact ⟨rfl, hb⟩
        · have hposI : ¬ 0 < (n.size : Int) := by omega
          go_enter Tryd.func34, Tryd.ntmps34
          go_wp2_with fail
          refine (hG1 _).mono ?_
          rintro e w0 ⟨rfl, hw0⟩; rw [hw0]; clear hw0
          go_wp2_with fail
          refine (hG2 _).mono ?_
          rintro e w0 ⟨rfl, hw0⟩; rw [hw0]; clear hw0
          go_wp2_with (go_at_call 24; refine hC.mono ?_; rintro e w1 ⟨rfl, hb⟩)
          go_ret2
          exact ⟨rfl, hb⟩
end Go.Proofs.YthkpcafbfgfjpaaDoor
