
/-
  Layer 4, the program's: Clean, IsClean, Join keep their contracts.
-/
import Derived.Test.YtmcefflgbliehaaDoorPathD
set_option linter.unusedVariables false
namespace Go.Proofs.YtmcefflgbliehaaDoor
open Go.RowKit Go.PlainAid
theorem join_len (st : List (List UInt8)) : (Lib.join st [47]).length ≤ tot st := by
  have h := tot_slashed st
  cases st with
  | nil => simp [Lib.join_nil]
  | cons n r =>
    rw [← whole_cons] at h
    unfold whole at h
    simp at h; omega
theorem map_tx_data (st : List (List UInt8)) : (st.map tx).map (·.data.toList) = st := by
  rw [List.map_map]
  conv => rhs; rw [← List.map_id st]
  apply List.map_congr_left
  intro x _
  exact data_tx x
theorem len_tot (st : List (List UInt8)) : st.length ≤ tot st := by
  induction st with
  | nil => simp
  | cons n r ih => simp [tot]; omega
theorem lib_Join (w : World) (B : Nat) (v : Value) (st : List (List UInt8)) (h : OwnS w B v (st.map tx)) (ht : tot st ≤ 1000000) :
    Calls Tryd.prog 51 #[v, .string ⟨#[47]⟩] w fun e w' => e = .returned (.string (tx (Lib.join st [47]))) ∧ Below w.heap.size w w' := by
  by_cases hne : 0 < (st.map tx).length
  · obtain ⟨g, cap, rfl, hb, hg, hc1, hc2, hcell⟩ := h.form hne
    have hl := join_len st
    have hl2 := len_tot st
    have hJ := Tryd.strings_Join g 0 cap (st.map tx) ⟨#[47]⟩ w (by intro j x hx; rw [Nat.zero_add]; exact hcell j x hx) hg (by simp; omega) hc1 (by rw [map_tx_data]; show (Lib.join st [47]).length ≤ _; omega)
    rw [map_tx_data] at hJ
    exact hJ
  · have h0 : st = [] := List.length_eq_zero_iff.1 (by simpa using hne)
    subst h0
    obtain ⟨a, cap, rfl⟩ := h.slice
    refine (Tryd.strings_Join_none a cap ⟨#[47]⟩ w).mono ?_
    rintro e w' ⟨rfl, hw⟩
    exact ⟨rfl, hw ▸ Below.refl _ _⟩
theorem map_dropLast (st : List (List UInt8)) : (st.map tx).dropLast = st.dropLast.map tx := by rw [List.map_dropLast]
theorem tot_stk_take (ns : List (List UInt8)) (i : Nat) : tot (stk (ns.take i)) ≤ tot ns := by
  have h1 := tot_fold (ns.take i) []
  have h2 : tot (ns.take i) ≤ tot ns := by
    conv => rhs; rw [← List.take_append_drop i ns]
    rw [tot_append]; omega
  unfold stk
  simp [tot] at h1 ⊢; omega
set_option maxHeartbeats 2000000 in
theorem path_Clean (s : ByteArray) (w : World) (hm : Mx w) (hs : s.size ≤ 100000) :
    Calls Tryd.prog 28 #[.string s] w fun e w' => e = .returned (.tuple #[.string (tx (clT s.data.toList)), .int .i64 (clE s.data.toList)]) ∧ Below w.heap.size w w' := by
  have hG := fun w => path_good s w (by omega)
  cases hg : good s.data.toList with
  | false =>
    rw [hg] at hG
    have hT : clT s.data.toList = [] := by unfold clT can; simp [hg]
    have hE : clE s.data.toList = 40 := by unfold clE can; simp [hg]
    rw [hT, hE]
    clear hT hE hg
    go_enter Tryd.func28, Tryd.ntmps28
    go_wp2_with (go_at_call 48; refine (hG _).mono ?_; rintro e w1 ⟨rfl, rfl⟩)
    go_ret2
    exact ⟨rfl, Below.refl _ _⟩
  | true =>
    rw [hg] at hG
    have hcanb : can s.data.toList = Lib.hasPrefix s.data.toList [47] := by rw [can, hg]; rfl
    have hH := fun w => Tryd.strings_HasPrefix s ⟨#[47]⟩ w
    rw [show (⟨#[47]⟩ : ByteArray).data.toList = [47] from rfl, ← hcanb] at hH
    clear hcanb hg
    cases hcan : can s.data.toList with
    | false =>
      rw [hcan] at hH
      have hT : clT s.data.toList = [] := by unfold clT; simp [hcan]
      have hE : clE s.data.toList = 40 := by unfold clE; simp [hcan]
      rw [hT, hE]
      clear hT hE hcan
      go_enter Tryd.func28, Tryd.ntmps28
      go_wp2_with (first | (go_at_call 48; refine (hG _).mono ?_; rintro e w1 ⟨rfl, rfl⟩) | (go_at_call 49; refine (hH _).mono ?_; rintro e w1 ⟨rfl, rfl⟩))
      go_ret2
      exact ⟨rfl, Below.refl _ _⟩
    | true =>
      rw [hcan] at hH
      have hT : clT s.data.toList = whole (stk (names s.data.toList)) := by unfold clT cl; simp [hcan]
      have hE : clE s.data.toList = 0 := by unfold clE; simp [hcan]
      rw [hT, hE]
      have hP := path_Parts s w hm (by omega)
      have hl1 := names_len s.data.toList
      have hl2 := names_tot s.data.toList
      rw [← size_list] at hl1 hl2
      clear hT hE hcan hm
      generalize names s.data.toList = ns at *
      go_enter Tryd.func28, Tryd.ntmps28
      go_wp2_with (first | (go_at_call 48; refine (hG _).mono ?_; rintro e w0 ⟨rfl, hw0⟩; rw [hw0]; clear hw0) | (go_at_call 49; refine (hH _).mono ?_; rintro e w0 ⟨rfl, hw0⟩; rw [hw0]; clear hw0) | (go_at_call 50; refine hP.mono ?_; rintro e w1 ⟨v, rfl, hown1, hb1⟩; obtain ⟨a1, cap, rfl⟩ := hown1.len ns.length (by simp)))
      have HB1 : Hid (Below w.heap.size w w1) := hb1
      clear hb1 hP hG hH
      have HOWN1 : Hid (OwnS w1 w.heap.size (.slice a1 ns.length cap) (ns.map tx)) := hown1
      clear hown1
      go_loopw [4, 6, 18] (fun vo _ vi wr => ∃ (i : Nat), vi = .int .i64 i ∧ i ≤ ns.length ∧ OwnS wr w1.heap.size vo ((stk (ns.take i)).map tx) ∧ Hid (Below w1.heap.size w1 wr)) (fun _ _ vi _ => ns.length - (intOf vi).toNat)
      case atStart => exact ⟨0, rfl, by omega, OwnS.nil _ _, Below.refl _ _⟩
      case round =>
        obtain ⟨i, rfl, hi, hown, HB⟩ := hrel
        have htt := tot_stk_take ns i
        by_cases hlt : i < ns.length
        · have hltI : (i : Int) < (ns.length : Int) := by omega
          obtain ⟨g, rfl, hg1, hg2, hc1, hc2, hcell⟩ := HOWN1.out.cells (by simp; omega)
          rw [List.length_map] at hc1
          have hcap : cap ≤ 9223372036854775807 := by unfold maxLen at hc2; omega
          obtain ⟨n, hn⟩ : ∃ n, ns[i]? = some n := ⟨ns[i], List.getElem?_eq_getElem hlt⟩
          have hc : wr.cell? ⟨g, i, none⟩ = some (.string (tx n)) := by
            rw [HB.out.cell (p := ⟨g, i, none⟩) hg2]
            exact hcell i (tx n) (by rw [List.getElem?_map, hn]; rfl)
          have hst := stk_take ns i hlt
          rw [show ns.getD i [] = n by rw [List.getD, hn]; rfl] at hst
          have hcap2 : i < cap := by omega
          have hlen := len_tot (stk (ns.take i))
          clear hcell hn
          generalize stk (ns.take i) = st at *
          have HST : Hid (stk (ns.take (i + 1)) = push st n) := hst
          clear hst
          by_cases hdd : n = [46, 46]
          · have he : ((tx n).toList == [46, 46]) = true := by rw [tx_list]; simpa using hdd
            have HPU : Hid (push st n = st.dropLast) := by rw [Hid, push, if_pos hdd]
            obtain ⟨a2, cap2, rfl⟩ := hown.len st.length (by simp)
            clear hdd
            by_cases hst0 : 0 < st.length
            · have hst0I : 0 < (st.length : Int) := by omega
              have hpop := hown.pop (by simpa using hst0)
              rw [List.length_map, map_dropLast] at hpop
              obtain ⟨g2, rfl, _, _, hcc1, hcc2, _⟩ := hown.cells (by simpa using hst0)
              rw [List.length_map] at hcc1
              have hcc3 : cap2 ≤ 9223372036854775807 := by unfold maxLen at hcc2; omega
              clear hown
              go_wp2
              go_roundw
              case rel => exact ⟨i + 1, by go_num, by omega, by rw [HST.out, HPU.out]; exact hpop, HB⟩
              case measure => (simp [intOf] <;> omega)
            · have hst0I : ¬ 0 < (st.length : Int) := by omega
              have hst1 : st = [] := List.length_eq_zero_iff.1 (by omega)
              go_wp2
              go_roundw
              case rel => exact ⟨i + 1, by go_num, by omega, by rw [HST.out, HPU.out, hst1]; rw [hst1] at hown; exact hown, HB⟩
              case measure => (simp [intOf] <;> omega)
          · have he : ((tx n).toList == [46, 46]) = false := by rw [tx_list]; simpa using hdd
            have HPU : Hid (push st n = st ++ [n]) := by rw [Hid, push, if_neg hdd]
            clear hdd
            go_wp2_with (at_builtin; refine append_text rfl _ _ rfl w1.heap.size _ _ _ hown (tx n) rfl rfl (by simp; omega) HB.out.size ?_)
            intro v' w2 k1 k2
            go_wp2
            go_roundw
            case rel => exact ⟨i + 1, by go_num, by omega, by rw [HST.out, HPU.out]; simpa using k1, HB.out.trans k2⟩
            case measure => (simp [intOf] <;> omega)
        · have hltI : ¬ (i : Int) < (ns.length : Int) := by omega
          rw [List.take_of_length_le (by omega)] at hown htt
          have hJ := lib_Join wr w1.heap.size _ (stk ns) hown (by omega)
          have hjl := join_len (stk ns)
          have hz : (tx (Lib.join (stk ns) [47])).size ≤ 1000000 := by rw [tx_size]; omega
          clear hown htt
          go_wp2_with (go_at_call 51; refine hJ.mono ?_; rintro e w2 ⟨rfl, hb2⟩)
          go_ret2
          exact ⟨by rw [show (⟨#[47]⟩ : ByteArray) = tx [47] from rfl, tx_append]; rfl, (HB1.out.trans (HB.out.mono HB1.out.size)).trans (hb2.mono ((HB1.out.trans (HB.out.mono HB1.out.size)).size))⟩
end Go.Proofs.YtmcefflgbliehaaDoor
