
/-
  The reference of layer 4: good, Clean, Join keep their contracts.
-/
import Derived.Test.YtmcefflgbliehaaDoorPathB
set_option linter.unusedVariables false
namespace Go.Proofs.YtmcefflgbliehaaDoor
open Go.RowKit Go.PlainAid
/-- What Clean answers: the text, and the error's number. -/
def clT (l : List UInt8) : List UInt8 := if can l then cl l else []
def clE (l : List UInt8) : Int := if can l then 0 else 40
set_option maxHeartbeats 1000000 in
theorem ref_good (s : ByteArray) (w : World) (hs : s.size ≤ 1000000000) :
    Calls Tryd.prog 54 #[.string s] w fun e w' => e = .returned (.bool (good s.data.toList)) ∧ w' = w := by
  obtain ⟨A, hA⟩ : ∃ A, good s.data.toList = A := ⟨_, rfl⟩
  rw [hA]
  have HA : Hid ((s.data.toList.all pb && decide (s.size ≤ 256)) = A) := by rw [Hid, ← hA, good, size_list]
  clear hA
  go_enter Tryd.func54, Tryd.ntmps54
  go_wp2
  go_loop [3] (fun vi => ∃ k : Nat, vi = .int .i64 k ∧ k ≤ s.size ∧ Hid ((s.data.toList.take k).all pb = true)) (fun vi => s.size - (intOf vi).toNat)
  case atStart => exact ⟨0, rfl, by omega, by simp [Hid]⟩
  case round =>
    obtain ⟨k, rfl, hk, HP⟩ := hrel
    by_cases hlt : k < s.size
    · have hltI : (k : Int) < (s.size : Int) := by omega
      obtain ⟨c, hc⟩ : ∃ c, s[k]'hlt = c := ⟨_, rfl⟩
      have HC : Hid (s.data.toList.getD k 0 = c) := by rw [Hid, ← get_list s k hlt, hc]
      have hcl := c.toNat_lt
      have hcase : (c.toNat : Int) ≤ 32 ∨ (¬ (c.toNat : Int) ≤ 32 ∧ 126 < (c.toNat : Int)) ∨ (¬ (c.toNat : Int) ≤ 32 ∧ ¬ 126 < (c.toNat : Int)) := by omega
      rcases hcase with q1 | ⟨q1, q2⟩ | ⟨q1, q2⟩
      · have HF : Hid (s.data.toList.all pb = false) := all_bad pb _ k (by rw [← size_list]; exact hlt) (by rw [HC.out]; unfold pb; simp; omega)
        go_wp2
        go_ret
        exact ⟨by rw [← HA.out, HF.out]; rfl, rfl⟩
      · have HF : Hid (s.data.toList.all pb = false) := all_bad pb _ k (by rw [← size_list]; exact hlt) (by rw [HC.out]; unfold pb; simp; omega)
        go_wp2
        go_ret
        exact ⟨by rw [← HA.out, HF.out]; rfl, rfl⟩
      · have HT : Hid (pb c = true) := by unfold pb; simp [Hid]; omega
        go_wp2
        go_round
        case rel => exact ⟨k + 1, by go_num, by omega, by rw [Hid, all_take_snoc pb _ k (by rw [← size_list]; exact hlt), HP.out, HC.out, HT.out]; rfl⟩
        case measure => (simp [intOf] <;> omega)
    · have hltI : ¬ (k : Int) < (s.size : Int) := by omega
      have hpe : k = s.size := by omega
      have HF : Hid (s.data.toList.all pb = true) := by have := HP.out; rwa [hpe, size_list, List.take_length] at this
      clear hpe
      go_wp2
      go_ret
      exact ⟨by rw [← HA.out, HF.out]; simp; omega, rfl⟩
theorem tx_append (a b : List UInt8) : tx a ++ tx b = tx (a ++ b) := by
  apply ByteArray.ext
  simp [tx]
theorem take_rev (ns : List (List UInt8)) (k : Nat) (n : List UInt8) (h : ns[k]? = some n) : (ns.take (k + 1)).reverse = n :: (ns.take k).reverse := by
  rw [List.take_add_one, h]; simp
theorem rcl_dd (r : List (List UInt8)) (o : Nat) (s : List UInt8) : rcl ([46, 46] :: r) o s = rcl r (o + 1) s := by rw [rcl, if_pos rfl]
theorem rcl_out (n : List UInt8) (r : List (List UInt8)) (o : Nat) (s : List UInt8) (h : ¬ n = [46, 46]) (ho : 0 < o) : rcl (n :: r) o s = rcl r (o - 1) s := by rw [rcl, if_neg h, if_pos ho]
theorem rcl_in (n : List UInt8) (r : List (List UInt8)) (s : List UInt8) (h : ¬ n = [46, 46]) : rcl (n :: r) 0 s = rcl r 0 (47 :: n ++ s) := by rw [rcl, if_neg h, if_neg (by omega)]
theorem tot_take (ns : List (List UInt8)) (k : Nat) (n : List UInt8) (h : ns[k]? = some n) : tot (ns.take (k + 1)) = tot (ns.take k) + n.length + 1 := by
  rw [List.take_add_one, h, tot_append]; simp [tot]; omega
theorem names_tot (l : List UInt8) : tot (names l) ≤ l.length + 1 := by
  have h1 := tot_filter ok (sp 47 l)
  have h2 := tot_sp 47 l
  unfold names; omega
theorem names_len (l : List UInt8) : (names l).length ≤ l.length + 1 := by
  have h1 := List.length_filter_le ok (sp 47 l)
  have h2 := sp_len 47 l
  unfold names; omega
set_option maxHeartbeats 2000000 in
theorem ref_Clean (s : ByteArray) (w : World) (hs : s.size ≤ 100000) :
    Calls Tryd.prog 31 #[.string s] w fun e w' => e = .returned (.tuple #[.string (tx (clT s.data.toList)), .int .i64 (clE s.data.toList)]) ∧ Below w.heap.size w w' := by
  have hG := fun w => ref_good s w (by omega)
  cases hg : good s.data.toList with
  | false =>
    rw [hg] at hG
    have hT : clT s.data.toList = [] := by unfold clT can; simp [hg]
    have hE : clE s.data.toList = 40 := by unfold clE can; simp [hg]
    rw [hT, hE]
    clear hT hE hg
    go_enter Tryd.func31, Tryd.ntmps31
    go_wp2_with (go_at_call 54; refine (hG _).mono ?_; rintro e w1 ⟨rfl, rfl⟩)
    go_ret2
    exact ⟨rfl, Below.refl _ _⟩
  | true =>
    rw [hg] at hG
    by_cases hz : s.size = 0
    · have hd : s.data.toList = [] := by apply List.length_eq_zero_iff.1; rw [← size_list]; exact hz
      have hT : clT s.data.toList = [] := by rw [hd]; rfl
      have hE : clE s.data.toList = 40 := by rw [hd]; rfl
      rw [hT, hE]
      have hzI : ((s.size : Int) == 0) = true := by rw [hz]; rfl
      clear hT hE hg hz hd
      go_enter Tryd.func31, Tryd.ntmps31
      go_wp2_with (go_at_call 54; refine (hG _).mono ?_; rintro e w1 ⟨rfl, rfl⟩)
      go_ret2
      exact ⟨rfl, Below.refl _ _⟩
    · have hzI : ((s.size : Int) == 0) = false := by rw [beq_eq_false_iff_ne]; omega
      have hpos : 0 < s.size := by omega
      have hcons : s.data.toList = s[0] :: s.data.toList.tail := by
        have h := drop_cons s.data.toList 0 (by rw [← size_list]; exact hpos)
        rw [← get_list s 0 hpos] at h
        simpa using h
      have hcanb : can s.data.toList = (s[0] == 47) := by
        rw [can, hg, hcons]
        simp [Lib.hasPrefix, List.isPrefixOf, Bool.beq_comm]
      by_cases h47 : s[0] = 47
      · have h47I : ((s[0].toNat : Int) == 47) = true := by rw [h47]; rfl
        have hcan : can s.data.toList = true := by rw [hcanb, h47]; rfl
        have hT : clT s.data.toList = cl s.data.toList := by unfold clT; simp [hcan]
        have hE : clE s.data.toList = 0 := by unfold clE; simp [hcan]
        have hW := rcl_whole (names s.data.toList)
        rw [hT, hE, show cl s.data.toList = whole (stk (names s.data.toList)) from rfl, ← hW]
        have hP := fun w => ref_Parts s w (by omega)
        have hl1 := names_len s.data.toList
        have hl2 := names_tot s.data.toList
        rw [← size_list] at hl1 hl2
        clear hT hE hg hz hcons hcanb hcan h47 hW
        generalize names s.data.toList = ns at *
        obtain ⟨R, hRR⟩ : ∃ R, (if rcl ns.reverse 0 [] = [] then [47] else rcl ns.reverse 0 []) = R := ⟨_, rfl⟩
        rw [hRR]
        have HRR : Hid ((if rcl ns.reverse 0 [] = [] then [47] else rcl ns.reverse 0 []) = R) := hRR
        clear hRR
        go_enter Tryd.func31, Tryd.ntmps31
        go_wp2_with (first | (go_at_call 54; refine (hG _).mono ?_; rintro e w0 ⟨rfl, hw0⟩; rw [hw0]; clear hw0) | (go_at_call 55; refine (hP _).mono ?_; rintro e w1 ⟨v, rfl, hown1, hb1⟩; obtain ⟨a1, cap, rfl⟩ := hown1.len ns.length (by simp)))
        by_cases hne : 0 < ns.length
        · obtain ⟨g, rfl, hg1, hg2, hc1, hc2, hcell⟩ := hown1.cells (by simpa using hne)
          rw [List.length_map] at hc1
          have HCELL : Hid (∀ j x, (ns.map tx)[j]? = some x → w1.cell? ⟨g, j, none⟩ = some (.string x)) := hcell
          have HB1 : Hid (Below w.heap.size w w1) := hb1
          have hcap : cap ≤ 9223372036854775807 := by unfold maxLen at hc2; omega
          clear hcell hb1 hP hown1 hG
          go_wp2
          go_loop [5, 6, 7] (fun vs vo vi => ∃ (z : Int) (k o : Nat) (acc : List UInt8), vi = .int .i64 z ∧ vo = .int .i64 o ∧ vs = .string (tx acc) ∧ z + 1 = k ∧ k ≤ ns.length ∧ o + k ≤ ns.length ∧ acc.length + tot (ns.take k) ≤ tot ns ∧ Hid (rcl (ns.take k).reverse o acc = rcl ns.reverse 0 [])) (fun _ _ vi => (intOf vi + 1).toNat)
          case atStart => exact ⟨_, ns.length, 0, [], rfl, rfl, rfl, by omega, by omega, by omega, by simp, by rw [Hid, List.take_length]⟩
          case round =>
            obtain ⟨z, k, o, acc, rfl, rfl, rfl, hz, hk, ho, hacc, HR⟩ := hrel
            by_cases h0 : 0 ≤ z
            · obtain ⟨j, rfl⟩ : ∃ j : Nat, z = j := ⟨z.toNat, by omega⟩
              have hk' : k = j + 1 := by omega
              subst hk'
              have hlt : j < ns.length := by omega
              have hltI : (j : Int) < (ns.length : Int) := by omega
              obtain ⟨n, hn⟩ : ∃ n, ns[j]? = some n := ⟨ns[j], List.getElem?_eq_getElem hlt⟩
              have hc := HCELL.out j (tx n) (by rw [List.getElem?_map, hn]; rfl)
              have hcap2 : j < cap := by omega
              have hR := HR.out
              rw [take_rev ns j n hn] at hR
              have htt := tot_take ns j n hn
              clear HR hn
              by_cases hdd : n = [46, 46]
              · have he : ((tx n).toList == [46, 46]) = true := by rw [tx_list]; simpa using hdd
                rw [hdd, rcl_dd] at hR
                have HR2 : Hid (rcl (ns.take j).reverse (o + 1) acc = rcl ns.reverse 0 []) := hR
                clear hR hdd
                go_wp2
                go_round
                case rel => exact ⟨_, j, o + 1, acc, rfl, by go_num, rfl, by omega, by omega, by omega, by omega, HR2⟩
                case measure => (simp [intOf] <;> omega)
              · have he : ((tx n).toList == [46, 46]) = false := by rw [tx_list]; simpa using hdd
                by_cases ho0 : 0 < o
                · have hoI : 0 < (o : Int) := by omega
                  rw [rcl_out n _ _ _ hdd ho0] at hR
                  have HR2 : Hid (rcl (ns.take j).reverse (o - 1) acc = rcl ns.reverse 0 []) := hR
                  clear hR hdd
                  go_wp2
                  go_round
                  case rel => exact ⟨_, j, o - 1, acc, rfl, by go_num, rfl, by omega, by omega, by omega, by omega, HR2⟩
                  case measure => (simp [intOf] <;> omega)
                · have hoe : o = 0 := by omega
                  subst hoe
                  rw [rcl_in n _ _ hdd] at hR
                  have HR2 : Hid (rcl (ns.take j).reverse 0 (47 :: n ++ acc) = rcl ns.reverse 0 []) := hR
                  have hz1 : (tx n).size ≤ 200000 := by rw [tx_size]; omega
                  have hz2 : (tx acc).size ≤ 200000 := by rw [tx_size]; omega
                  clear hR hdd
                  go_wp2
                  go_round
                  case rel => exact ⟨_, j, 0, 47 :: n ++ acc, rfl, rfl, by rw [show (⟨#[47]⟩ : ByteArray) = tx [47] from rfl, tx_append, tx_append]; rfl, by omega, by omega, by omega, by simp; omega, HR2⟩
                  case measure => (simp [intOf] <;> omega)
            · have hk0 : k = 0 := by omega
              subst hk0
              have hR := HR.out
              simp only [List.take_zero, List.reverse_nil, rcl] at hR
              have HR2 : Hid (acc = rcl ns.reverse 0 []) := hR
              clear HR hR
              by_cases hae : acc = []
              · have he : (tx acc).toList.isEmpty = true := by rw [tx_empty, hae]; rfl
                have HI : Hid (R = [47]) := by rw [Hid, ← HRR.out, ← HR2.out, if_pos hae]
                clear hae
                go_wp2
                go_ret2
                exact ⟨by rw [HI.out]; rfl, HB1.out⟩
              · have he : (tx acc).toList.isEmpty = false := by rw [tx_empty]; simpa using hae
                have HI : Hid (R = acc) := by rw [Hid, ← HRR.out, ← HR2.out, if_neg hae]
                clear hae
                go_wp2
                go_ret2
                exact ⟨by rw [HI.out]; rfl, HB1.out⟩
        · have hn0 : ns = [] := List.length_eq_zero_iff.1 (by omega)
          subst hn0
          have HB1 : Hid (Below w.heap.size w w1) := hb1
          clear hb1 hP hown1 hG hl1 hl2 hne
          simp only [List.length_nil]
          go_wp2
          go_loop [5, 6, 7] (fun vs vo vi => vi = .int .i64 (-1) ∧ vs = .string ⟨#[]⟩) (fun _ _ _ => 0)
          case atStart => exact ⟨by go_num, rfl⟩
          case round =>
            obtain ⟨rfl, rfl⟩ := hrel
            go_wp2
            go_ret2
            exact ⟨by rw [← HRR.out]; rfl, HB1.out⟩
      · have h47I : ((s[0].toNat : Int) == 47) = false := by
          rw [beq_eq_false_iff_ne]; intro h; exact h47 (by apply UInt8.toNat_inj.1; simp; omega)
        have hcan : can s.data.toList = false := by rw [hcanb]; simpa using h47
        have hT : clT s.data.toList = [] := by unfold clT; simp [hcan]
        have hE : clE s.data.toList = 40 := by unfold clE; simp [hcan]
        rw [hT, hE]
        clear hT hE hg hz hcons hcanb hcan h47
        go_enter Tryd.func31, Tryd.ntmps31
        go_wp2_with (go_at_call 54; refine (hG _).mono ?_; rintro e w1 ⟨rfl, rfl⟩)
        go_ret2
        exact ⟨rfl, Below.refl _ _⟩
end Go.Proofs.YtmcefflgbliehaaDoor
