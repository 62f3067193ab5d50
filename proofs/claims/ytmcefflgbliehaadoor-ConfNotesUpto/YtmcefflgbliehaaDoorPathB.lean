
/-
  The reference of layer 4: Split, Parts, List, good, Same keep their contracts.
-/
import Derived.Test.YtmcefflgbliehaaDoorPathA
set_option linter.unusedVariables false
namespace Go.Proofs.YtmcefflgbliehaaDoor
open Go.RowKit Go.PlainAid
theorem drop_cons (l : List UInt8) (i : Nat) (h : i < l.length) : l.drop i = l.getD i 0 :: l.drop (i + 1) := by
  rw [List.drop_eq_getElem_cons h, List.getD, List.getElem?_eq_getElem h]; rfl
theorem piece_more (l : List UInt8) (f i : Nat) (hf : f ≤ i) (h : i < l.length) : (l.drop f).take (i + 1 - f) = (l.drop f).take (i - f) ++ [l.getD i 0] := by
  rw [show i + 1 - f = (i - f) + 1 by omega, List.take_add_one]
  congr 1
  rw [List.getElem?_drop, show f + (i - f) = i by omega, List.getD, List.getElem?_eq_getElem h]; rfl
/-- What the reference's Split has at place i, from f on. -/
def splitAt (c : UInt8) (l : List UInt8) (i f : Nat) (done : List (List UInt8)) : Prop :=
  (i ≤ l.length ∧ done ++ ahead ((l.drop f).take (i - f)) (sp c (l.drop i)) = sp c l) ∨ (i = l.length + 1 ∧ done = sp c l)
theorem splitAt_start (c : UInt8) (l : List UInt8) : splitAt c l 0 0 [] := .inl ⟨by omega, by simp; exact ahead_nil c l⟩
theorem splitAt_end {c : UInt8} {l : List UInt8} {f : Nat} {done : List (List UInt8)} (h : splitAt c l l.length f done) : splitAt c l (l.length + 1) (l.length + 1) (done ++ [(l.drop f).take (l.length - f)]) := by
  rcases h with ⟨_, h⟩ | ⟨h, _⟩
  · refine .inr ⟨rfl, ?_⟩
    rw [← h]; simp [sp, ahead]
  · omega
theorem splitAt_hit {c : UInt8} {l : List UInt8} {i f : Nat} {done : List (List UInt8)} (h : splitAt c l i f done) (hi : i < l.length) (hc : l.getD i 0 = c) : splitAt c l (i + 1) (i + 1) (done ++ [(l.drop f).take (i - f)]) := by
  rcases h with ⟨_, h⟩ | ⟨h, _⟩
  · refine .inl ⟨by omega, ?_⟩
    rw [← h, drop_cons l i hi, hc, ahead_eq, Nat.sub_self, List.take_zero, ahead_nil]; simp
  · omega
theorem splitAt_miss {c : UInt8} {l : List UInt8} {i f : Nat} {done : List (List UInt8)} (h : splitAt c l i f done) (hf : f ≤ i) (hi : i < l.length) (hc : ¬ l.getD i 0 = c) : splitAt c l (i + 1) f done := by
  rcases h with ⟨_, h⟩ | ⟨h, _⟩
  · refine .inl ⟨by omega, ?_⟩
    rw [← h, drop_cons l i hi, ahead_ne _ _ _ _ hc, piece_more l f i hf hi]
  · omega
theorem splitAt_out {c : UInt8} {l : List UInt8} {i f : Nat} {done : List (List UInt8)} (h : splitAt c l i f done) (hi : ¬ i ≤ l.length) : done = sp c l := by
  rcases h with ⟨h, _⟩ | ⟨_, h⟩
  · omega
  · exact h
set_option maxHeartbeats 1000000 in
theorem ref_Split (s : ByteArray) (c : UInt8) (cN : Int) (hcN : cN = (c.toNat : Int)) (w : World) (hs : s.size ≤ 100000000) :
    Calls Tryd.prog 21 #[.string s, .int .u8 cN] w fun e w' => ∃ v, e = .returned v ∧ OwnS w' w.heap.size v ((sp c s.data.toList).map tx) ∧ Below w.heap.size w w' := by
  have hsl := size_list s
  have HSL : Hid (s.size = s.data.toList.length) := hsl
  have HCN : Hid (cN = (c.toNat : Int)) := hcN
  clear hsl hcN
  go_enter Tryd.func21, Tryd.ntmps21
  go_wp2
  go_loopw [5, 6, 7] (fun vo vf vi wr => ∃ (i f : Nat) (done : List (List UInt8)), vi = .int .i64 i ∧ vf = .int .i64 f ∧ f ≤ i ∧ i ≤ s.size + 1 ∧ done.length ≤ i ∧ OwnS wr w.heap.size vo (done.map tx) ∧ Hid (Below w.heap.size w wr) ∧ Hid (splitAt c s.data.toList i f done))
    (fun _ _ vi _ => s.size + 1 - (intOf vi).toNat)
  case atStart => exact ⟨0, 0, [], rfl, rfl, by omega, by omega, by simp, OwnS.nil _ _, Below.refl _ _, splitAt_start _ _⟩
  case round =>
    obtain ⟨i, f, done, rfl, rfl, hf, hi, hd, hown, HB, HS⟩ := hrel
    by_cases hle : i ≤ s.size
    · have hleI : (i : Int) ≤ (s.size : Int) := by omega
      by_cases hlt : i < s.size
      · have hne : ((i : Int) == (s.size : Int)) = false := by rw [beq_eq_false_iff_ne]; omega
        by_cases hc : s[i] = c
        · have hcb : ((s[i].toNat : Int) == cN) = true := by rw [HCN.out, hc]; simp
          have HS2 := splitAt_hit HS.out (by have := HSL.out; omega) (by rw [← get_list s i hlt]; exact hc)
          have he := Lib.extract_eq s f i
          have HS3 : Hid (splitAt c s.data.toList (i + 1) (i + 1) (done ++ [(s.data.toList.drop f).take (i - f)])) := HS2
          have HE : Hid (s.extract f i = tx ((s.data.toList.drop f).take (i - f))) := he
          clear HS2 he HS hc
          go_wp2_with (at_builtin; refine append_text rfl _ _ rfl w.heap.size _ _ (done.map tx) hown (s.extract f i) rfl rfl (by simp; omega) HB.out.size ?_)
          intro v' w1 h1 h2
          go_wp2
          go_roundw
          case rel => exact ⟨i + 1, i + 1, done ++ [(s.data.toList.drop f).take (i - f)], by go_num, by go_num, by omega, by omega, by simp; omega, by rw [HE.out] at h1; simpa using h1, HB.out.trans h2, HS3.out⟩
          case measure => simp [intOf]; omega
        · have hcb : ((s[i].toNat : Int) == cN) = false := by
            rw [HCN.out, beq_eq_false_iff_ne]; intro h; exact hc (by apply UInt8.toNat_inj.1; omega)
          have HS3 : Hid (splitAt c s.data.toList (i + 1) f done) := splitAt_miss HS.out hf (by have := HSL.out; omega) (by rw [← get_list s i hlt]; exact hc)
          clear HS hc
          go_wp2
          go_roundw
          case rel => exact ⟨i + 1, f, done, by go_num, rfl, by omega, by omega, by omega, hown, HB, HS3⟩
          case measure => simp [intOf]; omega
      · have he : i = s.size := by omega
        subst he
        have HS3 : Hid (splitAt c s.data.toList (s.size + 1) (s.size + 1) (done ++ [(s.data.toList.drop f).take (s.size - f)])) := by
          have := HS.out
          rw [Hid]
          rw [HSL.out] at this ⊢
          exact splitAt_end this
        have HE : Hid (s.extract f s.size = tx ((s.data.toList.drop f).take (s.size - f))) := Lib.extract_eq s f s.size
        clear HS
        go_wp2_with (at_builtin; refine append_text rfl _ _ rfl w.heap.size _ _ (done.map tx) hown (s.extract f s.size) rfl rfl (by simp; omega) HB.out.size ?_)
        intro v' w1 h1 h2
        go_wp2
        go_roundw
        case rel => exact ⟨s.size + 1, s.size + 1, done ++ [(s.data.toList.drop f).take (s.size - f)], by go_num, by go_num, by omega, by omega, by simp; omega, by rw [HE.out] at h1; simpa using h1, HB.out.trans h2, HS3.out⟩
        case measure => simp [intOf]
    · have hleI : ¬ (i : Int) ≤ (s.size : Int) := by omega
      have HD : Hid (done = sp c s.data.toList) := splitAt_out HS.out (by have := HSL.out; omega)
      go_wp2
      go_ret
      exact ⟨_, rfl, by rw [← HD.out]; exact hown, HB.out⟩
theorem filter_take_snoc (p : List UInt8 → Bool) (r : List (List UInt8)) (i : Nat) (n : List UInt8) (h : r[i]? = some n) : (r.take (i + 1)).filter p = (r.take i).filter p ++ (if p n then [n] else []) := by
  rw [List.take_add_one, h, List.filter_append]
  cases hp : p n <;> simp [hp]
theorem ok_cases (n : List UInt8) : (n = [] ∧ ok n = false) ∨ (n ≠ [] ∧ n = [46] ∧ ok n = false) ∨ (n ≠ [] ∧ n ≠ [46] ∧ ok n = true) := by
  unfold ok
  by_cases h : n = []
  · exact .inl ⟨h, by simp [h]⟩
  · by_cases h2 : n = [46]
    · exact .inr (.inl ⟨h, h2, by simp [h2]⟩)
    · exact .inr (.inr ⟨h, h2, by simp [h, h2]⟩)
theorem tx_empty (n : List UInt8) : (tx n).toList.isEmpty = n.isEmpty := by rw [Lib.toList_data, data_tx]
theorem tx_list (n : List UInt8) : (tx n).toList = n := by rw [Lib.toList_data, data_tx]
theorem sp_len (c : UInt8) (l : List UInt8) : (sp c l).length ≤ l.length + 1 := by
  induction l with
  | nil => simp [sp]
  | cons b l ih =>
    unfold sp
    split
    · simp; omega
    · simp; omega
set_option maxHeartbeats 1000000 in
theorem ref_Parts (s : ByteArray) (w : World) (hs : s.size ≤ 100000) :
    Calls Tryd.prog 55 #[.string s] w fun e w' => ∃ v, e = .returned v ∧ OwnS w' w.heap.size v ((names s.data.toList).map tx) ∧ Below w.heap.size w w' := by
  have hsl := size_list s
  have hlen := sp_len 47 s.data.toList
  have hN : (sp 47 s.data.toList).length ≤ 100001 := by omega
  have hSp := ref_Split s 47 47 rfl w (by omega)
  have hnm : names s.data.toList = (sp 47 s.data.toList).filter ok := rfl
  rw [hnm]
  have h0 : 0 < (sp 47 s.data.toList).length := List.length_pos_iff.2 (sp_ne _ _)
  clear hsl hlen hnm
  generalize sp 47 s.data.toList = r at *
  go_enter Tryd.func55, Tryd.ntmps55
  go_wp2_with (go_at_call 21; refine hSp.mono ?_; rintro e w1 ⟨v, rfl, hown1, hb1⟩)
  obtain ⟨g, cap, rfl, hg1, hg2, hc1, hc2, hcell⟩ := hown1.form (by simpa using h0)
  rw [List.length_map] at hc1
  simp only [List.length_map]
  have HCELL : Hid (∀ j x, (r.map tx)[j]? = some x → w1.cell? ⟨g, j, none⟩ = some (.string x)) := hcell
  have HB1 : Hid (Below w.heap.size w w1) := hb1
  have hcap : cap ≤ 9223372036854775807 := by unfold maxLen at hc2; omega
  clear hcell hb1 hSp hown1
  go_wp2
  go_loopw [4, 5] (fun vo vi wr => ∃ (i : Nat), vi = .int .i64 i ∧ i ≤ r.length ∧ OwnS wr w1.heap.size vo (((r.take i).filter ok).map tx) ∧ Hid (Below w1.heap.size w1 wr)) (fun _ vi _ => r.length - (intOf vi).toNat)
  case atStart => exact ⟨0, rfl, by omega, OwnS.nil _ _, Below.refl _ _⟩
  case round =>
    obtain ⟨i, rfl, hi, hown, HB⟩ := hrel
    by_cases hlt : i < r.length
    · have hltI : (i : Int) < (r.length : Int) := by omega
      obtain ⟨n, hn⟩ : ∃ n, r[i]? = some n := ⟨r[i], List.getElem?_eq_getElem hlt⟩
      have hc : wr.cell? ⟨g, i, none⟩ = some (.string (tx n)) := by
        rw [HB.out.cell (p := ⟨g, i, none⟩) hg2]
        exact HCELL.out i (tx n) (by rw [List.getElem?_map, hn]; rfl)
      have HF := filter_take_snoc ok r i n hn
      have hacc : ((r.take i).filter ok).length ≤ i := by
        have h1 := List.length_filter_le ok (r.take i)
        have h2 := List.length_take_le i r
        omega
      have hcap2 : i < cap := by omega
      rcases ok_cases n with ⟨h1, h3⟩ | ⟨h1, h2, h3⟩ | ⟨h1, h2, h3⟩
      · have he1 : (tx n).toList.isEmpty = true := by rw [tx_empty]; simpa using h1
        rw [h3, if_neg (by simp), List.append_nil] at HF
        have HF2 : Hid ((r.take (i + 1)).filter ok = (r.take i).filter ok) := HF
        clear HF h1 h3 hn
        go_wp2
        go_roundw
        case rel => exact ⟨i + 1, by go_num, by omega, by rw [HF2.out]; exact hown, HB⟩
        case measure => simp [intOf]; omega
      · have he1 : (tx n).toList.isEmpty = false := by rw [tx_empty]; simpa using h1
        have he2 : ((tx n).toList == [46]) = true := by rw [tx_list]; simpa using h2
        rw [h3, if_neg (by simp), List.append_nil] at HF
        have HF2 : Hid ((r.take (i + 1)).filter ok = (r.take i).filter ok) := HF
        clear HF h1 h2 h3 hn
        go_wp2
        go_roundw
        case rel => exact ⟨i + 1, by go_num, by omega, by rw [HF2.out]; exact hown, HB⟩
        case measure => simp [intOf]; omega
      · have he1 : (tx n).toList.isEmpty = false := by rw [tx_empty]; simpa using h1
        have he2 : ((tx n).toList == [46]) = false := by rw [tx_list]; simpa using h2
        rw [h3, if_pos rfl] at HF
        have HF2 : Hid ((r.take (i + 1)).filter ok = (r.take i).filter ok ++ [n]) := HF
        clear HF h1 h2 h3 hn
        go_wp2_with (at_builtin; refine append_text rfl _ _ rfl w1.heap.size _ _ _ hown (tx n) rfl rfl (by simp; omega) HB.out.size ?_)
        intro v' w2 k1 k2
        go_wp2
        go_roundw
        case rel => exact ⟨i + 1, by go_num, by omega, by rw [HF2.out]; simpa using k1, HB.out.trans k2⟩
        case measure => simp [intOf]; omega
    · have hltI : ¬ (i : Int) < (r.length : Int) := by omega
      have HI : Hid (r.take i = r) := List.take_of_length_le (by omega)
      go_wp2
      go_ret
      exact ⟨_, rfl, by rw [HI.out] at hown; exact hown.low HB1.out.size, HB1.out.trans (HB.out.mono HB1.out.size)⟩
theorem ne_cases (n : List UInt8) : (n = [] ∧ (n != []) = false) ∨ (n ≠ [] ∧ (n != []) = true) := by
  by_cases h : n = []
  · exact .inl ⟨h, by simp [h]⟩
  · exact .inr ⟨h, by simp [h]⟩
/-- The paths of a list. -/
def plist (l : List UInt8) : List (List UInt8) := (sp 58 l).filter (· != [])
end Go.Proofs.YtmcefflgbliehaaDoor
