
/-
  Layer 4, the program's: Parts, List, Clean, IsClean, Join keep their contracts.
-/
import Derived.Test.YtmcefflgbliehaaDoorPathC
import Derived.Test.YtmcefflgbliehaaDoorShelf
set_option linter.unusedVariables false
namespace Go.Proofs.YtmcefflgbliehaaDoor
open Go.RowKit Go.PlainAid
/-- internal/bytealg.MaxLen holds an int, whichever. -/
def Mx (w : World) : Prop := ∃ m, w.cell? ⟨0, 0, none⟩ = some (.int .i64 m)
theorem Mx.below {w w' : World} (h : Mx w) (hb : Below w.heap.size w w') : Mx w' := by
  obtain ⟨m, hm⟩ := h
  refine ⟨m, ?_⟩
  rw [hb.cell (p := ⟨0, 0, none⟩) (World.block_lt_of_cell? _ _ hm)]
  exact hm
theorem splitB_tx (c : UInt8) (s : ByteArray) : Lib.splitB ⟨#[c]⟩ 0 (Lib.countB s ⟨#[c]⟩) s = (sp c s.data.toList).map tx := by
  have h := Lib.splitB_data ⟨#[c]⟩ 0 (Lib.countB s ⟨#[c]⟩) s
  rw [show (⟨#[c]⟩ : ByteArray).data.toList = [c] from rfl, splitK_sp c _ _ rfl] at h
  rw [← h, List.map_map]
  conv => lhs; rw [← List.map_id (Lib.splitB _ _ _ _)]
  apply List.map_congr_left
  intro x _
  exact (tx_data x).symm
theorem lib_Split (s : ByteArray) (c : UInt8) (w : World) (hm : Mx w) (hs : s.size ≤ 100000000) :
    Calls Tryd.prog 22 #[.string s, .string ⟨#[c]⟩] w fun e w' => ∃ v, e = .returned v ∧ OwnS w' w.heap.size v ((sp c s.data.toList).map tx) ∧ Below w.heap.size w w' := by
  obtain ⟨m, hm⟩ := hm
  refine (Tryd.strings_Split s ⟨#[c]⟩ m w (by omega) hm (Nat.le_refl 1)).mono ?_
  rintro e w' ⟨rfl, rfl⟩
  have h1 : (1 : Nat) ≤ (⟨#[c]⟩ : ByteArray).size := Nat.le_refl 1
  have hl := Lib.splitB_all ⟨#[c]⟩ h1 0 _ s rfl
  have hle := Lib.countB_le ⟨#[c]⟩ h1 s.size s (Nat.le_refl _)
  rw [splitB_tx] at hl ⊢
  refine ⟨_, rfl, ?_, (Below.refl _ _).alloc (Nat.le_refl _) _⟩
  unfold OwnS
  refine ⟨by simp, .inr ⟨w.heap.size, _, _, by rw [hl], Nat.le_refl _, heap_alloc_new w _, by omega, ?_, ?_, ?_⟩⟩
  · unfold maxLen; omega
  · simp at hl ⊢; omega
  · rw [Nat.mul_one, List.take_of_length_le (by simp)]
set_option maxHeartbeats 1000000 in
theorem path_Parts (s : ByteArray) (w : World) (hm : Mx w) (hs : s.size ≤ 100000) :
    Calls Tryd.prog 50 #[.string s] w fun e w' => ∃ v, e = .returned v ∧ OwnS w' w.heap.size v ((names s.data.toList).map tx) ∧ Below w.heap.size w w' := by
  have hsl := size_list s
  have hlen := sp_len 47 s.data.toList
  have hN : (sp 47 s.data.toList).length ≤ 100001 := by omega
  have hSp := lib_Split s 47 w hm (by omega)
  have hnm : names s.data.toList = (sp 47 s.data.toList).filter ok := rfl
  rw [hnm]
  have h0 : 0 < (sp 47 s.data.toList).length := List.length_pos_iff.2 (sp_ne _ _)
  clear hsl hlen hnm hm
  generalize sp 47 s.data.toList = r at *
  go_enter Tryd.func50, Tryd.ntmps50
  go_wp2_with (go_at_call 22; refine hSp.mono ?_; rintro e w1 ⟨v, rfl, hown1, hb1⟩; obtain ⟨a1, cap, rfl⟩ := hown1.len r.length (by simp))
  obtain ⟨g, rfl, hg1, hg2, hc1, hc2, hcell⟩ := hown1.cells (by simpa using h0)
  rw [List.length_map] at hc1
  have HCELL : Hid (∀ j x, (r.map tx)[j]? = some x → w1.cell? ⟨g, j, none⟩ = some (.string x)) := hcell
  have HB1 : Hid (Below w.heap.size w w1) := hb1
  have hcap : cap ≤ 9223372036854775807 := by unfold maxLen at hc2; omega
  clear hcell hb1 hSp hown1
  go_loopw [3, 5, 9] (fun vo _ vi wr => ∃ (i : Nat), vi = .int .i64 i ∧ i ≤ r.length ∧ OwnS wr w1.heap.size vo (((r.take i).filter ok).map tx) ∧ Hid (Below w1.heap.size w1 wr)) (fun _ _ vi _ => r.length - (intOf vi).toNat)
  case atStart => exact ⟨0, rfl, by omega, OwnS.nil _ _, Below.refl _ _⟩
  case round =>
    obtain ⟨i, rfl, hi, hown, HB⟩ := hrel
    by_cases hlt : i < r.length
    · have hltI : (i : Int) < (r.length : Int) := by omega
      obtain ⟨n, hn⟩ : ∃ n, r[i]? = some n := ⟨r[i], List.getElem?_eq_getElem hlt⟩
      have hc : wr.cell? ⟨g, i, none⟩ = some (.string (tx n)) := by
        rw [HB.out.cell (p := ⟨g, i, none⟩) hg2]
        exact HCELL.out i (tx n) (by rw [List.getElem?_map, hn]; rfl)
      have HF := filter_take_snoc ok r i n hn
      have hacc : ((r.take i).filter ok).length ≤ i := by
        have h1 := List.length_filter_le ok (r.take i)
        have h2 := List.length_take_le i r
        omega
      have hcap2 : i < cap := by omega
      rcases ok_cases n with ⟨h1, h3⟩ | ⟨h1, h2, h3⟩ | ⟨h1, h2, h3⟩
      · have he1 : (tx n).toList.isEmpty = true := by rw [tx_empty]; simpa using h1
        rw [h3, if_neg (by simp), List.append_nil] at HF
        have HF2 : Hid ((r.take (i + 1)).filter ok = (r.take i).filter ok) := HF
        clear HF h1 h3 hn
        go_wp2
        go_roundw
        case rel => exact ⟨i + 1, by go_num, by omega, by rw [HF2.out]; exact hown, HB⟩
        case measure => (simp [intOf] <;> omega)
      · have he1 : (tx n).toList.isEmpty = false := by rw [tx_empty]; simpa using h1
        have he2 : ((tx n).toList == [46]) = true := by rw [tx_list]; simpa using h2
        rw [h3, if_neg (by simp), List.append_nil] at HF
        have HF2 : Hid ((r.take (i + 1)).filter ok = (r.take i).filter ok) := HF
        clear HF h1 h2 h3 hn
        go_wp2
        go_roundw
        case rel => exact ⟨i + 1, by go_num, by omega, by rw [HF2.out]; exact hown, HB⟩
        case measure => (simp [intOf] <;> omega)
      · have he1 : (tx n).toList.isEmpty = false := by rw [tx_empty]; simpa using h1
        have he2 : ((tx n).toList == [46]) = false := by rw [tx_list]; simpa using h2
        rw [h3, if_pos rfl] at HF
        have HF2 : Hid ((r.take (i + 1)).filter ok = (r.take i).filter ok ++ [n]) := HF
        clear HF h1 h2 h3 hn
        go_wp2_with (at_builtin; refine append_text rfl _ _ rfl w1.heap.size _ _ _ hown (tx n) rfl rfl (by simp; omega) HB.out.size ?_)
        intro v' w2 k1 k2
        go_wp2
        go_roundw
        case rel => exact ⟨i + 1, by go_num, by omega, by rw [HF2.out]; simpa using k1, HB.out.trans k2⟩
        case measure => (simp [intOf] <;> omega)
    · have hltI : ¬ (i : Int) < (r.length : Int) := by omega
      have HI : Hid (r.take i = r) := List.take_of_length_le (by omega)
      go_wp2
      go_ret
      exact ⟨_, rfl, by rw [HI.out] at hown; exact hown.low HB1.out.size, HB1.out.trans (HB.out.mono HB1.out.size)⟩
end Go.Proofs.YtmcefflgbliehaaDoor
