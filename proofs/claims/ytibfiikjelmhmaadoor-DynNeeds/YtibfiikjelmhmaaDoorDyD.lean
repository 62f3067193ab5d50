
/-
  Layer 9's reference: how often a tag is there, its value, the rows of tags.
-/
import Derived.Test.YtibfiikjelmhmaaDoorDyB
import Derived.Test.YtibfiikjelmhmaaDoorHdX
set_option linter.unusedVariables false
namespace Go.Proofs.YtibfiikjelmhmaaDoor
open Go.RowKit Go.PlainAid Go.Sort
/-- How often a tag is there. -/
def cntT (E : List De) (t : Nat) : Nat := (E.filter fun e => decide (e.tag = t)).length
/-- The value of the first one. -/
def valT : List De → Nat → Nat
  | [], _ => 0
  | e :: r, t => if e.tag = t then e.val else valT r t
theorem cnt_le (E : List De) (t : Nat) : cntT E t ≤ E.length := List.length_filter_le _ _
theorem cnt_snoc {E : List De} {i : Nat} (h : i < E.length) (t : Nat) : cntT (E.take (i + 1)) t = cntT (E.take i) t + (if E[i].tag = t then 1 else 0) := by
  unfold cntT
  rw [List.take_add_one, List.getElem?_eq_getElem h, List.filter_append, List.length_append]
  congr 1
  simp only [Option.toList_some, List.filter_cons, List.filter_nil, decide_eq_true_eq]
  split <;> rfl
theorem val_drop {E : List De} {i : Nat} (h : i < E.length) (t : Nat) : valT (E.drop i) t = if E[i].tag = t then E[i].val else valT (E.drop (i + 1)) t := by
  rw [List.drop_eq_getElem_cons h]; rfl
theorem val_le {E : List De} (h : ∀ e ∈ E, e.ok) (t : Nat) : (valT E t : Int) ≤ 18446744073709551615 := by
  induction E with
  | nil => simp [valT]
  | cons e r ih =>
    unfold valT
    split
    · exact (h e (by simp)).val
    · exact ih (fun x hx => h x (by simp [hx]))
set_option maxHeartbeats 1000000 in
theorem ref9_count (w : World) (v : Value) (E : List De) (h : ArgD w v E) (t : Nat) :
    Calls Tryd.prog 33 #[v, .int .u64 t] w fun e w' => e = .returned (.int .i64 (cntT E t : Nat)) ∧ w = w' := by
  have HA := hide h
  obtain ⟨a, cap, rfl⟩ := h.form
  have hl := h.1
  clear h
  go_enter Tryd.func33, Tryd.ntmps33
  go_wp2
  go_loopw [5, 6] (fun v5 v6 wr => wr = w ∧ ∃ i : Nat, i ≤ E.length ∧ v6 = .int .i64 i ∧ v5 = .int .i64 (cntT (E.take i) t : Nat)) (fun _ v6 _ => E.length - (intOf v6).toNat)
  case atStart => exact ⟨rfl, 0, by omega, rfl, rfl⟩
  case round =>
    obtain ⟨rfl, i, hi, rfl, rfl⟩ := hrel
    by_cases hlt : i < E.length
    · have hltI : (i : Int) < (E.length : Int) := by omega
      obtain ⟨g, rfl, p1, p2, _, y0, y1⟩ := HA.out.at i hlt
      have HS := hide (cnt_snoc hlt t)
      have hc := cnt_le (E.take i) t
      rw [List.length_take] at hc
      obtain ⟨c, hcc⟩ : ∃ c, cntT (E.take i) t = c := ⟨_, rfl⟩
      rw [hcc] at hc HS ⊢
      have hcI : (c : Int) ≤ 65536 := by omega
      generalize E[i] = e at *
      clear hcc
      by_cases ht : e.tag = t
      · have HS2 : Hid (cntT (E.take (i + 1)) t = c + 1) := by rw [Hid, HS.out, if_pos ht]
        have hb : ((e.tag : Int) == (t : Int)) = true := by rw [ht]; simp
        clear HS ht
        go_wp2
        go_roundw
        case rel => exact ⟨trivial, i + 1, by omega, by go_num, by rw [HS2.out]; go_num⟩
        case measure => simp [intOf]; omega
      · have HS2 : Hid (cntT (E.take (i + 1)) t = c) := by rw [Hid, HS.out, if_neg ht]; rfl
        have hb : ((e.tag : Int) == (t : Int)) = false := by simp; omega
        clear HS ht
        go_wp2
        go_roundw
        case rel => exact ⟨trivial, i + 1, by omega, by go_num, by rw [HS2.out]⟩
        case measure => simp [intOf]; omega
    · have hltI : ¬ (i : Int) < (E.length : Int) := by omega
      have he : i = E.length := by omega
      subst he
      rw [List.take_length]
      go_wp2
      go_ret
      exact ⟨rfl, rfl⟩
set_option maxHeartbeats 1000000 in
theorem ref9_value (w : World) (v : Value) (E : List De) (h : ArgD w v E) (t : Nat) :
    Calls Tryd.prog 34 #[v, .int .u64 t] w fun e w' => e = .returned (.int .u64 (valT E t : Nat)) ∧ w = w' := by
  have HA := hide h
  obtain ⟨a, cap, rfl⟩ := h.form
  have hl := h.1
  obtain ⟨O, hO⟩ : ∃ O, valT E t = O := ⟨_, rfl⟩
  rw [hO]
  have HO : Hid (valT (E.drop 0) t = O) := hO
  clear h hO
  go_enter Tryd.func34, Tryd.ntmps34
  go_wp2
  go_loopw [5] (fun v5 wr => wr = w ∧ ∃ i : Nat, i ≤ E.length ∧ v5 = .int .i64 i ∧ Hid (valT (E.drop i) t = O)) (fun v5 _ => E.length - (intOf v5).toNat)
  case atStart => exact ⟨rfl, 0, by omega, rfl, HO⟩
  case round =>
    obtain ⟨rfl, i, hi, rfl, HR⟩ := hrel
    by_cases hlt : i < E.length
    · have hltI : (i : Int) < (E.length : Int) := by omega
      obtain ⟨g, rfl, p1, p2, _, y0, y1⟩ := HA.out.at i hlt
      have hr := HR.out
      rw [val_drop hlt] at hr
      clear HR
      generalize E[i] = e at *
      by_cases ht : e.tag = t
      · rw [if_pos ht] at hr
        have HF := hide hr
        have hb : ((e.tag : Int) == (t : Int)) = true := by rw [ht]; simp
        clear hr ht
        go_wp2
        go_ret
        exact ⟨by rw [← HF.out]; rfl, rfl⟩
      · rw [if_neg ht] at hr
        have HF := hide hr
        have hb : ((e.tag : Int) == (t : Int)) = false := by simp; omega
        clear hr ht
        go_wp2
        go_roundw
        case rel => exact ⟨trivial, i + 1, by omega, by go_num, HF⟩
        case measure => simp [intOf]; omega
    · have hltI : ¬ (i : Int) < (E.length : Int) := by omega
      have he : i = E.length := by omega
      subst he
      have HF : Hid (0 = O) := by have := HR.out; rw [List.drop_length] at this; exact this
      go_wp2
      go_ret
      exact ⟨by rw [← HF.out]; rfl, rfl⟩
/-- The tags that belong together. -/
def pairsL : List De := [⟨5, 10⟩, ⟨17, 18⟩, ⟨7, 8⟩, ⟨23, 2⟩, ⟨36, 35⟩, ⟨1610612751, 1610612752⟩, ⟨1610612753, 1610612754⟩, ⟨25, 27⟩, ⟨26, 28⟩, ⟨1879048188, 1879048189⟩, ⟨1879048190, 1879048191⟩, ⟨23, 20⟩]
/-- The tags that have one value. -/
def fixedL : List De := [⟨11, 24⟩, ⟨9, 24⟩, ⟨19, 16⟩, ⟨37, 8⟩]
theorem ArgD.of_block {w : World} {g : Nat} {ps : List De} {T : TypeId} (h : w.heap[g]? = some (.cells (flatD ps).toArray T (0, 0))) (hl : ps.length ≤ 65536) : ArgD w (.slice (some ⟨g, 0, none⟩) ps.length ps.length) ps := by
  refine ⟨hl, .inr ⟨g, ps.length, rfl, Nat.le_refl _, by unfold maxLen; omega, (Array.getElem?_eq_some_iff.1 h).1, fun j hj k hk => ?_⟩⟩
  have hlen : k < ps[j].cells.length := hk
  have e := flatD_get ps j hj k hk
  rw [List.getElem?_eq_getElem hlen] at e ⊢
  exact cells_of_block h (j * 2 + k) _ (by simpa using e)
set_option maxHeartbeats 1000000 in
theorem ref9_pairs (w : World) : Calls Tryd.prog 49 #[] w fun e w' => e = .returned (.slice (some ⟨w.heap.size, 0, none⟩) 12 12) ∧ ArgD w' (.slice (some ⟨w.heap.size, 0, none⟩) 12 12) pairsL ∧ Below w.heap.size w w' ∧ w.heap.size < w'.heap.size := by
  have HB : Hid (Below w.heap.size w (w.alloc (.cells (flatD pairsL).toArray 92))) := (Below.refl _ _).alloc (Nat.le_refl _) _
  have HA : Hid (ArgD (w.alloc (.cells (flatD pairsL).toArray 92)) (.slice (some ⟨w.heap.size, 0, none⟩) 12 12) pairsL) := ArgD.of_block (heap_alloc_new _ _) (by decide)
  have HL : Hid (w.heap.size < (w.alloc (.cells (flatD pairsL).toArray 92)).heap.size) := by simp [Hid]
  go_enter Tryd.func49, Tryd.ntmps49
  go_wp2
  go_ret
  exact ⟨rfl, HA.out, HB.out, HL.out⟩
set_option maxHeartbeats 1000000 in
theorem ref9_fixed (w : World) : Calls Tryd.prog 50 #[] w fun e w' => e = .returned (.slice (some ⟨w.heap.size, 0, none⟩) 4 4) ∧ ArgD w' (.slice (some ⟨w.heap.size, 0, none⟩) 4 4) fixedL ∧ Below w.heap.size w w' ∧ w.heap.size < w'.heap.size := by
  have HB : Hid (Below w.heap.size w (w.alloc (.cells (flatD fixedL).toArray 92))) := (Below.refl _ _).alloc (Nat.le_refl _) _
  have HA : Hid (ArgD (w.alloc (.cells (flatD fixedL).toArray 92)) (.slice (some ⟨w.heap.size, 0, none⟩) 4 4) fixedL) := ArgD.of_block (heap_alloc_new _ _) (by decide)
  have HL : Hid (w.heap.size < (w.alloc (.cells (flatD fixedL).toArray 92)).heap.size) := by simp [Hid]
  go_enter Tryd.func50, Tryd.ntmps50
  go_wp2
  go_ret
  exact ⟨rfl, HA.out, HB.out, HL.out⟩
end Go.Proofs.YtibfiikjelmhmaaDoor
