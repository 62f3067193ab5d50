
/-
  Sheets in memory; slices.IndexFunc and slices.ContainsFunc over them, and the three questions that are asked.
-/
import Derived.Test.YtdecbnmibjcnaaaVmE
set_option linter.unusedVariables false
namespace Go.Proofs.Ytdecbnmibjcnaaa
open Go.RowKit Go.PlainAid Go.Sort
theorem Sh.cells_len (s : Sh) (h : s.data.length = 256) : s.cells.length = 258 := by simp [Sh.cells, h]
theorem Sh.cell0 (s : Sh) : s.cells.toArray[0]? = some (.bool s.there) := rfl
theorem Sh.cell1 (s : Sh) : s.cells.toArray[1]? = some (.int .i64 s.prot) := rfl
theorem flatS_len (l : List Sh) (h : ∀ s ∈ l, s.data.length = 256) : (flatS l).length = l.length * 258 := by
  induction l with
  | nil => rfl
  | cons s l ih =>
    have h1 := ih fun x hx => h x (List.mem_cons_of_mem _ hx)
    have h2 := s.cells_len (h s List.mem_cons_self)
    have e : flatS (s :: l) = s.cells ++ flatS l := rfl
    rw [e, List.length_append, h1, h2, List.length_cons]; omega
theorem flatS_get (l : List Sh) (h : ∀ s ∈ l, s.data.length = 256) (i : Nat) (hi : i < l.length) (k : Nat) (hk : k < 258) : (flatS l)[i * 258 + k]? = l[i].cells[k]? := by
  induction l generalizing i with
  | nil => simp at hi
  | cons s l ih =>
    have h2 := s.cells_len (h s List.mem_cons_self)
    have e : flatS (s :: l) = s.cells ++ flatS l := rfl
    cases i with
    | zero => rw [e, Nat.zero_mul, Nat.zero_add, List.getElem?_append_left (by omega)]; rfl
    | succ i =>
      rw [e, List.getElem?_append_right (by omega), h2, show (i + 1) * 258 + k - 258 = i * 258 + k by omega]
      exact ih (fun x hx => h x (List.mem_cons_of_mem _ hx)) i (by simpa using hi)
theorem Holds.cell {w : World} {g : Nat} {t : TypeId} {xs : List Value} (h : Holds w g t xs) (j : Nat) (v : Value) (hj : xs[j]? = some v) : w.cell? ⟨g, j, none⟩ = some v := by
  obtain ⟨cur, h1, h2⟩ := h
  have : cur.toList[j]? = some v := by
    obtain ⟨r, hr⟩ := h2
    rw [← hr, List.getElem?_append_left (List.getElem?_eq_some_iff.1 hj).1]; exact hj
  simp [World.cell?, h1]
  simpa using this
theorem Holds.lt {w : World} {g : Nat} {t : TypeId} {xs : List Value} (h : Holds w g t xs) : g < w.heap.size := by
  obtain ⟨cur, h1, h2⟩ := h
  exact (Array.getElem?_eq_some_iff.1 h1).1
theorem Holds.stay {w w' : World} {g : Nat} {t : TypeId} {xs : List Value} (h : Holds w g t xs) (hb : Below w.heap.size w w') : Holds w' g t xs := by
  have hl := h.lt
  obtain ⟨cur, h1, h2⟩ := h
  exact ⟨cur, by rw [hb.block g hl]; exact h1, h2⟩
theorem Holds.sheet {w : World} {g : Nat} {t : TypeId} {l : List Sh} (h : Holds w g t (flatS l)) (hl : ∀ s ∈ l, s.data.length = 256) (i : Nat) (hi : i < l.length) : w.rangeAt g (i * 258) l[i].cells := fun j v hv => by
  have hj : j < 258 := by rw [← (l[i]).cells_len (hl _ (List.getElem_mem hi))]; exact (List.getElem?_eq_some_iff.1 hv).1
  exact h.cell _ _ (by rw [flatS_get l hl i hi j hj]; exact hv)
/-- A load of a whole sheet. -/
theorem load_sheet {ops : Array Oper} {rest : List Oper} {o : Oper} {a : Act} {Q : Exit → Act → World → Prop} {w : World} (hgd : o.guard = none) (x : Operand) (ho : o.op = .load 88 x)
    (g j : Nat) (s : Sh) (hs : s.data.length = 256) (hc : w.rangeAt g j s.cells) (hx : a.eval x = .pointer (some ⟨g, j, none⟩))
    (h : wpList Try.prog ops Q rest (a.put o.dst (.agg s.cells.toArray)) w) : wpList Try.prog ops Q (o :: rest) a w :=
  wpList_load_mid (P := Try.prog) hgd 88 x ho g j hx s.cells _ hc Try.underlying88 rfl (by rw [s.cells_len hs]; kernel_rfl) h
set_option maxHeartbeats 1000000 in
theorem vm_Map1 (w : World) (s : Sh) :
    Calls Try.prog 46 #[.agg s.cells.toArray] w fun e w' => e = .returned (.bool s.there) ∧ Below w.heap.size w w' := by
  have h0 := s.cell0
  have hb : Below w.heap.size w (w.alloc (.cells s.cells.toArray 88)) := (Below.refl _ w).alloc (Nat.le_refl _) _
  have hc : (w.alloc (.cells s.cells.toArray 88)).cell? ⟨w.heap.size, 0, none⟩ = some (.bool s.there) := by rw [World.cell?_alloc_at _ _ _ _ (by simp)]; exact h0
  have HB : Hid _ := hb
  clear hb h0
  generalize s.cells.toArray = cs at *
  go_enter Try.func46, Try.ntmps46
  go_wp2
  go_ret
  exact ⟨rfl, HB.out⟩
set_option maxHeartbeats 1000000 in
theorem vm_present1 (w : World) (s : Sh) :
    Calls Try.prog 56 #[.agg s.cells.toArray] w fun e w' => e = .returned (.bool (!s.there)) ∧ Below w.heap.size w w' := by
  have h0 := s.cell0
  have hb : Below w.heap.size w (w.alloc (.cells s.cells.toArray 88)) := (Below.refl _ w).alloc (Nat.le_refl _) _
  have hc : (w.alloc (.cells s.cells.toArray 88)).cell? ⟨w.heap.size, 0, none⟩ = some (.bool s.there) := by rw [World.cell?_alloc_at _ _ _ _ (by simp)]; exact h0
  have HB : Hid _ := hb
  clear hb h0
  generalize s.cells.toArray = cs at *
  go_enter Try.func56, Try.ntmps56
  go_wp2
  go_ret
  exact ⟨rfl, HB.out⟩
/-- Does it lack what is asked? -/
def lacks (t : Nat) (s : Sh) : Bool := (s.prot.toNat &&& t) == 0
set_option maxHeartbeats 1000000 in
theorem vm_allowed1 (w : World) (s : Sh) (hs : s.ok) (B : Nat) (t : Nat) (ht : t = 4 ∨ t = 2) (hB : w.cell? ⟨B, 0, none⟩ = some (.int .i64 t)) :
    Calls Try.prog 50 #[.agg s.cells.toArray, .pointer (some ⟨B, 0, none⟩)] w fun e w' => e = .returned (.bool (lacks t s)) ∧ Below w.heap.size w w' := by
  have h0 := s.cell1
  have hlt := World.block_lt_of_cell? _ _ hB
  have hlt2 : B < w.heap.size := hlt
  have hb : Below w.heap.size w (w.alloc (.cells s.cells.toArray 88)) := (Below.refl _ w).alloc (Nat.le_refl _) _
  have HB : Hid _ := hb
  have hp0 := hs.p0
  have hp1 := hs.p1
  clear hb hs
  unfold lacks
  generalize s.cells.toArray = cs at *
  generalize s.prot = p at *
  obtain ⟨n, rfl⟩ : ∃ n : Nat, p = n := ⟨p.toNat, by omega⟩
  have hn : n = 0 ∨ n = 1 ∨ n = 2 ∨ n = 3 ∨ n = 4 ∨ n = 5 ∨ n = 6 ∨ n = 7 := by omega
  clear hp0 hp1 hlt
  rcases ht with rfl | rfl <;> rcases hn with rfl | rfl | rfl | rfl | rfl | rfl | rfl | rfl
  all_goals
    go_enter Try.func50, Try.ntmps50
    go_wp2
    go_ret
    exact ⟨rfl, HB.out⟩
set_option maxHeartbeats 2000000 in
theorem lib_IndexFunc (w : World) (G : Nat) (cb : Array Value) (p : Sh → Bool) (eg : ∀ args w, (callFunc G args).run Try.prog w = .ok (.enter G args) w) (g o cap : Nat) (zs : List Sh)
    (hz : ∀ s ∈ zs, s.data.length = 256) (hl : zs.length ≤ 1024) (hg : g < w.heap.size) (hc : ∀ i (h : i < zs.length), w.rangeAt g (o + i * 258) zs[i].cells)
    (hf : ∀ (W : World) (s : Sh), s ∈ zs → Below w.heap.size w W → Calls Try.prog G (#[.agg s.cells.toArray] ++ cb) W fun e w' => e = .returned (.bool (p s)) ∧ Below w.heap.size w w') :
    Calls Try.prog 55 #[.slice (some ⟨g, o, none⟩) zs.length cap, .func (.func G) #[] cb] w fun e w' => (∃ k : Int, e = .returned (.int .i64 k) ∧ (decide (0 ≤ k)) = zs.any p) ∧ Below w.heap.size w w' := by
  have HF : Hid _ := hf
  have HC : Hid _ := hc
  have HZ : Hid _ := hz
  clear hf hc hz
  go_enter Try.func55, Try.ntmps55
  go_wp2
  go_loopw [5, 8] (fun _ vi wr => ∃ i : Nat, i ≤ zs.length ∧ vi = .int .i64 i ∧ Hid (Below w.heap.size w wr) ∧ Hid ((zs.take i).any p = false)) (fun _ vi _ => zs.length - (intOf vi).toNat)
  case atStart => exact ⟨0, by omega, rfl, Below.refl _ _, rfl⟩
  case round =>
    obtain ⟨i, hi, rfl, HB, HA⟩ := hrel
    by_cases hlt : i < zs.length
    · have hltI : (i : Int) < (zs.length : Int) := by omega
      have hr : wr.rangeAt g (o + i * 258) zs[i].cells := fun j v hv => by
        rw [HB.out.cell (p := ⟨g, o + i * 258 + j, none⟩) hg]; exact HC.out i hlt j v hv
      have hd := HZ.out _ (List.getElem_mem hlt)
      have hcall := HF.out wr zs[i] (List.getElem_mem hlt) HB.out
      have hnx : (zs.take (i + 1)).any p = ((zs.take i).any p || p zs[i]) := by
        rw [List.take_add_one, List.getElem?_eq_getElem hlt, List.any_append]; simp
      rw [HA.out, Bool.false_or] at hnx
      cases hp : p zs[i] with
      | true =>
        rw [hp] at hcall hnx
        have HN : Hid (zs.any p = true) := List.any_eq_true.2 ⟨zs[i], List.getElem_mem hlt, hp⟩
        clear hp hnx
        generalize zs[i] = s at *
        go_wp2_with (first | (refine load_sheet rfl _ rfl g (o + i * 258) s hd hr rfl ?_) | (go_at_fn G; refine hcall.mono ?_; rintro e w1 ⟨rfl, hb⟩))
        go_ret
        exact ⟨⟨i, rfl, by rw [HN.out]; simp⟩, hb⟩
      | false =>
        rw [hp] at hcall hnx
        have HN : Hid ((zs.take (i + 1)).any p = false) := hnx
        clear hp hnx
        generalize zs[i] = s at *
        go_wp2_with (first | (refine load_sheet rfl _ rfl g (o + i * 258) s hd hr rfl ?_) | (go_at_fn G; refine hcall.mono ?_; rintro e w1 ⟨rfl, hb⟩))
        go_roundw
        case rel => exact ⟨i + 1, by omega, by go_num, hb, HN⟩
        case measure => simp [intOf]; omega
    · have hltI : ¬ (i : Int) < (zs.length : Int) := by omega
      have he : i = zs.length := by omega
      subst he
      rw [List.take_length] at HA
      go_wp2
      go_ret
      exact ⟨⟨-1, rfl, by rw [HA.out]; rfl⟩, HB.out⟩
end Go.Proofs.Ytdecbnmibjcnaaa
