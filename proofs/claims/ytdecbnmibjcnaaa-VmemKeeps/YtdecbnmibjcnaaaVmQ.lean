
/-
  A sheet is made and stored; what may be done with sheets is set: isProt and Protect keep their contracts.
-/
import Derived.Test.YtdecbnmibjcnaaaVmP
set_option linter.unusedVariables false
namespace Go.Proofs.Ytdecbnmibjcnaaa
open Go.RowKit Go.PlainAid
/-- A page that has just come to be. -/
def fresh (p : Int) : Sh := ⟨true, p, List.replicate 256 0⟩
theorem fresh_ok {p : Int} (h0 : 0 ≤ p) (h1 : p ≤ 7) : (fresh p).ok := ⟨h0, h1, List.length_replicate⟩
set_option maxRecDepth 100000 in
theorem run_fresh (p : Int) (w : World) : (Instr.build 88 #[(0, .bool true), (1, .int .i64 p)]).run Try.prog w = .ok (.agg (fresh p).cells.toArray) w := by
  kernel_rfl
theorem build_eq {ops : Array Oper} {rest : List Oper} {o : Oper} {a : Act} {Q : Exit → Act → World → Prop} {w : World} (hgd : o.guard = none) (t : TypeId) (parts : Array (Nat × Operand)) (ho : o.op = .build t parts) (v : Value)
    (hr : (Instr.build t (parts.map fun (i, x) => (i, a.eval x))).run Try.prog w = .ok v w) (h : wpList Try.prog ops Q rest (a.put o.dst v) w) : wpList Try.prog ops Q (o :: rest) a w := by
  refine wpList_plain hgd fun _ hK => ?_
  unfold Oper.wp execOp
  simp only [ho, Sem.run_bind, hr, Result.andThen_ok]
  exact hK _ _ h
theorem build_sheet {ops : Array Oper} {rest : List Oper} {o : Oper} {a : Act} {Q : Exit → Act → World → Prop} {w : World} (hgd : o.guard = none) (x : Operand) (ho : o.op = .build 88 #[(0, .const (.bool true)), (1, x)])
    (p : Int) (hx : a.eval x = .int .i64 p) (h : wpList Try.prog ops Q rest (a.put o.dst (.agg (fresh p).cells.toArray)) w) : wpList Try.prog ops Q (o :: rest) a w := by
  refine build_eq hgd _ _ ho _ ?_ h
  have e : (#[(0, .const (.bool true)), (1, x)] : Array (Nat × Operand)).map (fun (i, x) => (i, a.eval x)) = #[(0, .bool true), (1, .int .i64 p)] := by
    simp only [List.map_toArray, List.map_cons, List.map_nil, hx]
    rfl
  rw [e]
  exact run_fresh p w
/-- A whole sheet is stored into a row that is known. -/
theorem store_sheet {ops : Array Oper} {rest : List Oper} {o : Oper} {a : Act} {Q : Exit → Act → World → Prop} {w : World} (hgd : o.guard = none) (x y : Operand) (ho : o.op = .store 88 x y)
    (g j : Nat) (xs : List Value) (s : Sh) (hs : s.data.length = 256) (hh : Holds w g 88 xs) (hfit : j + 258 ≤ xs.length) (hx : a.eval x = .pointer (some ⟨g, j, none⟩)) (hy : a.eval y = .agg s.cells.toArray)
    (h : ∀ w', Holds w' g 88 (xs.take j ++ s.cells ++ xs.drop (j + 258)) → w.grownBy w' (some g) → wpList Try.prog ops Q rest (a.put o.dst undef) w') : wpList Try.prog ops Q (o :: rest) a w := by
  have hcl := s.cells_len hs
  obtain ⟨cur, hg, hp⟩ := id hh
  have hlen : j + 258 ≤ cur.size := by
    obtain ⟨r, hr⟩ := hp
    have : cur.toList.length = xs.length + r.length := by rw [← hr, List.length_append]
    simp at this; omega
  have hst := run_storeCells_at Try.prog g j 88 s.cells 0 cur w hg (by rw [hcl]; omega) (by
    intro v hv
    unfold Sh.cells at hv
    rcases List.mem_cons.1 hv with rfl | hv
    · rfl
    · rcases List.mem_cons.1 hv with rfl | hv
      · rfl
      · obtain ⟨b, _, rfl⟩ := List.mem_map.1 hv; rfl)
  have hr : (Instr.storeAt 88 (.pointer (some ⟨g, j, none⟩)) (.agg s.cells.toArray)).run Try.prog w = .ok () (w.setRow g (cur.toList.take j ++ s.cells ++ cur.toList.drop (j + 258)).toArray) := by
    have hsz : ∀ w, (Go.sizeOf 88).run Try.prog w = .ok 258 w := Try.sizeOf88
    simp only [Nat.add_zero, hcl] at hst
    simp only [Instr.storeAt, Instr.sureAddr, Sem.run_bind, Sem.run_pure, Result.andThen_ok, storeVar, hsz, Value.cells, List.size_toArray, hcl]
    simpa using hst
  refine wpList_plain hgd fun _ hK => ?_
  unfold Oper.wp execOp
  simp only [ho, hx, hy, Sem.run_bind, Sem.run_pure, Result.andThen_ok, hr]
  refine hK _ _ (h _ ?_ ⟨rfl, rfl, rfl, by simp, fun k _ hk => setRow_other w g k _ (fun e => hk (by rw [e]))⟩)
  have := hh.set j s.cells (by omega) cur hg
  rw [hcl] at this
  exact this
theorem vm_isProt (w : World) (p : Int) : Calls Try.prog 43 #[.int .i64 p] w fun e w' => e = .returned (.bool (decide (0 ≤ p ∧ p ≤ 7))) ∧ w = w' := by
  by_cases h0 : 0 ≤ p
  · by_cases h1 : p ≤ 7
    · rw [decide_eq_true ⟨h0, h1⟩]
      go_enter Try.func43, Try.ntmps43
      go_wp2
      go_ret
      exact ⟨rfl, rfl⟩
    · rw [decide_eq_false (fun h => h1 h.2)]
      go_enter Try.func43, Try.ntmps43
      go_wp2
      go_ret
      exact ⟨rfl, rfl⟩
  · rw [decide_eq_false (fun h => h0 h.1)]
    go_enter Try.func43, Try.ntmps43
    go_wp2
    go_ret
    exact ⟨rfl, rfl⟩
theorem flatS_prot (X Y : List Sh) (s : Sh) (hX : ∀ x ∈ X, x.data.length = 256) (p : Int) : (flatS (X ++ s :: Y)).set (X.length * 258 + 1) (.int .i64 p) = flatS (X ++ { s with prot := p } :: Y) := by
  have e : ∀ y : Sh, flatS (X ++ y :: Y) = flatS X ++ (y.cells ++ flatS Y) := fun y => by rw [flatS_app]; rfl
  rw [e, e, ← flatS_len X hX, List.set_append_right _ _ (by omega), show (flatS X).length + 1 - (flatS X).length = 1 by omega]
  rfl
theorem flatS_new (X Y : List Sh) (s t : Sh) (hX : ∀ x ∈ X, x.data.length = 256) (hs : s.data.length = 256) : (flatS (X ++ s :: Y)).take (X.length * 258) ++ t.cells ++ (flatS (X ++ s :: Y)).drop (X.length * 258 + 258) = flatS (X ++ t :: Y) := by
  have e : ∀ y : Sh, flatS (X ++ y :: Y) = flatS X ++ (y.cells ++ flatS Y) := fun y => by rw [flatS_app]; rfl
  have hl := s.cells_len hs
  rw [e, e, ← flatS_len X hX, List.take_left, List.drop_length_add_append, ← hl, List.drop_left]
  simp
/-- What holds between two rounds of a loop that turns each sheet by itself. -/
structure EachAt (f : Sh → Sh) (w wr : World) (g : Nat) (A M Z : List Sh) (i : Nat) (D R : List Sh) : Prop where
  len : D.length = i
  all : M = D ++ R
  holds : Holds wr g 88 (flatS (A ++ D.map f ++ (R ++ Z)))
  each : ∀ s ∈ A ++ D.map f ++ (R ++ Z), s.data.length = 256
  turn : Turn (· = g) w wr
def EachI (f : Sh → Sh) (w wr : World) (g : Nat) (A M Z : List Sh) (i : Nat) : Prop := ∃ D R, EachAt f w wr g A M Z i D R
theorem EachAt.step {f : Sh → Sh} {w wr w1 : World} {g : Nat} {A M Z : List Sh} {i : Nat} {D R : List Sh} {s : Sh} (h : EachAt f w wr g A M Z i D (s :: R)) (hf : (f s).data.length = 256)
    (h1 : Holds w1 g 88 (flatS (A ++ D.map f ++ (f s :: (R ++ Z))))) (h2 : Turn (· = g) wr w1) : EachI f w w1 g A M Z (i + 1) := by
  obtain ⟨a1, a2, a3, a4, a5⟩ := h
  refine ⟨D ++ [s], R, by simp [a1], by rw [a2]; simp, by simpa using h1, ?_, a5.trans h2⟩
  intro x hx
  simp only [List.map_append, List.map_cons, List.map_nil, List.mem_append, List.mem_singleton] at hx
  rcases hx with (hx | hx | rfl) | hx | hx
  · exact a4 x (by simp [hx])
  · exact a4 x (by simp only [List.mem_append]; exact .inl (.inr hx))
  · exact hf
  · exact a4 x (by simp [hx])
  · exact a4 x (by simp [hx])
end Go.Proofs.Ytdecbnmibjcnaaa
