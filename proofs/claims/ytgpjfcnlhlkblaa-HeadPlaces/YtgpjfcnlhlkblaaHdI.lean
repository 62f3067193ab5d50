
/-
  Layer 8 (head): laws for whole structs, and what Parse answers.
-/
import Derived.Test.YtgpjfcnlhlkblaaHdH
set_option linter.unusedVariables false
namespace Go.Proofs.Ytgpjfcnlhlkblaa
open Go.RowKit Go.PlainAid Go.Sort
theorem results_cell2 {P : Program} {fn : Func} {p u : Tmp} {ty : TypeId} (h : fn.results = #[.cell p ty, .tmp u]) (tmps : Array Value) (w : World) (g : Nat) (t : TypeId) (cs : Array Value) (fr : Nat × Nat) (d : TypeDesc)
    (hp : tmps.getD p undef = .pointer (some ⟨g, 0, none⟩)) (hg : w.heap[g]? = some (.cells cs t fr))
    (hu : P.underlying ty = some d) (hd : (match d with | .struct _ | .array _ _ => true | _ => false) = true) (hi : (P.info? ty).map (·.size) = some cs.size) :
    (results fn tmps).run P w = .ok (.tuple #[.agg cs, tmps.getD u undef]) w := by
  have hp' : tmps[p]?.getD undef = .pointer (some ⟨g, 0, none⟩) := by simpa using hp
  simp [results, h, hp', asAddr, run_loadVar_row w g t ty cs fr d hg hu hd hi]
/-- A part of a known row is stored. -/
theorem store_part {ops : Array Oper} {rest : List Oper} {o : Oper} {a : Act} {Q : Exit → Act → World → Prop} {w : World} (hgd : o.guard = none) (T : TypeId) (x y : Operand) (ho : o.op = .store T x y)
    (g k : Nat) (U : TypeId) (cur : Array Value) (cs : List Value) (new : Array Value) (hg : w.heap[g]? = some (.cells cur U (0, 0))) (hx : a.eval x = .pointer (some ⟨g, k, none⟩)) (hy : a.eval y = .agg cs.toArray)
    (hsz : ∀ w, (Go.sizeOf T).run Try.prog w = .ok cs.length w) (hone : ∀ v ∈ cs, v.oneCell' = true) (hfit : k + cs.length ≤ cur.size) (hnew : (cur.toList.take k ++ cs ++ cur.toList.drop (k + cs.length)).toArray = new)
    (h : ∀ w', w'.heap[g]? = some (.cells new U (0, 0)) → w.grownBy w' (some g) → wpList Try.prog ops Q rest (a.put o.dst undef) w') : wpList Try.prog ops Q (o :: rest) a w := by
  subst hnew
  have hst := run_storeCells_at Try.prog g k U cs 0 cur w hg (by simpa using hfit) hone
  have hr : (Instr.storeAt T (.pointer (some ⟨g, k, none⟩)) (.agg cs.toArray)).run Try.prog w = .ok () (w.setRow g (cur.toList.take k ++ cs ++ cur.toList.drop (k + cs.length)).toArray) := by
    simp only [Nat.add_zero] at hst
    simp only [Instr.storeAt, Instr.sureAddr, Sem.run_bind, Sem.run_pure, Result.andThen_ok, storeVar, hsz, Value.cells, List.size_toArray]
    simpa using hst
  refine wpList_plain hgd fun _ hK => ?_
  unfold Oper.wp execOp
  simp only [ho, hx, hy, Sem.run_bind, Sem.run_pure, Result.andThen_ok, hr]
  exact hK _ _ (h _ (setRow_heap w g _ _ _ _ hg) ⟨rfl, rfl, rfl, by simp, fun k _ hk => setRow_other w g k _ (fun e => hk (by rw [e]))⟩)
/-- A whole row is loaded. -/
theorem load_row {ops : Array Oper} {rest : List Oper} {o : Oper} {a : Act} {Q : Exit → Act → World → Prop} {w : World} (hgd : o.guard = none) (T : TypeId) (x : Operand) (ho : o.op = .load T x)
    (g : Nat) (cs : Array Value) (hr : (loadVar T ⟨g, 0, none⟩).run Try.prog w = .ok (.agg cs) w) (hx : a.eval x = .pointer (some ⟨g, 0, none⟩))
    (h : wpList Try.prog ops Q rest (a.put o.dst (.agg cs)) w) : wpList Try.prog ops Q (o :: rest) a w := by
  refine wpList_plain hgd fun _ hK => ?_
  unfold Oper.wp execOp
  simp only [ho, hx, Instr.loadAt, Instr.sureAddr, Sem.run_bind, Sem.run_pure, Result.andThen_ok, hr]
  exact hK _ _ h
theorem build_eq {ops : Array Oper} {rest : List Oper} {o : Oper} {a : Act} {Q : Exit → Act → World → Prop} {w : World} (hgd : o.guard = none) (t : TypeId) (parts : Array (Nat × Operand)) (ho : o.op = .build t parts) (v : Value)
    (hr : (Instr.build t (parts.map fun (i, x) => (i, a.eval x))).run Try.prog w = .ok v w) (h : wpList Try.prog ops Q rest (a.put o.dst v) w) : wpList Try.prog ops Q (o :: rest) a w := by
  refine wpList_plain hgd fun _ hK => ?_
  unfold Oper.wp execOp
  simp only [ho, Sem.run_bind, hr, Result.andThen_ok]
  exact hK _ _ h
def zeroHd : List Value := hdCells 0 (.slice none 0 0) noPh noPh
theorem hd_one (m : Nat) (a : Option Addr) (n cap : Nat) (d r : Ph) : ∀ u ∈ hdCells m (.slice a n cap) d r, u.oneCell' = true := by
  intro u hu
  simp only [hdCells, List.mem_cons, List.not_mem_nil, or_false] at hu
  rcases hu with rfl | rfl | rfl | rfl | rfl | rfl | rfl | rfl | rfl | rfl | rfl | rfl | rfl | rfl | rfl | rfl <;> rfl
theorem hd_size : ∀ w, (Go.sizeOf 37).run Try.prog w = .ok 16 w := Try.sizeOf37
/-- What Parse answers. -/
def ParseIs (w' : World) (B : Nat) (o : Except Nat Hd) (e : Ending) : Prop :=
  match o with
  | .error n => e = .returned (.tuple #[.agg zeroHd.toArray, .int .i64 n])
  | .ok h => ∃ v, e = .returned (.tuple #[.agg (hdCells h.machine v h.dynamic h.relro).toArray, .int .i64 0]) ∧ OwnH w' B v h.loads
theorem tab_ok {l : List UInt8} {all : List Ph} (h : tableZ l = .ok all) : (∀ p ∈ all, p.ok) ∧ all.length ≤ 16 := by
  unfold tableZ at h
  split at h
  · cases h
  · split at h
    · rename_i hf
      injection h with h
      subst h
      refine ⟨fun p hp => ?_, ?_⟩
      · unfold tabFrom at hp
        obtain ⟨i, _, rfl⟩ := List.mem_map.1 hp
        exact phAt_ok _ _
      · unfold fits at hf
        simp only [Bool.and_eq_true, decide_eq_true_eq] at hf
        simp only [tabFrom, List.length_map, List.length_range]
        omega
    · cases h
theorem ofT_ok {ps : List Ph} (h : ∀ p ∈ ps, p.ok) (k : Nat) : ∀ p ∈ ofT ps k, p.ok := fun p hp => h p (List.mem_filter.1 hp).1
theorem partOk_end {p : Ph} {size : Nat} (h : partOk p size = true) : p.vaddr ≤ endN p := by
  unfold partOk insN at h
  simp only [Bool.and_eq_true, decide_eq_true_eq] at h
  unfold endN
  rw [if_pos (by omega)]
  omega
theorem loadsFrom_part {size : Nat} : ∀ (b : Bool) (e : Nat) (ps : List Ph), loadsFrom size b e ps = true → ∀ p ∈ ps, partOk p size = true
  | _, _, [], _, p, hp => by simp at hp
  | b, e, q :: t, h, p, hp => by
    rw [loadsFrom] at h
    split at h
    · rename_i hc
      rcases List.mem_cons.1 hp with rfl | hp
      · exact hc.1
      · exact loadsFrom_part _ _ t h p hp
    · cases h
theorem loadsOk_end {ps : List Ph} {size : Nat} (h : loadsOk ps size = true) : ∀ p ∈ ps, p.vaddr ≤ endN p := fun p hp => by
  unfold loadsOk at h
  rw [Bool.and_eq_true] at h
  exact partOk_end (loadsFrom_part _ _ _ h.1 p hp)
theorem cells_of_block {w : World} {g : Nat} {cs : Array Value} {T : TypeId} (h : w.heap[g]? = some (.cells cs T (0, 0))) (k : Nat) (u : Value) (hu : cs[k]? = some u) : w.cell? ⟨g, k, none⟩ = some u := by
  rw [cell_of_row w g k cs T (0, 0) h]; exact hu
theorem load_hd {w : World} {g : Nat} {cs : Array Value} (h : w.heap[g]? = some (.cells cs 37 (0, 0))) (hs : cs.size = 16) : (loadVar 37 ⟨g, 0, none⟩).run Try.prog w = .ok (.agg cs) w :=
  run_loadVar_row (P := Try.prog) w g _ _ cs (0, 0) _ h Try.underlying37 rfl (by rw [hs]; kernel_rfl)
theorem block_stay {w w' : World} {g : Nat} {o : Obj} (h : w.heap[g]? = some o) (hb : Below w.heap.size w w') : w'.heap[g]? = some o := by
  rw [hb.block g (Array.getElem?_eq_some_iff.1 h).1]; exact h
theorem OwnH.grown {w w' : World} {B R : Nat} {v : Value} {l : List Ph} (h : OwnH w B v l) (hb : w.grownBy w' (some R)) (hR : R < B) : OwnH w' B v l := by
  unfold OwnH at h ⊢
  refine ⟨h.1, ?_⟩
  rcases h.2 with hn | ⟨g, cap, cur, rfl, hB, hg, rest⟩
  · exact .inl hn
  · refine .inr ⟨g, cap, cur, rfl, hB, ?_, rest⟩
    rw [hb.block g (Array.getElem?_eq_some_iff.1 hg).1 (fun e => by injection e with e; omega)]; exact hg
theorem ph_size : ∀ w, (Go.sizeOf 32).run Try.prog w = .ok 7 w := Try.sizeOf32
end Go.Proofs.Ytgpjfcnlhlkblaa
