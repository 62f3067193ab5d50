
/-
  HdI HdJ HdK HdL HdP HdQ
-/
import Derived.Test.YtdclofiifcpkkaaHdOne
import Derived.KernelRfl
set_option linter.unusedVariables false
namespace Go.Proofs.Ytdclofiifcpkkaa
open Go.RowKit Go.PlainAid Go.Sort
theorem results_cell2 {P : Program} {fn : Func} {p u : Tmp} {ty : TypeId} (h : fn.results = #[.cell p ty, .tmp u]) (tmps : Array Value) (w : World) (g : Nat) (t : TypeId) (cs : Array Value) (fr : Nat × Nat) (d : TypeDesc)
    (hp : tmps.getD p undef = .pointer (some ⟨g, 0, none⟩)) (hg : w.heap[g]? = some (.cells cs t fr))
    (hu : P.underlying ty = some d) (hd : (match d with | .struct _ | .array _ _ => true | _ => false) = true) (hi : (P.info? ty).map (·.size) = some cs.size) :
    (results fn tmps).run P w = .ok (.tuple #[.agg cs, tmps.getD u undef]) w := by
  have hp' : tmps[p]?.getD undef = .pointer (some ⟨g, 0, none⟩) := by simpa using hp
  simp [results, h, hp', asAddr, run_loadVar_row w g t ty cs fr d hg hu hd hi]
/-- A part of a known row is stored. -/
theorem store_part {ops : Array Oper} {rest : List Oper} {o : Oper} {a : Act} {Q : Exit → Act → World → Prop} {w : World} (hgd : o.guard = none) (T : TypeId) (x y : Operand) (ho : o.op = .store T x y)
    (g k : Nat) (U : TypeId) (cur : Array Value) (cs : List Value) (new : Array Value) (hg : w.heap[g]? = some (.cells cur U (0, 0))) (hx : a.eval x = .pointer (some ⟨g, k, none⟩)) (hy : a.eval y = .agg cs.toArray)
    (hsz : ∀ w, (Go.sizeOf T).run Try.prog w = .ok cs.length w) (hone : ∀ v ∈ cs, v.oneCell' = true) (hfit : k + cs.length ≤ cur.size) (hnew : (cur.toList.take k ++ cs ++ cur.toList.drop (k + cs.length)).toArray = new)
    (h : ∀ w', w'.heap[g]? = some (.cells new U (0, 0)) → w.grownBy w' (some g) → wpList Try.prog ops Q rest (a.put o.dst undef) w') : wpList Try.prog ops Q (o :: rest) a w := by
  subst hnew
  have hst := run_storeCells_at Try.prog g k U cs 0 cur w hg (by simpa using hfit) hone
  have hr : (Instr.storeAt T (.pointer (some ⟨g, k, none⟩)) (.agg cs.toArray)).run Try.prog w = .ok () (w.setRow g (cur.toList.take k ++ cs ++ cur.toList.drop (k + cs.length)).toArray) := by
    simp only [Nat.add_zero] at hst
    simp only [Instr.storeAt, Instr.sureAddr, Sem.run_bind, Sem.run_pure, Result.andThen_ok, storeVar, hsz, Value.cells, List.size_toArray]
    simpa using hst
  refine wpList_plain hgd fun _ hK => ?_
  unfold Oper.wp execOp
  simp only [ho, hx, hy, Sem.run_bind, Sem.run_pure, Result.andThen_ok, hr]
  exact hK _ _ (h _ (setRow_heap w g _ _ _ _ hg) ⟨rfl, rfl, rfl, by simp, fun k _ hk => setRow_other w g k _ (fun e => hk (by rw [e]))⟩)
/-- A whole row is loaded. -/
theorem load_row {ops : Array Oper} {rest : List Oper} {o : Oper} {a : Act} {Q : Exit → Act → World → Prop} {w : World} (hgd : o.guard = none) (T : TypeId) (x : Operand) (ho : o.op = .load T x)
    (g : Nat) (cs : Array Value) (hr : (loadVar T ⟨g, 0, none⟩).run Try.prog w = .ok (.agg cs) w) (hx : a.eval x = .pointer (some ⟨g, 0, none⟩))
    (h : wpList Try.prog ops Q rest (a.put o.dst (.agg cs)) w) : wpList Try.prog ops Q (o :: rest) a w := by
  refine wpList_plain hgd fun _ hK => ?_
  unfold Oper.wp execOp
  simp only [ho, hx, Instr.loadAt, Instr.sureAddr, Sem.run_bind, Sem.run_pure, Result.andThen_ok, hr]
  exact hK _ _ h
theorem build_eq {ops : Array Oper} {rest : List Oper} {o : Oper} {a : Act} {Q : Exit → Act → World → Prop} {w : World} (hgd : o.guard = none) (t : TypeId) (parts : Array (Nat × Operand)) (ho : o.op = .build t parts) (v : Value)
    (hr : (Instr.build t (parts.map fun (i, x) => (i, a.eval x))).run Try.prog w = .ok v w) (h : wpList Try.prog ops Q rest (a.put o.dst v) w) : wpList Try.prog ops Q (o :: rest) a w := by
  refine wpList_plain hgd fun _ hK => ?_
  unfold Oper.wp execOp
  simp only [ho, Sem.run_bind, hr, Result.andThen_ok]
  exact hK _ _ h
def zeroHd : List Value := hdCells 0 (.slice none 0 0) noPh noPh
theorem hd_one (m : Nat) (a : Option Addr) (n cap : Nat) (d r : Ph) : ∀ u ∈ hdCells m (.slice a n cap) d r, u.oneCell' = true := by
  intro u hu
  simp only [hdCells, List.mem_cons, List.not_mem_nil, or_false] at hu
  rcases hu with rfl | rfl | rfl | rfl | rfl | rfl | rfl | rfl | rfl | rfl | rfl | rfl | rfl | rfl | rfl | rfl <;> rfl
theorem hd_size : ∀ w, (Go.sizeOf 30).run Try.prog w = .ok 16 w := Try.sizeOf30
/-- What Parse answers. -/
def ParseIs (w' : World) (B : Nat) (o : Except Nat Hd) (e : Ending) : Prop :=
  match o with
  | .error n => e = .returned (.tuple #[.agg zeroHd.toArray, .int .i64 n])
  | .ok h => ∃ v, e = .returned (.tuple #[.agg (hdCells h.machine v h.dynamic h.relro).toArray, .int .i64 0]) ∧ OwnH w' B v h.loads
theorem tab_ok {l : List UInt8} {all : List Ph} (h : tableZ l = .ok all) : (∀ p ∈ all, p.ok) ∧ all.length ≤ 16 := by
  unfold tableZ at h
  split at h
  · cases h
  · split at h
    · rename_i hf
      injection h with h
      subst h
      refine ⟨fun p hp => ?_, ?_⟩
      · unfold tabFrom at hp
        obtain ⟨i, _, rfl⟩ := List.mem_map.1 hp
        exact phAt_ok _ _
      · unfold fits at hf
        simp only [Bool.and_eq_true, decide_eq_true_eq] at hf
        simp only [tabFrom, List.length_map, List.length_range]
        omega
    · cases h
theorem ofT_ok {ps : List Ph} (h : ∀ p ∈ ps, p.ok) (k : Nat) : ∀ p ∈ ofT ps k, p.ok := fun p hp => h p (List.mem_filter.1 hp).1
theorem partOk_end {p : Ph} {size : Nat} (h : partOk p size = true) : p.vaddr ≤ endN p := by
  unfold partOk insN at h
  simp only [Bool.and_eq_true, decide_eq_true_eq] at h
  unfold endN
  rw [if_pos (by omega)]
  omega
theorem loadsFrom_part {size : Nat} : ∀ (b : Bool) (e : Nat) (ps : List Ph), loadsFrom size b e ps = true → ∀ p ∈ ps, partOk p size = true
  | _, _, [], _, p, hp => by simp at hp
  | b, e, q :: t, h, p, hp => by
    rw [loadsFrom] at h
    split at h
    · rename_i hc
      rcases List.mem_cons.1 hp with rfl | hp
      · exact hc.1
      · exact loadsFrom_part _ _ t h p hp
    · cases h
theorem loadsOk_end {ps : List Ph} {size : Nat} (h : loadsOk ps size = true) : ∀ p ∈ ps, p.vaddr ≤ endN p := fun p hp => by
  unfold loadsOk at h
  rw [Bool.and_eq_true] at h
  exact partOk_end (loadsFrom_part _ _ _ h.1 p hp)
theorem cells_of_block {w : World} {g : Nat} {cs : Array Value} {T : TypeId} (h : w.heap[g]? = some (.cells cs T (0, 0))) (k : Nat) (u : Value) (hu : cs[k]? = some u) : w.cell? ⟨g, k, none⟩ = some u := by
  rw [cell_of_row w g k cs T (0, 0) h]; exact hu
theorem load_hd {w : World} {g : Nat} {cs : Array Value} (h : w.heap[g]? = some (.cells cs 30 (0, 0))) (hs : cs.size = 16) : (loadVar 30 ⟨g, 0, none⟩).run Try.prog w = .ok (.agg cs) w :=
  run_loadVar_row (P := Try.prog) w g _ _ cs (0, 0) _ h Try.underlying30 rfl (by rw [hs]; kernel_rfl)
theorem block_stay {w w' : World} {g : Nat} {o : Obj} (h : w.heap[g]? = some o) (hb : Below w.heap.size w w') : w'.heap[g]? = some o := by
  rw [hb.block g (Array.getElem?_eq_some_iff.1 h).1]; exact h
theorem OwnH.grown {w w' : World} {B R : Nat} {v : Value} {l : List Ph} (h : OwnH w B v l) (hb : w.grownBy w' (some R)) (hR : R < B) : OwnH w' B v l := by
  unfold OwnH at h ⊢
  refine ⟨h.1, ?_⟩
  rcases h.2 with hn | ⟨g, cap, cur, rfl, hB, hg, rest⟩
  · exact .inl hn
  · refine .inr ⟨g, cap, cur, rfl, hB, ?_, rest⟩
    rw [hb.block g (Array.getElem?_eq_some_iff.1 hg).1 (fun e => by injection e with e; omega)]; exact hg
theorem ph_size : ∀ w, (Go.sizeOf 28).run Try.prog w = .ok 7 w := Try.sizeOf28
end Go.Proofs.Ytdclofiifcpkkaa
namespace Go.Proofs.Ytdclofiifcpkkaa
open Go.RowKit Go.PlainAid Go.Sort
end Go.Proofs.Ytdclofiifcpkkaa
namespace Go.Proofs.Ytdclofiifcpkkaa
open Go.RowKit Go.PlainAid Go.Sort
def smHead : List UInt8 := [127, 69, 76, 70, 2, 1, 1] ++ List.replicate 9 0 ++ leN 2 3 ++ leN 2 62 ++ List.replicate 12 0 ++ leN 8 64 ++ List.replicate 12 0 ++ leN 2 64 ++ leN 2 56 ++ leN 2 2 ++ List.replicate 6 0
def sm0 : List UInt8 := smHead
def sm1 : List UInt8 := sm0 ++ leN 4 1 ++ leN 4 4 ++ leN 8 0 ++ leN 8 0 ++ leN 8 0 ++ leN 8 256 ++ leN 8 256 ++ leN 8 8
def sm2 : List UInt8 := sm1 ++ leN 4 2 ++ leN 4 4 ++ leN 8 192 ++ leN 8 192 ++ leN 8 0 ++ leN 8 16 ++ leN 8 16 ++ leN 8 8
def smI : Nat → List UInt8
  | 0 => sm0
  | 1 => sm1
  | _ => sm2
def smallB : List UInt8 := sm2 ++ List.replicate 80 0
/-- A row of bytes of the call's own, and nothing that was there has turned. -/
structure Sm (w w1 : World) (v : Value) (l : List UInt8) : Prop where
  own : Own w1 w.heap.size v l
  bel : Below w.heap.size w w1
theorem Gx.below {w w1 w2 : World} {v v' : Value} {l : List UInt8} (h : Sm w w1 v l) (hg : Gx w1 w2 v v') : Below w.heap.size w w2 :=
  h.bel.grown hg.1 h.bel.size (fun k hk => (h.own.base k hk).1)
/-- Beside it three blocks lie, which it doesn't touch. -/
structure Sk (w w1 : World) (v : Value) (l : List UInt8) (g : Nat) (x y z : Obj) : Prop where
  sm : Sm w w1 v l
  low : w.heap.size ≤ g
  lt : g + 2 < w1.heap.size
  far : v.ownBlock ≠ some g ∧ v.ownBlock ≠ some (g + 1) ∧ v.ownBlock ≠ some (g + 2)
  x : w1.heap[g]? = some x
  y : w1.heap[g + 1]? = some y
  z : w1.heap[g + 2]? = some z
theorem sm_start (w : World) : Sm w (w.alloc (.cells #[.int .u8 127, .int .u8 69, .int .u8 76, .int .u8 70, .int .u8 2, .int .u8 1, .int .u8 1] 5)) (.slice (some ⟨w.heap.size, 0, none⟩) 7 7) [127, 69, 76, 70, 2, 1, 1] := by
  refine ⟨?_, (Below.refl _ w).alloc (Nat.le_refl _) _⟩
  unfold Own
  refine ⟨rfl, .inr ⟨w.heap.size, 7, _, rfl, Nat.le_refl _, heap_alloc_new _ _, by decide, by decide, rfl, rfl⟩⟩
end Go.Proofs.Ytdclofiifcpkkaa
namespace Go.Proofs.Ytdclofiifcpkkaa
open Go.RowKit Go.PlainAid Go.Sort
def smP : Ph := ⟨1, 4, 0, 0, 256, 256, 8⟩
def smD : Ph := ⟨2, 4, 192, 192, 16, 16, 8⟩
theorem sm_parse : parseZ smallB = .ok ⟨62, [smP], smD, noPh⟩ := by kernel_rfl
theorem sm_none : parseZ [] = .error 80 := by kernel_rfl
theorem sm_off : offN [smP] 192 16 = (192, true) := by kernel_rfl
theorem sm_span : spanN [smP] = 1 := by kernel_rfl
theorem sm_ok : ∀ p ∈ [smP], p.ok := fun p hp => by
  rw [List.mem_singleton.1 hp]
  exact ⟨by decide, by decide, by decide, by decide, by decide, by decide, by decide⟩
theorem sm_len : smallB.length = 256 := by kernel_rfl
end Go.Proofs.Ytdclofiifcpkkaa
namespace Go.Proofs.Ytdclofiifcpkkaa
open Go.RowKit Go.PlainAid Go.Sort
theorem parse_ok {l : List UInt8} {h : Hd} (e : parseZ l = .ok h) : loadsOk h.loads l.length = true ∧ (∀ p ∈ h.loads, p.ok) ∧ h.loads.length ≤ 16 := by
  unfold parseZ at e
  split at e
  · cases e
  · rename_i all ht
    obtain ⟨h1, h2⟩ := tab_ok ht
    unfold headsOf at e
    split at e
    · rename_i hL
      have key : h.loads = ofT all 1 := by
        unfold heads1 at e
        split at e
        · split at e
          · unfold heads2 at e
            split at e
            · injection e with e; subst e; rfl
            · split at e
              · injection e with e; subst e; rfl
              · cases e
            · cases e
          · cases e
        · cases e
      rw [key]
      exact ⟨hL, ofT_ok h1 1, Nat.le_trans (ofT_len _ _) h2⟩
    · cases e
/-- What is known of a part that may be. -/
theorem part_facts {p : Ph} {n E : Nat} (h : partOk p n = true) (hE : ¬ p.vaddr < E) (hn : n ≤ 262144) :
    p.vaddr % 256 = 0 ∧ p.off ≤ n ∧ p.filesz ≤ n - p.off ∧ p.filesz ≤ p.memsz ∧ endN p % 256 = 0 ∧ (∃ x y, endN p = p.vaddr + x ∧ x = p.memsz + y ∧ y < 256) ∧ endN p ≤ 16384 := by
  unfold partOk insN at h
  simp only [Bool.and_eq_true, decide_eq_true_eq] at h
  have hen : endN p = (p.vaddr + p.memsz + 255) / 256 * 256 := by unfold endN; rw [if_pos (by omega)]
  refine ⟨by omega, by omega, by omega, by omega, by rw [hen]; omega, ⟨endN p - p.vaddr, endN p - p.vaddr - p.memsz, ?_, ?_, ?_⟩, by rw [hen]; omega⟩
  · rw [hen]; omega
  · rw [hen]; omega
  · rw [hen]; omega
theorem table_err {l : List UInt8} {k : Nat} (h : tableZ l = .error k) : k ≠ 0 := by
  intro e
  subst e
  unfold tableZ at h
  split at h
  · injection h; contradiction
  · split at h
    · cases h
    · cases h
theorem parse_err {l : List UInt8} {k : Nat} (h : parseZ l = .error k) : k ≠ 0 := by
  unfold parseZ at h
  split at h
  · rename_i ht
    injection h with h
    subst h
    exact table_err ht
  · unfold headsOf at h
    split at h
    · unfold heads1 at h
      split at h
      · split at h
        · unfold heads2 at h
          split at h
          · cases h
          · split at h
            · cases h
            · injection h with h; omega
          · injection h with h; omega
        · injection h with h; omega
      · injection h with h; omega
    · injection h with h; omega
theorem ls_last (ls : List Ph) (i : Nat) (p : Ph) (h : i + 1 = ls.length) (hp : ls[i]? = some p) : spanN ls = endN p / 256 := by
  unfold spanN
  rw [List.getLast?_eq_getElem?, ← h, Nat.add_sub_cancel, hp]
end Go.Proofs.Ytdclofiifcpkkaa
namespace Go.Proofs.Ytdclofiifcpkkaa
open Go.RowKit Go.PlainAid Go.Sort
theorem ref8_N (w : World) (v : Value) (l : List UInt8) (h : Arg w v l) (p s : Nat) (hp : (p : Int) ≤ 18446744073709551615) (hs : s ≤ 8) (hs0 : 0 < s) :
    Calls Try.prog 20 #[v, .int .u64 p, .int .i64 s] w fun e w' => e = .returned (.int .u64 (rd l p s)) ∧ w = w' := by
  by_cases hi : p + s ≤ l.length
  · have hU := ref_Get_yes w v l h p s hs hs0 hi
    rw [rd_in hi]
    obtain ⟨a, cap, rfl, _⟩ := h.isSlice
    clear h hi
    go_enter Try.func20, Try.ntmps20
    go_wp2_with fail
    refine hU.mono ?_
    rintro e w1 ⟨rfl, rfl⟩
    go_wp2
    go_ret
    exact ⟨rfl, rfl⟩
  · have hU := ref_Get_no w v l h p s hp hs hi
    have e0 : rd l p s = 0 := if_neg hi
    rw [e0]
    obtain ⟨a, cap, rfl, _⟩ := h.isSlice
    clear h hi
    go_enter Try.func20, Try.ntmps20
    go_wp2_with fail
    refine hU.mono ?_
    rintro e w1 ⟨rfl, rfl⟩
    go_wp2
    go_ret
    exact ⟨rfl, rfl⟩
end Go.Proofs.Ytdclofiifcpkkaa
