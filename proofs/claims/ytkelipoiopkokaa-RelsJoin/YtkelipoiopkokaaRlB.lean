
/-
  Layer 12 (rels): sizeOf, take and Decode.
-/
import Derived.Test.YtkelipoiopkokaaRlA
import Derived.Test.YtkelipoiopkokaaHdQ
set_option linter.unusedVariables false
namespace Go.Proofs.Ytkelipoiopkokaa
open Go.RowKit Go.PlainAid Go.Sort
theorem rl_size : ∀ w, (Go.sizeOf 43).run Try.prog w = .ok 5 w := Try.sizeOf43
theorem load_rl {w : World} {g : Nat} {cs : Array Value} (h : w.heap[g]? = some (.cells cs 43 (0, 0))) (hs : cs.size = 5) : (loadVar 43 ⟨g, 0, none⟩).run Try.prog w = .ok (.agg cs) w :=
  run_loadVar_row (P := Try.prog) w g _ _ cs (0, 0) _ h Try.underlying43 rfl (by rw [hs]; kernel_rfl)
theorem at_storeRl {ops : Array Oper} {rest : List Oper} {a : Act} {Q : Exit → Act → World → Prop} {w : World} {ty : TypeId} {x y : Operand} {ps : String} {af : Array Edge}
    (h : wpList Try.prog ops Q ({ dst := none, op := .store 43 x y, type := ty, pos := ps, after := af, guard := none } :: rest) a w) : wpList Try.prog ops Q ({ dst := none, op := .store 43 x y, type := ty, pos := ps, after := af, guard := none } :: rest) a w := h
theorem at_loadRl {ops : Array Oper} {rest : List Oper} {a : Act} {Q : Exit → Act → World → Prop} {w : World} {ty : TypeId} {x : Operand} {d : Option Tmp} {ps : String} {af : Array Edge}
    (h : wpList Try.prog ops Q ({ dst := d, op := .load 43 x, type := ty, pos := ps, after := af, guard := none } :: rest) a w) : wpList Try.prog ops Q ({ dst := d, op := .load 43 x, type := ty, pos := ps, after := af, guard := none } :: rest) a w := h
theorem frozen_blk {w : World} {g : Nat} {cs : Array Value} {T : TypeId} (h : w.heap[g]? = some (.cells cs T (0, 0))) (k : Nat) : w.frozen? ⟨g, k, none⟩ = false := by
  unfold World.frozen?
  rw [h]
  simp
def zeroRl : List Value := [.int .u64 0, .int .u32 0, .int .u32 0, .int .i64 0, .bool false]
theorem rl_one (n0 n1 n2 n3 : Int) (b : Bool) : ∀ u ∈ [Value.int .u64 n0, .int .u32 n1, .int .u32 n2, .int .i64 n3, .bool b], u.oneCell' = true := by
  intro u hu
  simp only [List.mem_cons, List.not_mem_nil, or_false] at hu
  rcases hu with rfl | rfl | rfl | rfl | rfl <;> rfl
theorem rels_sizeOf (w : World) (rela : Bool) : Calls Try.prog 14 #[.bool rela] w fun e w' => e = .returned (.int .i64 (sizeR rela : Nat)) ∧ w = w' := by
  cases rela
  all_goals
    go_enter Try.func14, Try.ntmps14
    go_wp2
    go_ret
    exact ⟨rfl, rfl⟩
theorem two_zero (w : World) (x y : Obj) : ((w.alloc x).alloc y).heap[w.heap.size]? = some x ∧ ((w.alloc x).alloc y).heap[w.heap.size + 1]? = some y := by
  refine ⟨?_, ?_⟩
  · rw [heap_alloc_old _ _ (by simp)]; exact heap_alloc_new _ _
  · have e : w.heap.size + 1 = (w.alloc x).heap.size := by simp
    rw [e]; exact heap_alloc_new _ _
theorem set_here (w : World) (g j : Nat) (v : Value) (cur : Array Value) (t : TypeId) (r : Nat × Nat) (hg : w.heap[g]? = some (.cells cur t r)) : (w.setCell ⟨g, j, none⟩ v).heap[g]? = some (.cells (cur.setIfInBounds j v) t r) := by
  obtain ⟨hl, hg2⟩ := Array.getElem?_eq_some_iff.1 hg
  simp [World.setCell, hl, Array.getElem_modify, hg2]
theorem rl_set0 {w : World} {g : Nat} {x0 x1 x2 x3 x4 : Value} {T : TypeId} (h : w.heap[g]? = some (.cells #[x0, x1, x2, x3, x4] T (0, 0))) (v : Value) : (w.setCell ⟨g, 0, none⟩ v).heap[g]? = some (.cells #[v, x1, x2, x3, x4] T (0, 0)) := set_here w g 0 v _ T _ h
theorem rl_set1 {w : World} {g : Nat} {x0 x1 x2 x3 x4 : Value} {T : TypeId} (h : w.heap[g]? = some (.cells #[x0, x1, x2, x3, x4] T (0, 0))) (v : Value) : (w.setCell ⟨g, 1, none⟩ v).heap[g]? = some (.cells #[x0, v, x2, x3, x4] T (0, 0)) := set_here w g 1 v _ T _ h
theorem rl_set2 {w : World} {g : Nat} {x0 x1 x2 x3 x4 : Value} {T : TypeId} (h : w.heap[g]? = some (.cells #[x0, x1, x2, x3, x4] T (0, 0))) (v : Value) : (w.setCell ⟨g, 2, none⟩ v).heap[g]? = some (.cells #[x0, x1, v, x3, x4] T (0, 0)) := set_here w g 2 v _ T _ h
theorem rl_set3 {w : World} {g : Nat} {x0 x1 x2 x3 x4 : Value} {T : TypeId} (h : w.heap[g]? = some (.cells #[x0, x1, x2, x3, x4] T (0, 0))) (v : Value) : (w.setCell ⟨g, 3, none⟩ v).heap[g]? = some (.cells #[x0, x1, x2, v, x4] T (0, 0)) := set_here w g 3 v _ T _ h
theorem set_other {w : World} {g k : Nat} {o : Obj} (h : w.heap[k]? = some o) (hk : k ≠ g) (j : Nat) (v : Value) : (w.setCell ⟨g, j, none⟩ v).heap[k]? = some o := by
  rw [Below.heap_setCell _ _ _ _ hk]; exact h
set_option maxHeartbeats 2000000 in
set_option maxRecDepth 20000 in
theorem rels_take (w : World) (v : Value) (l : List UInt8) (h : Arg w v l) (p : Nat) (rela : Bool) (hp : p + sizeR rela ≤ l.length) :
    Calls Try.prog 15 #[v, .int .u64 p, .bool rela] w fun e w' => e = .returned (.agg (rlAt l p rela).cells.toArray) ∧ Below w.heap.size w w' := by
  have h16 := (sizeR_pos rela).1
  obtain ⟨a, cap, rfl, _, _, hl⟩ := h.isSlice
  have K8 := hide (fun W (hb : Below w.heap.size w W) (q : Nat) (hq : (q : Int) ≤ 18446744073709551615) => le_U64_all W _ l (h.below' hb) q hq)
  have K4 := hide (fun W (hb : Below w.heap.size w W) (q : Nat) (hq : (q : Int) ≤ 18446744073709551615) => le_U32_all W _ l (h.below' hb) q hq)
  have HZ := hide (two_zero w (.cells zeroRl.toArray 43) (.cells zeroRl.toArray 43))
  have HB0 : Hid (Below w.heap.size w ((w.alloc (.cells zeroRl.toArray 43)).alloc (.cells zeroRl.toArray 43))) := Below.alloc (Below.alloc (Below.refl _ _) (Nat.le_refl _) _) (by simp) _
  have HE : Hid ((rlAt l p rela).cells = [.int .u64 (vN l p 8 : Nat), .int .u32 (vN l (p + 8) 4 : Nat), .int .u32 (vN l (p + 12) 4 : Nat), .int .i64 (if rela then IntKind.i64.wrap ((vN l (p + 16) 8 : Nat) : Int) else 0), .bool rela]) := by
    unfold Rl.cells rlAt
    cases rela <;> rfl
  unfold zeroRl at *
  have hpI : (p : Int) + 16 ≤ 1000000000000 := by omega
  obtain ⟨n0, e0⟩ : ∃ n, vN l p 8 = n := ⟨_, rfl⟩
  obtain ⟨n1, e1⟩ : ∃ n, vN l (p + 8) 4 = n := ⟨_, rfl⟩
  obtain ⟨n2, e2⟩ : ∃ n, vN l (p + 12) 4 = n := ⟨_, rfl⟩
  obtain ⟨n3, e3⟩ : ∃ n, vN l (p + 16) 8 = n := ⟨_, rfl⟩
  have k0 := hide (fun W hb => K8.out W hb p (by omega))
  have k1 := hide (fun W hb => K4.out W hb (p + 8) (by omega))
  have k2 := hide (fun W hb => K4.out W hb (p + 12) (by omega))
  have k3 := hide (fun W hb => K8.out W hb (p + 16) (by omega))
  rw [e0] at k0
  rw [e1] at k1
  rw [e2] at k2
  rw [e3] at k3
  rw [e0, e1, e2, e3] at HE
  obtain ⟨s3, hs3⟩ : ∃ s, IntKind.i64.wrap (n3 : Int) = s := ⟨_, rfl⟩
  rw [hs3] at HE
  have c1 : ((p + 8 : Nat) : Int) = (p : Int) + 8 := by omega
  have c2 : ((p + 12 : Nat) : Int) = (p : Int) + 12 := by omega
  have c3 : ((p + 16 : Nat) : Int) = (p : Int) + 16 := by omega
  rw [c1] at k1
  rw [c2] at k2
  rw [c3] at k3
  generalize eN l p 8 = q0 at *
  generalize eN l (p + 8) 4 = q1 at *
  generalize eN l (p + 12) 4 = q2 at *
  generalize eN l (p + 16) 8 = q3 at *
  generalize l.length = n at *
  clear c1 c2 c3 e0 e1 e2 e3 K8 K4 h hp
  cases rela
  all_goals
    go_enter Try.func15, Try.ntmps15
    go_wp2_with ((with_reducible refine at_storeRl ?_); refine store_part rfl _ _ _ rfl (w.heap.size + 1) 0 43 _ [.int .u64 0, .int .u32 0, .int .u32 0, .int .i64 0, .bool _] _ HZ.out.2 rfl rfl rl_size (rl_one _ _ _ _ _) (by decide) rfl ?_)
    intro w1 h1 h2
    have HB1 : Hid (Below w.heap.size w w1) := Below.grown HB0.out h2 (by simp; omega) (fun k hk => by have := Option.some.inj hk; omega)
    have HR1 : Hid (w1.heap[w.heap.size]? = some (.cells #[.int .u64 0, .int .u32 0, .int .u32 0, .int .i64 0, .bool false] 43 (0, 0))) := by
      rw [Hid, h2.block _ (by simp; omega) (fun e => by have := Option.some.inj e; omega)]; exact HZ.out.1
    have f0 := frozen_blk h1 0
    have f1 := frozen_blk h1 1
    have f2 := frozen_blk h1 2
    have f3 := frozen_blk h1 3
    have x0 := cells_of_block h1 0 _ rfl
    have x1 := cells_of_block h1 1 _ rfl
    have x2 := cells_of_block h1 2 _ rfl
    have x3 := cells_of_block h1 3 _ rfl
    have HG1 : Hid (w1.heap[w.heap.size + 1]? = some (.cells #[.int .u64 0, .int .u32 0, .int .u32 0, .int .i64 0, .bool _] 43 (0, 0))) := h1
    clear h1 h2
    go_wp2_with fail
    refine (k0.out w1 HB1.out).mono ?_
    rintro e W ⟨rfl, rfl⟩
    have HB2 := hide (HB1.out.setCell (p := ⟨w.heap.size + 1, 0, none⟩) (by simp) (.int .u64 n0))
    have HG2 := hide (rl_set0 HG1.out (.int .u64 n0))
    have HR2 := hide (set_other HR1.out (g := w.heap.size + 1) (by omega) 0 (.int .u64 n0))
    go_wp2_with fail
    refine (k1.out _ HB2.out).mono ?_
    rintro e W ⟨rfl, rfl⟩
    have HB3 := hide (HB2.out.setCell (p := ⟨w.heap.size + 1, 1, none⟩) (by simp) (.int .u32 n1))
    have HG3 := hide (rl_set1 HG2.out (.int .u32 n1))
    have HR3 := hide (set_other HR2.out (g := w.heap.size + 1) (by omega) 1 (.int .u32 n1))
    go_wp2_with fail
    refine (k2.out _ HB3.out).mono ?_
    rintro e W ⟨rfl, rfl⟩
    have HB4 := hide (HB3.out.setCell (p := ⟨w.heap.size + 1, 2, none⟩) (by simp) (.int .u32 n2))
    have HG4 := hide (rl_set2 HG3.out (.int .u32 n2))
    have HR4 := hide (set_other HR3.out (g := w.heap.size + 1) (by omega) 2 (.int .u32 n2))
  · have HL := hide (load_rl HG4.out rfl)
    go_wp2_with (first | ((with_reducible refine at_loadRl ?_); refine load_row rfl _ _ rfl (w.heap.size + 1) _ HL.out rfl ?_) | ((with_reducible refine at_storeRl ?_); refine store_part rfl _ _ _ rfl w.heap.size 0 43 _ [.int .u64 n0, .int .u32 n1, .int .u32 n2, .int .i64 0, .bool false] #[.int .u64 n0, .int .u32 n1, .int .u32 n2, .int .i64 0, .bool false] HR4.out rfl rfl rl_size (rl_one _ _ _ _ _) (Nat.le_refl 5) (by rfl) ?_))
    intro w6 h1 h2
    have HB6 : Hid (Below w.heap.size w w6) := Below.grown HB4.out h2 HB4.out.size (fun k hk => by have := Option.some.inj hk; omega)
    go_wp2
    refine bodyPost_ret (results_cell1 rfl _ _ w.heap.size _ _ _ _ rfl h1 Try.underlying43 rfl (by kernel_rfl)) rfl ?_
    exact ⟨by rw [HE.out]; rfl, HB6.out⟩
  · go_wp2_with fail
    refine (k3.out _ HB4.out).mono ?_
    rintro e W ⟨rfl, rfl⟩
    have HB5 := hide (HB4.out.setCell (p := ⟨w.heap.size + 1, 3, none⟩) (by simp) (.int .i64 s3))
    have HG5 := hide (rl_set3 HG4.out (.int .i64 s3))
    have HR5 := hide (set_other HR4.out (g := w.heap.size + 1) (by omega) 3 (.int .i64 s3))
    have HL := hide (load_rl HG5.out rfl)
    go_wp2_with (first | ((with_reducible refine at_loadRl ?_); refine load_row rfl _ _ rfl (w.heap.size + 1) _ HL.out rfl ?_) | ((with_reducible refine at_storeRl ?_); refine store_part rfl _ _ _ rfl w.heap.size 0 43 _ [.int .u64 n0, .int .u32 n1, .int .u32 n2, .int .i64 s3, .bool true] #[.int .u64 n0, .int .u32 n1, .int .u32 n2, .int .i64 s3, .bool true] HR5.out rfl rfl rl_size (rl_one _ _ _ _ _) (Nat.le_refl 5) (by rfl) ?_))
    intro w6 h1 h2
    have HB6 : Hid (Below w.heap.size w w6) := Below.grown HB5.out h2 HB5.out.size (fun k hk => by have := Option.some.inj hk; omega)
    go_wp2
    refine bodyPost_ret (results_cell1 rfl _ _ w.heap.size _ _ _ _ rfl h1 Try.underlying43 rfl (by kernel_rfl)) rfl ?_
    exact ⟨by rw [HE.out]; rfl, HB6.out⟩
end Go.Proofs.Ytkelipoiopkokaa
