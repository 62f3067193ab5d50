
/-
  Layer 9's reference: an area, the strings; what a section says, as plain data.
-/
import Derived.Test.YtibfiikjelmhmaaDoorDyG
import Derived.Test.YtibfiikjelmhmaaDoorTextB
set_option linter.unusedVariables false
namespace Go.Proofs.YtibfiikjelmhmaaDoor
open Go.RowKit Go.PlainAid Go.Sort
def areaC (E : List De) (t u : Nat) : List Value := [.bool (decide (cntT E t = 1)), .int .u64 (valT E t : Nat), .int .u64 (valT E u : Nat)]
/-- Anything is stored in a part of a known row. -/
theorem store_any {ops : Array Oper} {rest : List Oper} {o : Oper} {a : Act} {Q : Exit → Act → World → Prop} {w : World} (hgd : o.guard = none) (T : TypeId) (x y : Operand) (ho : o.op = .store T x y)
    (g k : Nat) (U : TypeId) (cur : Array Value) (v : Value) (cs : List Value) (new : Array Value) (hg : w.heap[g]? = some (.cells cur U (0, 0))) (hx : a.eval x = .pointer (some ⟨g, k, none⟩)) (hy : a.eval y = v)
    (hcs : v.cells = cs.toArray) (hsz : ∀ w, (Go.sizeOf T).run Tryd.prog w = .ok cs.length w) (hone : ∀ v ∈ cs, v.oneCell' = true) (hfit : k + cs.length ≤ cur.size) (hnew : (cur.toList.take k ++ cs ++ cur.toList.drop (k + cs.length)).toArray = new)
    (h : ∀ w', w'.heap[g]? = some (.cells new U (0, 0)) → w.grownBy w' (some g) → wpList Tryd.prog ops Q rest (a.put o.dst undef) w') : wpList Tryd.prog ops Q (o :: rest) a w := by
  subst hnew
  have hst := run_storeCells_at Tryd.prog g k U cs 0 cur w hg (by simpa using hfit) hone
  have hr : (Instr.storeAt T (.pointer (some ⟨g, k, none⟩)) v).run Tryd.prog w = .ok () (w.setRow g (cur.toList.take k ++ cs ++ cur.toList.drop (k + cs.length)).toArray) := by
    simp only [Nat.add_zero] at hst
    simp only [Instr.storeAt, Instr.sureAddr, Sem.run_bind, Sem.run_pure, Result.andThen_ok, storeVar, hsz, hcs, List.size_toArray]
    simpa using hst
  refine wpList_plain hgd fun _ hK => ?_
  unfold Oper.wp execOp
  simp only [ho, hx, hy, Sem.run_bind, Sem.run_pure, Result.andThen_ok, hr]
  exact hK _ _ (h _ (setRow_heap w g _ _ _ _ hg) ⟨rfl, rfl, rfl, by simp, fun k _ hk => setRow_other w g k _ (fun e => hk (by rw [e]))⟩)
set_option maxHeartbeats 1000000 in
theorem ref9_area (w : World) (v : Value) (E : List De) (h : ArgD w v E) (t u : Nat) :
    Calls Tryd.prog 32 #[v, .int .u64 t, .int .u64 u] w fun e w' => e = .returned (.agg (areaC E t u).toArray) ∧ Below w.heap.size w w' := by
  have HB : Hid (Below w.heap.size w (w.alloc (.cells (areaC E t u).toArray 36))) := (Below.refl _ w).alloc (Nat.le_refl _) _
  have hA := h.below ((Below.refl _ w).alloc (Nat.le_refl _) (.cells #[.bool false, .int .u64 0, .int .u64 0] 36))
  obtain ⟨a, cap, rfl⟩ := h.form
  have k1 := ref9_count _ _ E hA t
  have k2 := ref9_value _ _ E hA t
  have k3 := ref9_value _ _ E hA u
  have cb : ((cntT E t : Int) == 1) = decide (cntT E t = 1) := by
    by_cases c : cntT E t = 1
    · rw [decide_eq_true c]; simp; omega
    · rw [decide_eq_false c]; simp; omega
  unfold areaC at HB ⊢
  generalize decide (cntT E t = 1) = b at *
  generalize cntT E t = c at *
  generalize valT E t = x at *
  generalize valT E u = y at *
  clear h hA
  go_enter Tryd.func32, Tryd.ntmps32
  go_wp2_with fail
  refine k1.mono ?_
  rintro e w1 ⟨rfl, rfl⟩
  go_wp2_with fail
  refine k2.mono ?_
  rintro e w1 ⟨rfl, rfl⟩
  go_wp2_with fail
  refine k3.mono ?_
  rintro e w1 ⟨rfl, rfl⟩
  clear k1 k2 k3
  go_wp2
  refine bodyPost_ret (results_cell1 rfl _ _ w.heap.size _ _ _ _ rfl (heap_alloc_new _ _) Tryd.underlying36 rfl (by kernel_rfl)) rfl ?_
  exact ⟨rfl, HB.out⟩
/-- What a section says. -/
structure Dd where
  ents : List De
  so : List UInt8
  ru : List UInt8
  need : List (List UInt8)
def txb (l : List UInt8) : ByteArray := ⟨l.toArray⟩
def bitB (n k : Nat) : Bool := decide (n / k % 2 = 1)
def packB (E : List De) : Bool := decide (cntT E 1610612753 = 1)
/-- The cells of what a section says, without the names. -/
def dyTail (E : List De) : List Value :=
  [.bool (decide (cntT E 16 = 1) || bitB (valT E 30) 2), .bool (bitB (valT E 1879048187) 2), .bool (bitB (valT E 1879048187) 8)] ++ areaC E 5 10 ++
  [.int .u64 (valT E 6 : Nat), .int .u64 (valT E 4 : Nat), .int .u64 (valT E 1879047925 : Nat), .int .u64 (valT E 1879048176 : Nat), .int .u64 (valT E 1879048188 : Nat), .int .u64 (valT E 1879048190 : Nat), .int .u64 (valT E 1879048189 : Nat), .int .u64 (valT E 1879048191 : Nat)] ++
  areaC E 17 18 ++ areaC E 7 8 ++ areaC E 23 2 ++ areaC E 36 35 ++ (if packB E then areaC E 1610612753 1610612754 else areaC E 1610612751 1610612752) ++
  [.bool (decide (valT E 20 = 7)), .bool (packB E)] ++ areaC E 25 27 ++ areaC E 26 28
def dyCells (so ru : List UInt8) (vn : Value) (E : List De) : List Value := [.string (txb so), .string (txb ru), vn] ++ dyTail E
/-- The text of a tag, if it is there. -/
def nameT (s : List UInt8) (E : List De) (t : Nat) : Option (List UInt8) := if cntT E t = 1 then (if (textAt s (valT E t)).2 = 0 then some (textAt s (valT E t)).1 else none) else some []
/-- The names of what is needed. -/
def needL (s : List UInt8) : List De → Except Nat (List (List UInt8))
  | [] => .ok []
  | e :: r => if e.tag = 1 then (if (textAt s e.val).2 ≠ 0 then .error 91 else if (textAt s e.val).1 = [] then .error 92 else (needL s r).map ((textAt s e.val).1 :: ·)) else needL s r
def dynZ (l : List UInt8) (h : Hd) : Except Nat Dd :=
  if (partZ l h.loads h.dynamic.vaddr h.dynamic.filesz).2 = false then .error 86 else
  match entsZ (partZ l h.loads h.dynamic.vaddr h.dynamic.filesz).1 with
  | none => .error 90
  | some E => if rightB E = false then .error 90 else
    if (partZ l h.loads (valT E 5) (valT E 10)).2 = false then .error 91 else
    match nameT (partZ l h.loads (valT E 5) (valT E 10)).1 E 14 with
    | none => .error 91
    | some so => match nameT (partZ l h.loads (valT E 5) (valT E 10)).1 E 29 with
      | none => .error 91
      | some ru => if 16 < cntT E 1 then .error 92 else
        match needL (partZ l h.loads (valT E 5) (valT E 10)).1 E with
        | .error n => .error n
        | .ok ns => .ok ⟨E, so, ru, ns⟩
end Go.Proofs.YtibfiikjelmhmaaDoor
