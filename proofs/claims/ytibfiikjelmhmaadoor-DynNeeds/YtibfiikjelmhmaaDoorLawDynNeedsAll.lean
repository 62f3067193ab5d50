
/-
  DynNeeds returns true for every row of bytes, and the row reads afterwards as it read before: no condition.
-/
import Derived.Test.YtibfiikjelmhmaaDoorDyProg
import Derived.Test.YtibfiikjelmhmaaDoorHdX
import Derived.BigQuiet
import Derived.Test.YtibfiikjelmhmaaDoorDyB
import Derived.Test.YtibfiikjelmhmaaDoorRows
import Derived.Test.YtibfiikjelmhmaaDoorTie
import Derived.Test.YtibfiikjelmhmaaDoorCards
import Derived.ProofKit
import Derived.Handed
import Derived.HandedShaped
import Derived.Shelf.Vars
import Derived.LaidMore
import Derived.Lay
import Derived.SevenTiedAt
import Derived.Stop.Joined
import Derived.OpenShut
import Derived.Test.YtibfiikjelmhmaaDoorProg
import Derived.Lib.QuietBelow
import Derived.WalkKit
import Derived.ShutString
import Derived.ChangeOld
import Derived.Below
set_option linter.unusedVariables false
namespace Go.Proofs.YtibfiikjelmhmaaDoor
open Go.RowKit Go.PlainAid Go.Sort
namespace L9
theorem at_storeT {T : TypeId} {ops : Array Oper} {rest : List Oper} {a : Act} {Q : Exit → Act → World → Prop} {w : World} {ty : TypeId} {x y : Operand} {ps : String} {af : Array Edge}
    (h : wpList Tryd.prog ops Q ({ dst := none, op := .store T x y, type := ty, pos := ps, after := af, guard := none } :: rest) a w) : wpList Tryd.prog ops Q ({ dst := none, op := .store T x y, type := ty, pos := ps, after := af, guard := none } :: rest) a w := h
theorem alloc_opR {ops : Array Oper} {rest : List Oper} {o : Oper} {a : Act} {Q : Exit → Act → World → Prop} {w : World} {T : TypeId} (hgd : o.guard = none) (ho : o.op = .alloc T) (v : Value) (w0 : World)
    (hr : (Instr.alloc T true (.tuple #[])).run Tryd.prog w = .ok v w0) (h : wpList Tryd.prog ops Q rest (a.put o.dst v) w0) : wpList Tryd.prog ops Q (o :: rest) a w := by
  refine wpList_plain hgd fun _ hK => ?_
  unfold Oper.wp execOp
  simp only [ho, Sem.run_bind, hr, Result.andThen_ok]
  exact hK _ _ h
theorem alloc_hd (w : World) : (Instr.alloc 30 true (.tuple #[])).run Tryd.prog w = .ok (.pointer (some ⟨w.heap.size, 0, none⟩)) (w.alloc (.cells zeroHd.toArray 30)) := by kernel_rfl
theorem at_allocT {T : TypeId} {ops : Array Oper} {rest : List Oper} {a : Act} {Q : Exit → Act → World → Prop} {w : World} {ty : TypeId} {d : Option Tmp} {ps : String} {af : Array Edge}
    (h : wpList Tryd.prog ops Q ({ dst := d, op := .alloc T, type := ty, pos := ps, after := af, guard := none } :: rest) a w) : wpList Tryd.prog ops Q ({ dst := d, op := .alloc T, type := ty, pos := ps, after := af, guard := none } :: rest) a w := h
theorem alloc_dy (w : World) : (Instr.alloc 38 true (.tuple #[])).run Tryd.prog w = .ok (.pointer (some ⟨w.heap.size, 0, none⟩)) (w.alloc (.cells zeroDy.toArray 38)) := by kernel_rfl
theorem parse_dyn {l : List UInt8} {h : Hd} (e : parseZ l = .ok h) : h.dynamic.ok := by
  unfold parseZ at e
  cases ht : tableZ l with
  | error n => rw [ht] at e; cases e
  | ok all =>
    rw [ht] at e
    simp only at e
    unfold headsOf at e
    split at e
    · unfold heads1 at e
      cases hd : ofT all 2 with
      | nil => rw [hd] at e; cases e
      | cons d t =>
        rw [hd] at e
        cases t with
        | cons x y => cases e
        | nil =>
          simp only at e
          split at e
          · have hok : d.ok := ofT_ok (tab_ok ht).1 2 d (by rw [hd]; simp)
            unfold heads2 at e
            split at e
            · injection e with e; subst e; exact hok
            · split at e
              · injection e with e; subst e; exact hok
              · cases e
            · cases e
          · cases e
    · cases e
theorem needL_err {s : List UInt8} : ∀ {E : List De} {n : Nat}, needL s E = .error n → n ≠ 0
  | [], _, h => by cases h
  | e :: r, n, h => by
    rw [needL] at h
    split at h
    · split at h
      · injection h with h; omega
      · split at h
        · injection h with h; omega
        · cases hr : needL s r with
          | error k => rw [hr] at h; injection h with h; subst h; exact needL_err hr
          | ok y => rw [hr] at h; cases h
    · exact needL_err h
theorem dyn_err {l : List UInt8} {h : Hd} {n : Nat} (e : dynZ l h = .error n) : n ≠ 0 := by
  unfold dynZ at e
  split at e
  · injection e with e; omega
  · split at e
    · injection e with e; omega
    · split at e
      · injection e with e; omega
      · split at e
        · injection e with e; omega
        · split at e
          · injection e with e; omega
          · split at e
            · injection e with e; omega
            · split at e
              · injection e with e; omega
              · split at e
                · rename_i hh; injection e with e; subst e; exact needL_err hh
                · cases e
theorem dyn_ents {l : List UInt8} {h : Hd} {D : Dd} (e : dynZ l h = .ok D) : ∀ x ∈ D.ents, x.ok := by
  unfold dynZ at e
  split at e
  · cases e
  · split at e
    · cases e
    · rename_i E hE
      split at e
      · cases e
      · split at e
        · cases e
        · split at e
          · cases e
          · split at e
            · cases e
            · split at e
              · cases e
              · split at e
                · cases e
                · injection e with e; subst e; exact fun x hx => ((entsZ_ok hE).1 x hx).1
theorem dy_len (so ru : List UInt8) (vn : Value) (E : List De) : (dyCells so ru vn E).length = 40 := by
  unfold dyCells dyTail
  split <;> rfl
theorem areaC_one (E : List De) (t u : Nat) : ∀ x ∈ areaC E t u, x.oneCell' = true := by
  intro x hx
  simp only [areaC, List.mem_cons, List.not_mem_nil, or_false] at hx
  rcases hx with rfl | rfl | rfl <;> rfl
theorem dy_one (so ru : List UInt8) (a : Option Addr) (n c : Nat) (E : List De) : ∀ u ∈ dyCells so ru (.slice a n c) E, u.oneCell' = true := by
  intro u hu
  unfold dyCells dyTail at hu
  simp only [List.mem_append, List.mem_cons, List.not_mem_nil, or_false] at hu
  rcases hu with (rfl | rfl | rfl) | ((((((((((rfl | rfl | rfl) | hu) | rfl | rfl | rfl | rfl | rfl | rfl | rfl | rfl) | hu) | hu) | hu) | hu) | hu) | rfl | rfl) | hu) | hu
  all_goals first | rfl | exact areaC_one _ _ _ _ hu | (split at hu <;> exact areaC_one _ _ _ _ hu)
end L9
end Go.Proofs.YtibfiikjelmhmaaDoor
namespace Go.Proofs.YtibfiikjelmhmaaDoor
open Go.RowKit Go.PlainAid Go.Sort
/-- A row of texts that can be read. -/
def ArgT (w : World) (v : Value) (l : List (List UInt8)) : Prop :=
  ∃ a cap, v = .slice a l.length cap ∧ l.length ≤ cap ∧ cap ≤ maxLen ∧ (l = [] ∨ ∃ g, a = some ⟨g, 0, none⟩ ∧ g < w.heap.size ∧ ∀ j (hj : j < l.length), w.cell? ⟨g, j, none⟩ = some (.string ⟨l[j].toArray⟩))
theorem OwnT.arg {w : World} {B : Nat} {v : Value} {l : List (List UInt8)} (h : OwnT w B v l) : ArgT w v l := by
  have hc := fun g hg => World.ownsRow.cells h (g := g) hg
  unfold OwnT at h
  rcases h.2 with ⟨rfl, hn⟩ | ⟨g, cap, cur, rfl, hb, hg, hn, hm, _⟩
  · exact ⟨none, 0, by rw [hn], by omega, by unfold maxLen; omega, .inl (List.length_eq_zero_iff.1 hn)⟩
  · refine ⟨_, cap, rfl, hn, hm, .inr ⟨g, rfl, (Array.getElem?_eq_some_iff.1 hg).1, fun j hj => ?_⟩⟩
    have := hc g rfl j (.string ⟨l[j].toArray⟩) (by unfold tv; rw [List.getElem?_map, List.getElem?_eq_getElem hj]; rfl)
    rw [add_at, Nat.zero_add] at this; exact this
theorem ArgT.below {w w' : World} {v : Value} {l : List (List UInt8)} (h : ArgT w v l) (hb : Below w.heap.size w w') : ArgT w' v l := by
  obtain ⟨a, cap, rfl, h1, h2, h3⟩ := h
  refine ⟨a, cap, rfl, h1, h2, ?_⟩
  rcases h3 with h3 | ⟨g, rfl, h4, h5⟩
  · exact .inl h3
  · refine .inr ⟨g, rfl, Nat.lt_of_lt_of_le h4 hb.size, fun j hj => ?_⟩
    rw [hb.cell (p := ⟨g, j, none⟩) h4]; exact h5 j hj
theorem ArgT.at {w : World} {a : Option Addr} {n cap : Nat} {l : List (List UInt8)} (h : ArgT w (.slice a n cap) l) (j : Nat) (hj : j < l.length) : ∃ g, a = some ⟨g, 0, none⟩ ∧ w.cell? ⟨g, j, none⟩ = some (.string ⟨l[j].toArray⟩) := by
  obtain ⟨a', cap', e, h1, h2, h3⟩ := h
  injection e with e1 e2 e3
  subst e1
  rcases h3 with rfl | ⟨g, e, _, h5⟩
  · simp at hj
  · exact ⟨g, e, h5 j hj⟩
set_option maxHeartbeats 4000000 in
set_option maxRecDepth 20000 in
theorem ref9_Same_yes (w : World) (a1 a2 : Option Addr) (N c1 c2 : Nat) (L : List (List UInt8)) (hN : L.length = N) (h1 : ArgT w (.slice a1 N c1) L) (h2 : ArgT w (.slice a2 N c2) L) (so ru : List UInt8) (b3 b4 b5 b20 b21 h6 h15 h16 h17 h18 h19 h22 h23 : Bool) (n7 n8 n9 n10 n11 n12 n13 n14 x6 y6 x15 y15 x16 y16 x17 y17 x18 y18 x19 y19 x22 y22 x23 y23 : Nat) :
    Calls Tryd.prog 9 #[.agg #[.string ⟨so.toArray⟩, .string ⟨ru.toArray⟩, .slice a1 N c1, .bool b3, .bool b4, .bool b5, .bool h6, .int .u64 (x6 : Nat), .int .u64 (y6 : Nat), .int .u64 (n7 : Nat), .int .u64 (n8 : Nat), .int .u64 (n9 : Nat), .int .u64 (n10 : Nat), .int .u64 (n11 : Nat), .int .u64 (n12 : Nat), .int .u64 (n13 : Nat), .int .u64 (n14 : Nat), .bool h15, .int .u64 (x15 : Nat), .int .u64 (y15 : Nat), .bool h16, .int .u64 (x16 : Nat), .int .u64 (y16 : Nat), .bool h17, .int .u64 (x17 : Nat), .int .u64 (y17 : Nat), .bool h18, .int .u64 (x18 : Nat), .int .u64 (y18 : Nat), .bool h19, .int .u64 (x19 : Nat), .int .u64 (y19 : Nat), .bool b20, .bool b21, .bool h22, .int .u64 (x22 : Nat), .int .u64 (y22 : Nat), .bool h23, .int .u64 (x23 : Nat), .int .u64 (y23 : Nat)], .agg #[.string ⟨so.toArray⟩, .string ⟨ru.toArray⟩, .slice a2 N c2, .bool b3, .bool b4, .bool b5, .bool h6, .int .u64 (x6 : Nat), .int .u64 (y6 : Nat), .int .u64 (n7 : Nat), .int .u64 (n8 : Nat), .int .u64 (n9 : Nat), .int .u64 (n10 : Nat), .int .u64 (n11 : Nat), .int .u64 (n12 : Nat), .int .u64 (n13 : Nat), .int .u64 (n14 : Nat), .bool h15, .int .u64 (x15 : Nat), .int .u64 (y15 : Nat), .bool h16, .int .u64 (x16 : Nat), .int .u64 (y16 : Nat), .bool h17, .int .u64 (x17 : Nat), .int .u64 (y17 : Nat), .bool h18, .int .u64 (x18 : Nat), .int .u64 (y18 : Nat), .bool h19, .int .u64 (x19 : Nat), .int .u64 (y19 : Nat), .bool b20, .bool b21, .bool h22, .int .u64 (x22 : Nat), .int .u64 (y22 : Nat), .bool h23, .int .u64 (x23 : Nat), .int .u64 (y23 : Nat)]] w fun e w' => e = .returned (.bool true) ∧ Below w.heap.size w w' := by
  have hb1 := (Below.refl w.heap.size w).alloc (Nat.le_refl _) (.cells #[.string ⟨so.toArray⟩, .string ⟨ru.toArray⟩, .slice a1 N c1, .bool b3, .bool b4, .bool b5, .bool h6, .int .u64 (x6 : Nat), .int .u64 (y6 : Nat), .int .u64 (n7 : Nat), .int .u64 (n8 : Nat), .int .u64 (n9 : Nat), .int .u64 (n10 : Nat), .int .u64 (n11 : Nat), .int .u64 (n12 : Nat), .int .u64 (n13 : Nat), .int .u64 (n14 : Nat), .bool h15, .int .u64 (x15 : Nat), .int .u64 (y15 : Nat), .bool h16, .int .u64 (x16 : Nat), .int .u64 (y16 : Nat), .bool h17, .int .u64 (x17 : Nat), .int .u64 (y17 : Nat), .bool h18, .int .u64 (x18 : Nat), .int .u64 (y18 : Nat), .bool h19, .int .u64 (x19 : Nat), .int .u64 (y19 : Nat), .bool b20, .bool b21, .bool h22, .int .u64 (x22 : Nat), .int .u64 (y22 : Nat), .bool h23, .int .u64 (x23 : Nat), .int .u64 (y23 : Nat)] 38)
  have hb2 := (Below.refl (w.alloc (.cells #[.string ⟨so.toArray⟩, .string ⟨ru.toArray⟩, .slice a1 N c1, .bool b3, .bool b4, .bool b5, .bool h6, .int .u64 (x6 : Nat), .int .u64 (y6 : Nat), .int .u64 (n7 : Nat), .int .u64 (n8 : Nat), .int .u64 (n9 : Nat), .int .u64 (n10 : Nat), .int .u64 (n11 : Nat), .int .u64 (n12 : Nat), .int .u64 (n13 : Nat), .int .u64 (n14 : Nat), .bool h15, .int .u64 (x15 : Nat), .int .u64 (y15 : Nat), .bool h16, .int .u64 (x16 : Nat), .int .u64 (y16 : Nat), .bool h17, .int .u64 (x17 : Nat), .int .u64 (y17 : Nat), .bool h18, .int .u64 (x18 : Nat), .int .u64 (y18 : Nat), .bool h19, .int .u64 (x19 : Nat), .int .u64 (y19 : Nat), .bool b20, .bool b21, .bool h22, .int .u64 (x22 : Nat), .int .u64 (y22 : Nat), .bool h23, .int .u64 (x23 : Nat), .int .u64 (y23 : Nat)] 38)).heap.size (w.alloc (.cells #[.string ⟨so.toArray⟩, .string ⟨ru.toArray⟩, .slice a1 N c1, .bool b3, .bool b4, .bool b5, .bool h6, .int .u64 (x6 : Nat), .int .u64 (y6 : Nat), .int .u64 (n7 : Nat), .int .u64 (n8 : Nat), .int .u64 (n9 : Nat), .int .u64 (n10 : Nat), .int .u64 (n11 : Nat), .int .u64 (n12 : Nat), .int .u64 (n13 : Nat), .int .u64 (n14 : Nat), .bool h15, .int .u64 (x15 : Nat), .int .u64 (y15 : Nat), .bool h16, .int .u64 (x16 : Nat), .int .u64 (y16 : Nat), .bool h17, .int .u64 (x17 : Nat), .int .u64 (y17 : Nat), .bool h18, .int .u64 (x18 : Nat), .int .u64 (y18 : Nat), .bool h19, .int .u64 (x19 : Nat), .int .u64 (y19 : Nat), .bool b20, .bool b21, .bool h22, .int .u64 (x22 : Nat), .int .u64 (y22 : Nat), .bool h23, .int .u64 (x23 : Nat), .int .u64 (y23 : Nat)] 38))).alloc (Nat.le_refl _) (.cells #[.string ⟨so.toArray⟩, .string ⟨ru.toArray⟩, .slice a2 N c2, .bool b3, .bool b4, .bool b5, .bool h6, .int .u64 (x6 : Nat), .int .u64 (y6 : Nat), .int .u64 (n7 : Nat), .int .u64 (n8 : Nat), .int .u64 (n9 : Nat), .int .u64 (n10 : Nat), .int .u64 (n11 : Nat), .int .u64 (n12 : Nat), .int .u64 (n13 : Nat), .int .u64 (n14 : Nat), .bool h15, .int .u64 (x15 : Nat), .int .u64 (y15 : Nat), .bool h16, .int .u64 (x16 : Nat), .int .u64 (y16 : Nat), .bool h17, .int .u64 (x17 : Nat), .int .u64 (y17 : Nat), .bool h18, .int .u64 (x18 : Nat), .int .u64 (y18 : Nat), .bool h19, .int .u64 (x19 : Nat), .int .u64 (y19 : Nat), .bool b20, .bool b21, .bool h22, .int .u64 (x22 : Nat), .int .u64 (y22 : Nat), .bool h23, .int .u64 (x23 : Nat), .int .u64 (y23 : Nat)] 38)
  have hbb := hb1.trans (hb2.mono hb1.size)
  have HB0 := hide hbb
  have sz : (w.alloc (.cells #[.string ⟨so.toArray⟩, .string ⟨ru.toArray⟩, .slice a1 N c1, .bool b3, .bool b4, .bool b5, .bool h6, .int .u64 (x6 : Nat), .int .u64 (y6 : Nat), .int .u64 (n7 : Nat), .int .u64 (n8 : Nat), .int .u64 (n9 : Nat), .int .u64 (n10 : Nat), .int .u64 (n11 : Nat), .int .u64 (n12 : Nat), .int .u64 (n13 : Nat), .int .u64 (n14 : Nat), .bool h15, .int .u64 (x15 : Nat), .int .u64 (y15 : Nat), .bool h16, .int .u64 (x16 : Nat), .int .u64 (y16 : Nat), .bool h17, .int .u64 (x17 : Nat), .int .u64 (y17 : Nat), .bool h18, .int .u64 (x18 : Nat), .int .u64 (y18 : Nat), .bool h19, .int .u64 (x19 : Nat), .int .u64 (y19 : Nat), .bool b20, .bool b21, .bool h22, .int .u64 (x22 : Nat), .int .u64 (y22 : Nat), .bool h23, .int .u64 (x23 : Nat), .int .u64 (y23 : Nat)] 38)).heap.size = w.heap.size + 1 := by simp
  have HX0 := hide (block_stay (heap_alloc_new w (.cells #[.string ⟨so.toArray⟩, .string ⟨ru.toArray⟩, .slice a1 N c1, .bool b3, .bool b4, .bool b5, .bool h6, .int .u64 (x6 : Nat), .int .u64 (y6 : Nat), .int .u64 (n7 : Nat), .int .u64 (n8 : Nat), .int .u64 (n9 : Nat), .int .u64 (n10 : Nat), .int .u64 (n11 : Nat), .int .u64 (n12 : Nat), .int .u64 (n13 : Nat), .int .u64 (n14 : Nat), .bool h15, .int .u64 (x15 : Nat), .int .u64 (y15 : Nat), .bool h16, .int .u64 (x16 : Nat), .int .u64 (y16 : Nat), .bool h17, .int .u64 (x17 : Nat), .int .u64 (y17 : Nat), .bool h18, .int .u64 (x18 : Nat), .int .u64 (y18 : Nat), .bool h19, .int .u64 (x19 : Nat), .int .u64 (y19 : Nat), .bool b20, .bool b21, .bool h22, .int .u64 (x22 : Nat), .int .u64 (y22 : Nat), .bool h23, .int .u64 (x23 : Nat), .int .u64 (y23 : Nat)] 38)) hb2)
  have hy := heap_alloc_new (w.alloc (.cells #[.string ⟨so.toArray⟩, .string ⟨ru.toArray⟩, .slice a1 N c1, .bool b3, .bool b4, .bool b5, .bool h6, .int .u64 (x6 : Nat), .int .u64 (y6 : Nat), .int .u64 (n7 : Nat), .int .u64 (n8 : Nat), .int .u64 (n9 : Nat), .int .u64 (n10 : Nat), .int .u64 (n11 : Nat), .int .u64 (n12 : Nat), .int .u64 (n13 : Nat), .int .u64 (n14 : Nat), .bool h15, .int .u64 (x15 : Nat), .int .u64 (y15 : Nat), .bool h16, .int .u64 (x16 : Nat), .int .u64 (y16 : Nat), .bool h17, .int .u64 (x17 : Nat), .int .u64 (y17 : Nat), .bool h18, .int .u64 (x18 : Nat), .int .u64 (y18 : Nat), .bool h19, .int .u64 (x19 : Nat), .int .u64 (y19 : Nat), .bool b20, .bool b21, .bool h22, .int .u64 (x22 : Nat), .int .u64 (y22 : Nat), .bool h23, .int .u64 (x23 : Nat), .int .u64 (y23 : Nat)] 38)) (.cells #[.string ⟨so.toArray⟩, .string ⟨ru.toArray⟩, .slice a2 N c2, .bool b3, .bool b4, .bool b5, .bool h6, .int .u64 (x6 : Nat), .int .u64 (y6 : Nat), .int .u64 (n7 : Nat), .int .u64 (n8 : Nat), .int .u64 (n9 : Nat), .int .u64 (n10 : Nat), .int .u64 (n11 : Nat), .int .u64 (n12 : Nat), .int .u64 (n13 : Nat), .int .u64 (n14 : Nat), .bool h15, .int .u64 (x15 : Nat), .int .u64 (y15 : Nat), .bool h16, .int .u64 (x16 : Nat), .int .u64 (y16 : Nat), .bool h17, .int .u64 (x17 : Nat), .int .u64 (y17 : Nat), .bool h18, .int .u64 (x18 : Nat), .int .u64 (y18 : Nat), .bool h19, .int .u64 (x19 : Nat), .int .u64 (y19 : Nat), .bool b20, .bool b21, .bool h22, .int .u64 (x22 : Nat), .int .u64 (y22 : Nat), .bool h23, .int .u64 (x23 : Nat), .int .u64 (y23 : Nat)] 38)
  rw [sz] at hy
  have HY0 := hide hy
  have HL1 := hide (h1.below hbb)
  have HL2 := hide (h2.below hbb)
  have HN := hide hN
  have hcap : N ≤ 9223372036854775807 := by
    obtain ⟨_, _, e, k1, k2, _⟩ := h1
    unfold maxLen at k2; omega
  clear h1 h2 hN hb1 hb2 hbb hy sz
  go_enter Tryd.func9, Tryd.ntmps9
  go_wp2_with fail
  generalize (w.alloc _).alloc _ = w0 at *
  generalize hsz : w.heap.size = Z at *
  have HSZ := hide hsz
  clear hsz
  have p2 := cells_of_block HX0.out 2 (.slice a1 N c1) rfl
  have q2 := cells_of_block HY0.out 2 (.slice a2 N c2) rfl
  go_wp2_with fail
  clear p2 q2
  go_loopw [5] (fun v5 wr => ∃ i : Nat, v5 = .int .i64 i ∧ i ≤ N ∧ Hid (Below w0.heap.size w0 wr)) (fun v5 _ => N - (intOf v5).toNat)
  case atStart => exact ⟨0, rfl, by omega, Below.refl _ _⟩
  case round =>
    obtain ⟨i, rfl, hi, HB⟩ := hrel
    have p2 := cells_of_block (block_stay HX0.out HB.out) 2 (.slice a1 N c1) rfl
    have q2 := cells_of_block (block_stay HY0.out HB.out) 2 (.slice a2 N c2) rfl
    by_cases hlt : i < N
    · have hltI : (i : Int) < (N : Int) := by omega
      have hil : i < L.length := by rw [HN.out]; exact hlt
      obtain ⟨g1, rfl, d1⟩ := (HL1.out.below HB.out).at i hil
      obtain ⟨g2, rfl, d2⟩ := (HL2.out.below HB.out).at i hil
      generalize L[i] = t at d1 d2
      go_wp2_with fail
      go_quiet (fail)
      go_wp2
      go_roundw
      case rel => exact ⟨i + 1, by go_num, by omega, by first | exact HB.out.trans (bel_drewN (Below.refl _ _) _ |>.mono HB.out.size) | exact HB.out.drew⟩
      case measure => simp [intOf]; omega
    · have hltI : ¬ (i : Int) < (N : Int) := by omega
      have p0 := cells_of_block (block_stay HX0.out HB.out) 0 (.string ⟨so.toArray⟩) rfl
      have q0 := cells_of_block (block_stay HY0.out HB.out) 0 (.string ⟨so.toArray⟩) rfl
      have p1 := cells_of_block (block_stay HX0.out HB.out) 1 (.string ⟨ru.toArray⟩) rfl
      have q1 := cells_of_block (block_stay HY0.out HB.out) 1 (.string ⟨ru.toArray⟩) rfl
      have p3 := cells_of_block (block_stay HX0.out HB.out) 3 (.bool b3) rfl
      have q3 := cells_of_block (block_stay HY0.out HB.out) 3 (.bool b3) rfl
      have p4 := cells_of_block (block_stay HX0.out HB.out) 4 (.bool b4) rfl
      have q4 := cells_of_block (block_stay HY0.out HB.out) 4 (.bool b4) rfl
      have p5 := cells_of_block (block_stay HX0.out HB.out) 5 (.bool b5) rfl
      have q5 := cells_of_block (block_stay HY0.out HB.out) 5 (.bool b5) rfl
      have p6 := cells_of_block (block_stay HX0.out HB.out) 6 (.bool h6) rfl
      have q6 := cells_of_block (block_stay HY0.out HB.out) 6 (.bool h6) rfl
      have p7 := cells_of_block (block_stay HX0.out HB.out) 7 (.int .u64 (x6 : Nat)) rfl
      have q7 := cells_of_block (block_stay HY0.out HB.out) 7 (.int .u64 (x6 : Nat)) rfl
      have p8 := cells_of_block (block_stay HX0.out HB.out) 8 (.int .u64 (y6 : Nat)) rfl
      have q8 := cells_of_block (block_stay HY0.out HB.out) 8 (.int .u64 (y6 : Nat)) rfl
      have p9 := cells_of_block (block_stay HX0.out HB.out) 9 (.int .u64 (n7 : Nat)) rfl
      have q9 := cells_of_block (block_stay HY0.out HB.out) 9 (.int .u64 (n7 : Nat)) rfl
      have p10 := cells_of_block (block_stay HX0.out HB.out) 10 (.int .u64 (n8 : Nat)) rfl
      have q10 := cells_of_block (block_stay HY0.out HB.out) 10 (.int .u64 (n8 : Nat)) rfl
      have p11 := cells_of_block (block_stay HX0.out HB.out) 11 (.int .u64 (n9 : Nat)) rfl
      have q11 := cells_of_block (block_stay HY0.out HB.out) 11 (.int .u64 (n9 : Nat)) rfl
      have p12 := cells_of_block (block_stay HX0.out HB.out) 12 (.int .u64 (n10 : Nat)) rfl
      have q12 := cells_of_block (block_stay HY0.out HB.out) 12 (.int .u64 (n10 : Nat)) rfl
      have p13 := cells_of_block (block_stay HX0.out HB.out) 13 (.int .u64 (n11 : Nat)) rfl
      have q13 := cells_of_block (block_stay HY0.out HB.out) 13 (.int .u64 (n11 : Nat)) rfl
      have p14 := cells_of_block (block_stay HX0.out HB.out) 14 (.int .u64 (n12 : Nat)) rfl
      have q14 := cells_of_block (block_stay HY0.out HB.out) 14 (.int .u64 (n12 : Nat)) rfl
      have p15 := cells_of_block (block_stay HX0.out HB.out) 15 (.int .u64 (n13 : Nat)) rfl
      have q15 := cells_of_block (block_stay HY0.out HB.out) 15 (.int .u64 (n13 : Nat)) rfl
      have p16 := cells_of_block (block_stay HX0.out HB.out) 16 (.int .u64 (n14 : Nat)) rfl
      have q16 := cells_of_block (block_stay HY0.out HB.out) 16 (.int .u64 (n14 : Nat)) rfl
      have p17 := cells_of_block (block_stay HX0.out HB.out) 17 (.bool h15) rfl
      have q17 := cells_of_block (block_stay HY0.out HB.out) 17 (.bool h15) rfl
      have p18 := cells_of_block (block_stay HX0.out HB.out) 18 (.int .u64 (x15 : Nat)) rfl
      have q18 := cells_of_block (block_stay HY0.out HB.out) 18 (.int .u64 (x15 : Nat)) rfl
      have p19 := cells_of_block (block_stay HX0.out HB.out) 19 (.int .u64 (y15 : Nat)) rfl
      have q19 := cells_of_block (block_stay HY0.out HB.out) 19 (.int .u64 (y15 : Nat)) rfl
      have p20 := cells_of_block (block_stay HX0.out HB.out) 20 (.bool h16) rfl
      have q20 := cells_of_block (block_stay HY0.out HB.out) 20 (.bool h16) rfl
      have p21 := cells_of_block (block_stay HX0.out HB.out) 21 (.int .u64 (x16 : Nat)) rfl
      have q21 := cells_of_block (block_stay HY0.out HB.out) 21 (.int .u64 (x16 : Nat)) rfl
      have p22 := cells_of_block (block_stay HX0.out HB.out) 22 (.int .u64 (y16 : Nat)) rfl
      have q22 := cells_of_block (block_stay HY0.out HB.out) 22 (.int .u64 (y16 : Nat)) rfl
      have p23 := cells_of_block (block_stay HX0.out HB.out) 23 (.bool h17) rfl
      have q23 := cells_of_block (block_stay HY0.out HB.out) 23 (.bool h17) rfl
      have p24 := cells_of_block (block_stay HX0.out HB.out) 24 (.int .u64 (x17 : Nat)) rfl
      have q24 := cells_of_block (block_stay HY0.out HB.out) 24 (.int .u64 (x17 : Nat)) rfl
      have p25 := cells_of_block (block_stay HX0.out HB.out) 25 (.int .u64 (y17 : Nat)) rfl
      have q25 := cells_of_block (block_stay HY0.out HB.out) 25 (.int .u64 (y17 : Nat)) rfl
      have p26 := cells_of_block (block_stay HX0.out HB.out) 26 (.bool h18) rfl
      have q26 := cells_of_block (block_stay HY0.out HB.out) 26 (.bool h18) rfl
      have p27 := cells_of_block (block_stay HX0.out HB.out) 27 (.int .u64 (x18 : Nat)) rfl
      have q27 := cells_of_block (block_stay HY0.out HB.out) 27 (.int .u64 (x18 : Nat)) rfl
      have p28 := cells_of_block (block_stay HX0.out HB.out) 28 (.int .u64 (y18 : Nat)) rfl
      have q28 := cells_of_block (block_stay HY0.out HB.out) 28 (.int .u64 (y18 : Nat)) rfl
      have p29 := cells_of_block (block_stay HX0.out HB.out) 29 (.bool h19) rfl
      have q29 := cells_of_block (block_stay HY0.out HB.out) 29 (.bool h19) rfl
      have p30 := cells_of_block (block_stay HX0.out HB.out) 30 (.int .u64 (x19 : Nat)) rfl
      have q30 := cells_of_block (block_stay HY0.out HB.out) 30 (.int .u64 (x19 : Nat)) rfl
      have p31 := cells_of_block (block_stay HX0.out HB.out) 31 (.int .u64 (y19 : Nat)) rfl
      have q31 := cells_of_block (block_stay HY0.out HB.out) 31 (.int .u64 (y19 : Nat)) rfl
      have p32 := cells_of_block (block_stay HX0.out HB.out) 32 (.bool b20) rfl
      have q32 := cells_of_block (block_stay HY0.out HB.out) 32 (.bool b20) rfl
      have p33 := cells_of_block (block_stay HX0.out HB.out) 33 (.bool b21) rfl
      have q33 := cells_of_block (block_stay HY0.out HB.out) 33 (.bool b21) rfl
      have p34 := cells_of_block (block_stay HX0.out HB.out) 34 (.bool h22) rfl
      have q34 := cells_of_block (block_stay HY0.out HB.out) 34 (.bool h22) rfl
      have p35 := cells_of_block (block_stay HX0.out HB.out) 35 (.int .u64 (x22 : Nat)) rfl
      have q35 := cells_of_block (block_stay HY0.out HB.out) 35 (.int .u64 (x22 : Nat)) rfl
      have p36 := cells_of_block (block_stay HX0.out HB.out) 36 (.int .u64 (y22 : Nat)) rfl
      have q36 := cells_of_block (block_stay HY0.out HB.out) 36 (.int .u64 (y22 : Nat)) rfl
      have p37 := cells_of_block (block_stay HX0.out HB.out) 37 (.bool h23) rfl
      have q37 := cells_of_block (block_stay HY0.out HB.out) 37 (.bool h23) rfl
      have p38 := cells_of_block (block_stay HX0.out HB.out) 38 (.int .u64 (x23 : Nat)) rfl
      have q38 := cells_of_block (block_stay HY0.out HB.out) 38 (.int .u64 (x23 : Nat)) rfl
      have p39 := cells_of_block (block_stay HX0.out HB.out) 39 (.int .u64 (y23 : Nat)) rfl
      have q39 := cells_of_block (block_stay HY0.out HB.out) 39 (.int .u64 (y23 : Nat)) rfl
      go_wp2
      go_ret
      exact ⟨rfl, by rw [HSZ.out]; exact HB0.out.trans (HB.out.mono (by have := HB0.out.size; have := HSZ.out; omega))⟩
end Go.Proofs.YtibfiikjelmhmaaDoor
namespace Go.Proofs.YtibfiikjelmhmaaDoor
open Go.RowKit Go.PlainAid Go.Sort
namespace L9n
theorem text_plain {s : List UInt8} {p : Nat} (h : (textAt s p).2 = 0) : plain (textAt s p).1 = true := by
  unfold textAt at h ⊢
  split
  · rename_i hz; rw [hz] at h; simp at h
  · rename_i k hz
    rw [hz] at h
    simp only at h ⊢
    split
    · rename_i hp; exact hp
    · rename_i hp; rw [if_neg hp] at h; simp at h
theorem name_plain {s : List UInt8} {E : List De} {t : Nat} {x : List UInt8} (h : nameT s E t = some x) : plain x = true := by
  unfold nameT at h
  split at h
  · split at h
    · rename_i h0; injection h with h; subst h; exact text_plain h0
    · cases h
  · injection h with h; subst h; rfl
theorem needL_ok {s : List UInt8} : ∀ {E : List De} {L : List (List UInt8)}, needL s E = .ok L → L.length = cntT E 1 ∧ ∀ t ∈ L, t ≠ [] ∧ plain t = true
  | [], L, h => by simp [needL] at h; subst h; exact ⟨rfl, fun t ht => by simp at ht⟩
  | e :: r, L, h => by
    unfold needL at h
    rw [cnt_cons]
    split at h
    · rename_i ht
      rw [if_pos ht]
      split at h
      · cases h
      · rename_i h0
        split at h
        · cases h
        · rename_i hne
          cases hn : needL s r with
          | error q => rw [hn] at h; cases h
          | ok M =>
            rw [hn] at h
            injection h with h
            subst h
            obtain ⟨k1, k2⟩ := needL_ok hn
            refine ⟨by simp [k1]; omega, fun t ht => ?_⟩
            simp only [List.mem_cons] at ht
            rcases ht with rfl | ht
            · exact ⟨hne, text_plain (Decidable.byContradiction fun c => h0 c)⟩
            · exact k2 t ht
    · rename_i ht
      rw [if_neg ht, Nat.zero_add]
      exact needL_ok h
theorem facts {l : List UInt8} {h : Hd} {E : List De} {so ru : List UInt8} {L : List (List UInt8)} (e : dynZ l h = .ok ⟨E, so, ru, L⟩) : plain so = true ∧ plain ru = true ∧ L.length ≤ 16 ∧ (∀ t ∈ L, t ≠ [] ∧ plain t = true) ∧ rightB E = true := by
  unfold dynZ at e
  split at e
  · cases e
  · split at e
    · cases e
    · split at e
      · cases e
      · rename_i hr
        split at e
        · cases e
        · split at e
          · cases e
          · rename_i so' h14
            split at e
            · cases e
            · rename_i ru' h29
              split at e
              · cases e
              · rename_i h16
                split at e
                · cases e
                · rename_i ns hn
                  injection e with e
                  injection e with e1 e2 e3 e4
                  subst e1 e2 e3 e4
                  obtain ⟨k1, k2⟩ := needL_ok hn
                  exact ⟨name_plain h14, name_plain h29, by omega, k2, by simpa using hr⟩
theorem right_pair {E : List De} (h : rightB E = true) : ∀ p ∈ pairsL, cntT E p.tag = cntT E p.val := by
  unfold rightB at h
  simp only [Bool.and_eq_true, List.all_eq_true] at h
  intro p hp
  have := h.2.1 p hp
  unfold pP at this
  simpa using this
theorem right_has {E : List De} (h : rightB E = true) : decide (cntT E 5 = 1) = true := by
  have hs := right_single h 5 (by decide)
  unfold rightB mustB at h
  simp only [Bool.and_eq_true] at h
  have := h.2.2.2.1.1
  simp at this
  exact decide_eq_true (by omega)
theorem no_area {E : List De} (h : rightB E = true) (t u : Nat) (ht : t ∈ singlesL) (hp : (⟨t, u⟩ : De) ∈ pairsL) (hc : decide (cntT E t = 1) = false) : valT E t = 0 ∧ valT E u = 0 := by
  have h1 := right_single h t ht
  have h2 : cntT E t = cntT E u := right_pair h ⟨t, u⟩ hp
  have h3 : ¬ cntT E t = 1 := by simpa using hc
  exact ⟨val_none E t (by omega), val_none E u (by omega)⟩
theorem dy_lit (so ru : List UInt8) (E : List De) (h : rightB E = true) : ∃ (b3 b4 b5 b20 b21 h6 h15 h16 h17 h18 h19 h22 h23 : Bool) (n7 n8 n9 n10 n11 n12 n13 n14 x6 y6 x15 y15 x16 y16 x17 y17 x18 y18 x19 y19 x22 y22 x23 y23 : Nat), (h6 = true ∧ (h15 = false → x15 = 0 ∧ y15 = 0) ∧ (h16 = false → x16 = 0 ∧ y16 = 0) ∧ (h17 = false → x17 = 0 ∧ y17 = 0 ∧ b20 = false) ∧ (h18 = false → x18 = 0 ∧ y18 = 0) ∧ (h19 = false → x19 = 0 ∧ y19 = 0 ∧ b21 = false)) ∧
    ∀ (a : Option Addr) (N c : Nat), dyCells so ru (.slice a N c) E = [.string ⟨so.toArray⟩, .string ⟨ru.toArray⟩, .slice a N c, .bool b3, .bool b4, .bool b5, .bool h6, .int .u64 (x6 : Nat), .int .u64 (y6 : Nat), .int .u64 (n7 : Nat), .int .u64 (n8 : Nat), .int .u64 (n9 : Nat), .int .u64 (n10 : Nat), .int .u64 (n11 : Nat), .int .u64 (n12 : Nat), .int .u64 (n13 : Nat), .int .u64 (n14 : Nat), .bool h15, .int .u64 (x15 : Nat), .int .u64 (y15 : Nat), .bool h16, .int .u64 (x16 : Nat), .int .u64 (y16 : Nat), .bool h17, .int .u64 (x17 : Nat), .int .u64 (y17 : Nat), .bool h18, .int .u64 (x18 : Nat), .int .u64 (y18 : Nat), .bool h19, .int .u64 (x19 : Nat), .int .u64 (y19 : Nat), .bool b20, .bool b21, .bool h22, .int .u64 (x22 : Nat), .int .u64 (y22 : Nat), .bool h23, .int .u64 (x23 : Nat), .int .u64 (y23 : Nat)] := by
  have hPlt : decide (cntT E 23 = 1) = false → valT E 23 = 0 ∧ valT E 2 = 0 ∧ decide (valT E 20 = 7) = false := fun hc => by
    obtain ⟨k1, k2⟩ := no_area h 23 2 (by decide) (by simp [pairsL]) hc
    obtain ⟨_, k3⟩ := no_area h 23 20 (by decide) (by simp [pairsL]) hc
    exact ⟨k1, k2, by rw [k3]; rfl⟩
  cases hp : packB E with
  | false => exact ⟨_, _, _, _, _, _, _, _, _, _, _, _, _, _, _, _, _, _, _, _, _, _, _, _, _, _, _, _, _, _, _, _, _, _, _, _, _, ⟨right_has h, no_area h 17 18 (by decide) (by simp [pairsL]), no_area h 7 8 (by decide) (by simp [pairsL]), hPlt, no_area h 36 35 (by decide) (by simp [pairsL]), fun hc => ⟨(no_area h 1610612751 1610612752 (by decide) (by simp [pairsL]) hc).1, (no_area h 1610612751 1610612752 (by decide) (by simp [pairsL]) hc).2, rfl⟩⟩, fun a N c => by unfold dyCells dyTail; rw [hp]; rfl⟩
  | true =>
    have hp2 : decide (cntT E 1610612753 = 1) = true := hp
    refine ⟨_, _, _, _, _, _, _, _, _, _, _, _, _, _, _, _, _, _, _, _, _, _, _, _, _, _, _, _, _, _, _, _, _, _, _, _, _, ⟨right_has h, no_area h 17 18 (by decide) (by simp [pairsL]), no_area h 7 8 (by decide) (by simp [pairsL]), hPlt, no_area h 36 35 (by decide) (by simp [pairsL]), ?_⟩, fun a N c => by unfold dyCells dyTail; rw [hp]; rfl⟩
    intro hc
    rw [hp2] at hc
    cases hc
end L9n
end Go.Proofs.YtibfiikjelmhmaaDoor
namespace Go.Proofs.YtibfiikjelmhmaaDoor
open Go.RowKit Go.PlainAid Go.Sort
def oneEnt : List UInt8 := leN 8 1 ++ leN 8 77 ++ List.replicate 16 0
theorem ents_one : entsZ oneEnt = some [⟨1, 77⟩] := by kernel_rfl
theorem ents_none : entsZ [] = none := by kernel_rfl
theorem one_len : oneEnt.length = 32 := by kernel_rfl
theorem nil_arg (w : World) : Arg w (.slice none 0 0) [] := ⟨none, 0, rfl, by simp, by simp, by simp, .inl ⟨rfl, rfl, rfl⟩⟩
set_option maxHeartbeats 2000000 in
theorem alive09 (w : World) : Calls Tryd.prog 6 #[] w fun e w' => e = .returned (.bool true) ∧ Below w.heap.size w w' := by
  have S0 : Hid (Sm w w (.slice none 0 0) []) := ⟨Own.nil _ _, Below.refl _ _⟩
  have hP := sm_Put S0 (by simp [Hid]) 1 8 (by omega) (by omega)
  clear S0
  go_enter Tryd.func6, Tryd.ntmps6
  go_wp2_with fail
  refine hP.mono ?_
  rintro e w1 ⟨v1, rfl, S1⟩
  have hP1 := sm_Put S1 (by simp [Hid, leN_length]) 77 8 (by omega) (by omega)
  clear hP S1
  go_wp2_with fail
  refine hP1.mono ?_
  rintro e w2 ⟨v2, rfl, S2⟩
  have hZ := sm_Zeros S2 (by simp [Hid, leN_length]) 16 (by omega)
  clear hP1 S2
  go_wp2_with fail
  refine hZ.mono ?_
  rintro e w3 ⟨v3, rfl, S3⟩
  have hE := dyn_Entries w3 v3 oneEnt (by have := S3.out.own; rw [List.nil_append] at this; exact this.arg (show oneEnt.length ≤ _ by rw [one_len]; omega)) (by rw [one_len]; omega)
  rw [ents_one] at hE
  clear hZ
  go_wp2_with fail
  refine hE.mono ?_
  rintro e w4 ⟨⟨v4, rfl, own4⟩, hb4⟩
  have HB4 : Hid (Below w.heap.size w w4) := S3.out.bel.trans (hb4.mono S3.out.bel.size)
  have HA4 := hide (own4.arg (by simp))
  obtain ⟨a4, c4, rfl⟩ := HA4.out.form
  clear hE hb4 own4 S3
  have hN := dyn_Entries w4 (.slice none 0 0) [] (nil_arg w4) (by simp)
  rw [ents_none] at hN
  have hN2 : Calls Tryd.prog 20 #[.slice none 0 0] w4 fun e w' => e = .returned (.tuple #[.slice none 0 0, .int .i64 90]) ∧ Below w4.heap.size w4 w' := hN
  clear hN
  simp only [List.length_cons, List.length_nil, Nat.zero_add] at *
  go_wp2_with fail
  refine hN2.mono ?_
  rintro e w5 ⟨rfl, hb5⟩
  have HB5 : Hid (Below w.heap.size w w5) := HB4.out.trans (hb5.mono HB4.out.size)
  obtain ⟨g, rfl, p1, p2, _, y0, y1⟩ := (HA4.out.below hb5).at 0 (by simp)
  simp only [List.getElem_cons_zero, Nat.zero_mul, Nat.zero_add] at y0 y1
  clear hN2 hb5
  go_wp2
  go_ret
  exact ⟨rfl, HB5.out⟩
end Go.Proofs.YtibfiikjelmhmaaDoor
namespace Go.Proofs.YtibfiikjelmhmaaDoor
open Go.RowKit Go.PlainAid
theorem wrap_and_shaped {H : Type} {enc : TypeId × Value → H} {a : Assume} {C : Checked} {os : Os} {f : FuncId} {fn : Func} {s : ChangeSpec} {conds : List PathCond} {apart fresh handsOn again : Bool} {X : World → Array Value → Prop}
    (hX : ∀ (w w' : World) (args : Array Value), w.heap = w'.heap → X w args → X w' args)
    (own : ownKnob C.prog.godebug = none) (started : os.Started) (noInit : C.prog.inits.idxOf? f = none) (hfn : C.prog.funcs[f]? = some fn)
    (witness : ∃ (w : World) (tape : Tape) (i : Input), w.os = os ∧ (w.forCall tape i).Shaped C.prog ∧ i.vars = [] ∧ Input.okWide C.prog (w.forCall tape i) .any w.heap.size f i ∧
      ((s.pre enc C.prog fn conds apart (w.forCall tape i).memory i.args ∧ X (w.forCall tape i).memory i.args) ∧ sizedMet enc C.prog fn (OpenSpec.ofChange s) apart (w.forCall tape i).memory i.args) ∧ a.holds C.prog (lone (Frame.enter C.prog f i.args .normal) [] (w.forCall tape i)))
    (contract : ∀ (W : World) (base : Nat) (args : Array Value) (ds gs : List (DataW H)) (before : List MemPlace),
      (∀ (j : Nat) t v, fn.params[j]? = some t → args[j]? = some v → Value.okWide C.prog W .any base t v) →
      DataW.Whole enc C.prog fn.params.toList s.vars apart W args.toList ds gs before →
      conds.all (PathCond.test C.prog ⟨fn.params.toList, ds, s.plain.varTypes C.prog, gs⟩) = true →
      (DataW.weightsEach C.prog (fn.params.toList ++ s.plain.varTypes C.prog) (ds ++ gs)).all (· ≤ reachBytes) = true → X W args → W.ShapedOpen C.prog →
      Calls C.prog f args W fun e W' => ∃ v, e = .returned v ∧ s.post enc C.prog fn apart fresh handsOn again W args v W') :
    ReturnsInHanded a C os f .any (fun w args => (s.pre enc C.prog fn conds apart w args ∧ X w args) ∧ sizedMet enc C.prog fn (OpenSpec.ofChange s) apart w args) (s.post enc C.prog fn apart fresh handsOn again) := by
  refine returnsInHanded_of_calls own started noInit witness ?_
  intro w tape i _ hsh _ hok hpre _
  obtain ⟨_, _, _, fn', hfn', _, _, _, _, hval⟩ := hok
  have e : fn' = fn := Option.some.inj (hfn'.symm.trans hfn)
  subst e
  obtain ⟨⟨⟨ds, gs, before, hw, hc⟩, hx⟩, hz⟩ := hpre
  have hw' := DataW.Whole.of_heap (w' := w.forCall tape i) (by rfl) hw
  refine (contract (w.forCall tape i) w.heap.size i.args ds gs before hval hw' hc (hz.weights hw) (hX _ _ _ (by rfl) hx) hsh).mono fun e W' ⟨v, he, hp⟩ => ?_
  subst he
  exact ChangeSpec.post_blind hp
def prL : List (Int × Int) := [(5, 10), (17, 18), (7, 8), (23, 2), (23, 20), (36, 35), (1610612751, 1610612752), (1610612753, 1610612754), (25, 27), (26, 28), (1879048188, 1879048189), (1879048190, 1879048191)]
theorem pr_laid : (Rows.laid_messuage_dyn_pairs : DataW Unit) = .agg (prL.map fun p => .agg [.lit (.int .u64 p.1), .lit (.int .u64 p.2)]) := rfl
theorem cells_u6 : Tryd.prog.cellsOf 26 = 1 := by kernel_rfl
theorem cells_2 : Tryd.prog.cellsOf 92 = 2 := by kernel_rfl
theorem cells_24 : Tryd.prog.cellsOf 93 = 24 := by kernel_rfl
set_option maxRecDepth 20000 in
theorem two_trod {H : Type} {enc : TypeId × Value → H} {W : World} {base : Nat} {sp : Nat → Bool} {held : Bool} {fuel : Nat} {cs : List Value} {ps : List MemPlace} {x y : Int}
    (hd : DataW.trod enc Tryd.prog W base sp held fuel 92 cs = some (.agg [.lit (.int .u64 x), .lit (.int .u64 y)], ps)) : cs = [.int .u64 x, .int .u64 y] := by
  obtain ⟨xs, m, _, hx, hlen, hn, hel⟩ := DataW.trod_array Tryd.underlying92 hd
  rw [cells_2] at hlen
  match cs, hlen with
  | [a, b], _ =>
    match xs, hn with
    | [u, v], _ =>
      have h0 := hel 0 (by omega)
      have h1 := hel 1 (by omega)
      rw [cells_u6] at h0 h1
      obtain ⟨k0, e1, e2, _⟩ := DataW.trod_int Tryd.underlying26 (x := u) h0
      obtain ⟨k1, f1, f2, _⟩ := DataW.trod_int Tryd.underlying26 (x := v) h1
      injection hx with hx1 hx2
      injection hx1 with hx1
      simp only [List.map_cons, List.map_nil, e2, f2] at hx1
      simp at e1 f1 hx1
      rw [e1, f1, hx1.1, hx1.2]
theorem row_mem {g k : Nat} (h : 0 < k) : MemPlace.cell g 0 ∈ MemPlace.row ⟨g, 0, none⟩ k := by
  unfold MemPlace.row
  exact List.mem_map.2 ⟨0, List.mem_range.2 h, rfl⟩
theorem pr_take : ∀ i, (h : i < prL.length) → (prs.drop (i * 2)).take 2 = [.int .u64 prL[i].1, .int .u64 prL[i].2] := by
  intro i h
  match i, h with
  | 0, _ => rfl
  | 1, _ => rfl
  | 2, _ => rfl
  | 3, _ => rfl
  | 4, _ => rfl
  | 5, _ => rfl
  | 6, _ => rfl
  | 7, _ => rfl
  | 8, _ => rfl
  | 9, _ => rfl
  | 10, _ => rfl
  | 11, _ => rfl
theorem prs_of {cs : List Value} (hl : cs.length = 24) (h : ∀ i, i < 12 → (cs.drop (i * 2)).take 2 = (prs.drop (i * 2)).take 2) : cs = prs := by
  apply List.ext_getElem?
  intro j
  by_cases hj : j < 24
  · have k := congrArg (fun l => l[j % 2]?) (h (j / 2) (by omega))
    simp only [List.getElem?_take, List.getElem?_drop] at k
    rw [if_pos (by omega), if_pos (by omega)] at k
    have e : j / 2 * 2 + j % 2 = j := by omega
    rw [e] at k
    exact k
  · rw [List.getElem?_eq_none (by omega), List.getElem?_eq_none (by have : prs.length = 24 := rfl; omega)]
theorem pairs_of_vars {laid : List (String × DataW Unit)} {W : World} (n : String) (hn : laid = [(n, Rows.laid_messuage_dyn_pairs)]) (hg : Tryd.prog.globalNamed n = some 0) (ht : (Tryd.prog.globals[0]?).map (·.type) = some 93)
    (hp : (laid.all fun x => x.2.handleName?.isNone) = true) (h : laidMetH Tryd.prog laid W) : PairsAt W := by
  rw [MakeChecks.laidMetH_plain _ _ _ hp] at h
  subst hn
  obtain ⟨ps, ⟨g0, t0, cs0, f0, p0, q0, hg0, ht0, hv0, hd0, _, hps⟩, _, hfz⟩ := h
  obtain rfl := Option.some.inj (hg.symm.trans hg0)
  obtain rfl := Option.some.inj (ht.symm.trans ht0)
  rw [pr_laid] at hd0
  obtain ⟨xs, m, _, hx, hlen, hn, hel⟩ := DataW.trod_array Tryd.underlying93 hd0
  rw [cells_24] at hlen
  injection hx with hx1 hx2
  injection hx1 with hx1
  have hcs : cs0.toList = prs := by
    refine prs_of hlen (fun i hi => ?_)
    have hk := hel i hi
    rw [cells_2, List.getElem?_eq_getElem (by omega)] at hk
    have hi2 : i < prL.length := hi
    have e : (xs.map (·.1))[i]? = some (.agg [.lit (.int .u64 prL[i].1), .lit (.int .u64 prL[i].2)]) := by
      rw [← hx1, List.getElem?_map, List.getElem?_eq_getElem hi2]; rfl
    rw [List.getElem?_map, List.getElem?_eq_getElem (by omega)] at e
    simp only [Option.map_some, Option.some.injEq] at e
    rw [pr_take i hi2]
    exact two_trod (ps := (xs[i]'(by omega)).2) (by rw [hk, ← e])
  have hz : 0 < cs0.size := by
    have : cs0.toList.length = 24 := hlen
    simp at this; omega
  obtain ⟨⟨c, t, hc⟩, _⟩ := hfz 0 0 (by
    rw [hps]
    simp only [List.mem_append]
    exact .inl (.inl (row_mem hz)))
  have hv : W.var? Tryd.prog n = some c := by
    simp only [World.var?, hg, Option.bind_some, hc]
  rw [hv0] at hv
  injection hv with hv
  subst hv
  refine ⟨t, ?_⟩
  rw [hc]
  have : cs0 = prs.toArray := by rw [← hcs]
  rw [this]
end Go.Proofs.YtibfiikjelmhmaaDoor
namespace Go.Proofs.YtibfiikjelmhmaaDoor
open Go.RowKit Go.Sort
namespace RgS
theorem wpList_of_quiet {P : Program} {ops : Array Oper} {C : World → Prop} {Q : Exit → Act → World → Prop} : ∀ (l : List Oper) (a : Act) (w : World), C w → wpQuiet P ops C (fun a' => ∀ w', C w' → Q .normal a' w') l a → wpList P ops Q l a w
  | [], a, w, hw, h => h w hw
  | o :: rest, a, w, hw, h => by
    unfold wpQuiet at h
    unfold wpList
    by_cases hx : Region.wanted o (yielded ops a.tmps) = true
    · rw [if_pos hx] at h ⊢
      exact .inl (Oper.wp_of_quiet hw (fun a w' hw' h => wpList_of_quiet rest a w' hw' h) h)
    · rw [if_neg hx] at h ⊢
      exact wpList_of_quiet rest _ w hw h
theorem wp_region_seq_below {P : Program} {id : Nat} {Q : Exit → Act → World → Prop} {a : Act} {w : World} {l : List Oper}
    (h : wpQuiet P l.toArray (fun w' => ∃ p : Regrown, w' = grow (redrawn w p.d) p.os) (fun a' => ∀ w', (∃ p : Regrown, w' = grow (redrawn w p.d) p.os) → Q .normal a' w') l a) : (Code.region id l.toArray false).wp P Q a w :=
  wp_region_lit (wpList_of_quiet l a w ⟨⟨w.drawn, #[]⟩, by rw [grow_empty]; rfl⟩ h)
end RgS
end Go.Proofs.YtibfiikjelmhmaaDoor
namespace Go.Proofs.YtibfiikjelmhmaaDoor
namespace LDynNeeds
open Go.ChangeShapes Go.WideShapes Go.ChangeAt Go.RowKit Go.PlainAid Go.Sort
open L9 (at_storeT alloc_opR alloc_hd at_allocT parse_dyn dyn_err alloc_dy)
set_option maxHeartbeats 40000000 in
set_option maxRecDepth 20000 in
theorem core (w : World) (v : Value) (l : List UInt8) (h : Arg w v l) (hl : l.length ≤ 262144) (hpr : PairsAt w) :
    Calls Tryd.prog 4 #[v] w fun e w' => e = .returned (.bool true) ∧ Below w.heap.size w w' := by
  have HA := hide h
  have hP := ref8_Parse w v l h (by omega)
  have HPO := hide (fun hd => parse_ok (l := l) (h := hd))
  have HPE := hide (fun k => parse_err (l := l) (k := k))
  have HPS := hide (fun hd (e : parseZ l = .ok hd) => parse_small e hl)
  have HPD := hide (fun hd (e : parseZ l = .ok hd) => parse_dyn e)
  have HPR := hide (fun W (hB : Below w.heap.size w W) => hpr.below hB)
  obtain ⟨a, cap, rfl, _⟩ := h.isSlice
  generalize parseZ l = O at *
  obtain ⟨n, hn⟩ : ∃ n, l.length = n := ⟨_, rfl⟩
  have HN := hide hn
  have HNL : Hid (l.length ≤ 1000000) := by unfold Hid; omega
  rw [hn] at hl hP HA ⊢
  have hnI : ¬ (262144 : Int) < (n : Int) := by omega
  clear h hn hpr
  go_enter Tryd.func4, Tryd.ntmps4
  go_wp2_with fail
  refine hP.mono ?_
  rintro e w1 ⟨hE, hb1⟩
  have HB1 := hide hb1
  have HA1 := hide (HA.out.below' hb1)
  have HZ1 : Hid ((w1.alloc (.cells zeroHd.toArray 30)).heap[w1.heap.size]? = some (.cells zeroHd.toArray 30 (0, 0))) := heap_alloc_new _ _
  have HC1 := hide (bel1 w1 (.cells zeroHd.toArray 30))
  clear hP hb1 HA
  cases O with
  | error k =>
    have hE' : e = _ := hE
    subst hE'
    have hk : ((k : Int) != 0) = true := by
      have := HPE.out k rfl
      simp; omega
    clear hE HPE HPS HPD HPO
    go_wp2_with (first
      | ((with_reducible refine at_allocT (T := 30) ?_); refine alloc_opR rfl rfl _ _ (alloc_hd _) ?_)
      | ((with_reducible refine at_storeT (T := 30) ?_); refine store_part rfl _ _ _ rfl w1.heap.size 0 30 _ zeroHd zeroHd.toArray HZ1.out rfl rfl hd_size (hd_one _ _ _ _ _ _) (by decide) (by rfl) ?_))
    intro w2 hg2 hb2
    have HB2 : Hid (Below w.heap.size w w2) := grown_below HB1.out.size (HB1.out.trans (HC1.out.mono HB1.out.size)) hb2
    have hAl := alive09 w2
    clear hg2 hb2 HZ1 HC1
    go_wp2_with fail
    refine hAl.mono ?_
    rintro e w3 ⟨rfl, hb3⟩
    have HB3 : Hid (Below w.heap.size w w3) := HB2.out.trans (hb3.mono HB2.out.size)
    clear hAl hb3
    go_wp2
    go_ret
    exact ⟨rfl, HB3.out⟩
  | ok hd =>
    obtain ⟨_, hph, hlen⟩ := HPO.out hd rfl
    have hsm := HPS.out hd rfl
    have HDO := hide (HPD.out hd rfl)
    obtain ⟨v1, rfl, hown⟩ := hE
    have hA1 := hown.arg (by omega)
    obtain ⟨a1, n1, c1, rfl⟩ : ∃ x n c, v1 = .slice x n c := by obtain ⟨x, c, e⟩ := hA1.form; exact ⟨_, _, _, e⟩
    have HPH := hide hph
    have HSM : Hid (∀ p ∈ hd.loads, p.off + p.filesz ≤ 1000000) := fun p hp => (hsm p hp).1
    have HLH := hide hA1
    clear HPO HPE HPS HPD hph hsm hown hA1 hlen
    go_wp2_with (first
      | ((with_reducible refine at_allocT (T := 30) ?_); refine alloc_opR rfl rfl _ _ (alloc_hd _) ?_)
      | ((with_reducible refine at_storeT (T := 30) ?_); refine store_part rfl _ _ _ rfl w1.heap.size 0 30 _ (hdCells hd.machine (.slice a1 n1 c1) hd.dynamic hd.relro) (hdCells hd.machine (.slice a1 n1 c1) hd.dynamic hd.relro).toArray HZ1.out rfl rfl hd_size (hd_one _ _ _ _ _ _) (Nat.le_refl 16) (by rfl) ?_))
    intro w2 hg2 hb2
    have HB12 : Hid (Below w1.heap.size w1 w2) := grown_below (Nat.le_refl _) HC1.out hb2
    have HG2 := hide hg2
    have HB2 : Hid (Below w.heap.size w w2) := HB1.out.trans (HB12.out.mono HB1.out.size)
    have HA2 := hide (HA1.out.below' HB12.out)
    have HLH2 := hide (HLH.out.below HB12.out)
    have kD := dyn_Parse w2 (.slice a n cap) l HA2.out HNL.out hd (.slice a1 n1 c1) HLH2.out HPH.out HSM.out HDO.out (HPR.out w2 HB2.out)
    have HDE := hide (fun k => dyn_err (l := l) (h := hd) (n := k))
    have HDF := hide (fun E so ru L => L9n.facts (l := l) (h := hd) (E := E) (so := so) (ru := ru) (L := L))
    obtain ⟨OD, hOD⟩ : ∃ o, dynZ l hd = o := ⟨_, rfl⟩
    rw [hOD] at kD HDE HDF
    clear hg2 hb2 HZ1 HC1 hOD HB1 HA1 HLH
    go_wp2_with ((with_reducible refine at_load ?_); refine load_row rfl _ _ rfl w1.heap.size _ (load_hd HG2.out rfl) rfl ?_)
    refine kD.mono ?_
    rintro e w3 ⟨hE, hb3⟩
    have HB3 : Hid (Below w.heap.size w w3) := HB2.out.trans (hb3.mono HB2.out.size)
    have HZ3 : Hid ((w3.alloc (.cells zeroDy.toArray 38)).heap[w3.heap.size]? = some (.cells zeroDy.toArray 38 (0, 0))) := heap_alloc_new _ _
    have HC3 := hide (bel1 w3 (.cells zeroDy.toArray 38))
    clear kD hb3 HG2 HB2 HA2 HLH2
    cases OD with
    | error k =>
      have hE' : e = _ := hE
      subst hE'
      have hk : ((k : Int) != 0) = true := by
        have := HDE.out k rfl
        simp; omega
      clear hE HDE HDF
      go_upto_region 7 with (first
        | ((with_reducible refine at_allocT (T := 38) ?_); refine alloc_opR rfl rfl _ _ (alloc_dy _) ?_)
        | ((with_reducible refine at_storeT (T := 38) ?_); refine store_part rfl _ _ _ rfl w3.heap.size 0 38 _ zeroDy zeroDy.toArray HZ3.out rfl rfl dy_size zeroDy_one (by decide) (by rfl) ?_; intro w4 h4 g4; have H4 := hide h4; have G4 := hide g4; clear h4 g4))
      have HB4 : Hid (Below w.heap.size w w4) := HB3.out.trans ((grown_below (Nat.le_refl _) HC3.out G4.out).mono HB3.out.size)
      have hT : ∀ W : World, ArgT W (.slice none 0 0) [] := fun W => ⟨none, 0, rfl, by simp, by unfold maxLen; simp, .inl rfl⟩
      have kS : Calls Tryd.prog 9 #[.agg zeroDy.toArray, .agg #[.string ⟨#[]⟩, .string ⟨#[]⟩, .slice none 0 0, .bool false, .bool false, .bool false, .bool false, .int .u64 0, .int .u64 0, .int .u64 0, .int .u64 0, .int .u64 0, .int .u64 0, .int .u64 0, .int .u64 0, .int .u64 0, .int .u64 0, .bool false, .int .u64 0, .int .u64 0, .bool false, .int .u64 0, .int .u64 0, .bool false, .int .u64 0, .int .u64 0, .bool false, .int .u64 0, .int .u64 0, .bool false, .int .u64 0, .int .u64 0, .bool false, .bool false, .bool false, .int .u64 0, .int .u64 0, .bool false, .int .u64 0, .int .u64 0]] w4 fun e w' => e = .returned (.bool true) ∧ Below w4.heap.size w4 w' := ref9_Same_yes w4 none none 0 0 0 [] rfl (hT w4) (hT w4) [] [] false false false false false false false false false false false false false 0 0 0 0 0 0 0 0 0 0 0 0 0 0 0 0 0 0 0 0 0 0 0 0
      clear HZ3 HC3 G4 hT
      go_wp2_with ((with_reducible refine at_loadD ?_); refine load_row rfl _ _ rfl w3.heap.size _ (load_dy H4.out rfl) rfl ?_)
      refine kS.mono ?_
      rintro e w5 ⟨rfl, hb5⟩
      have HB5 : Hid (Below w.heap.size w w5) := HB4.out.trans (hb5.mono HB4.out.size)
      have hAl := alive09 w5
      clear kS hb5 H4
      go_wp2_with fail
      refine hAl.mono ?_
      rintro e w6 ⟨rfl, hb6⟩
      have HB6 : Hid (Below w.heap.size w w6) := HB5.out.trans (hb6.mono HB5.out.size)
      clear hAl hb6
      go_wp2
      go_ret
      exact ⟨rfl, HB6.out⟩
    | ok D =>
      obtain ⟨E, so, ru, L⟩ := D
      obtain ⟨f1, f2, f3, f4, f5⟩ := HDF.out E so ru L rfl
      obtain ⟨vn, rfl, ho⟩ := hE
      obtain ⟨ta, tc, hv⟩ := ho.form
      have HT3 := hide ho.arg
      obtain ⟨N, hN⟩ : ∃ n, L.length = n := ⟨_, rfl⟩
      have HLN := hide hN
      subst hv
      rw [hN] at f3 HT3
      obtain ⟨b3, b4, b5, b20, b21, h6, h15, h16, h17, h18, h19, h22, h23, n7, n8, n9, n10, n11, n12, n13, n14, x6, y6, x15, y15, x16, y16, x17, y17, x18, y18, x19, y19, x22, y22, x23, y23, hfacts, hlit⟩ := L9n.dy_lit so ru E f5
      have hlit2 := hlit ta N tc
      have HFC := hide hfacts
      have KSO : Hid (∀ W, Calls Tryd.prog 12 #[.string ⟨so.toArray⟩] W fun e w' => e = .returned (.bool true) ∧ W = w') := fun W => by
        have k := ref_Plain ⟨so.toArray⟩ W (by have := f1; unfold plain at this; simp at this; show so.toArray.size ≤ _; simp; omega)
        rw [show (⟨so.toArray⟩ : ByteArray).data.toList = so from by simp, f1] at k
        exact k
      have KRU : Hid (∀ W, Calls Tryd.prog 12 #[.string ⟨ru.toArray⟩] W fun e w' => e = .returned (.bool true) ∧ W = w') := fun W => by
        have k := ref_Plain ⟨ru.toArray⟩ W (by have := f2; unfold plain at this; simp at this; show ru.toArray.size ≤ _; simp; omega)
        rw [show (⟨ru.toArray⟩ : ByteArray).data.toList = ru from by simp, f2] at k
        exact k
      have KL : Hid (∀ t ∈ L, t ≠ [] ∧ ∀ W, Calls Tryd.prog 12 #[.string ⟨t.toArray⟩] W fun e w' => e = .returned (.bool true) ∧ W = w') := fun t ht => by
        obtain ⟨k1, k2⟩ := f4 t ht
        refine ⟨k1, fun W => ?_⟩
        have k := ref_Plain ⟨t.toArray⟩ W (by have := k2; unfold plain at this; simp at this; show t.toArray.size ≤ _; simp; omega)
        rw [show (⟨t.toArray⟩ : ByteArray).data.toList = t from by simp, k2] at k
        exact k
      simp only [hN, hlit2]
      clear HDE HDF f1 f2 f4 f5 ho hN hlit hlit2 hfacts
      go_upto_region 7 with (first
        | ((with_reducible refine at_allocT (T := 38) ?_); refine alloc_opR rfl rfl _ _ (alloc_dy _) ?_)
        | ((with_reducible refine at_storeT (T := 38) ?_); refine store_part rfl _ _ _ rfl w3.heap.size 0 38 _ [.string ⟨so.toArray⟩, .string ⟨ru.toArray⟩, .slice ta N tc, .bool b3, .bool b4, .bool b5, .bool h6, .int .u64 (x6 : Nat), .int .u64 (y6 : Nat), .int .u64 (n7 : Nat), .int .u64 (n8 : Nat), .int .u64 (n9 : Nat), .int .u64 (n10 : Nat), .int .u64 (n11 : Nat), .int .u64 (n12 : Nat), .int .u64 (n13 : Nat), .int .u64 (n14 : Nat), .bool h15, .int .u64 (x15 : Nat), .int .u64 (y15 : Nat), .bool h16, .int .u64 (x16 : Nat), .int .u64 (y16 : Nat), .bool h17, .int .u64 (x17 : Nat), .int .u64 (y17 : Nat), .bool h18, .int .u64 (x18 : Nat), .int .u64 (y18 : Nat), .bool h19, .int .u64 (x19 : Nat), .int .u64 (y19 : Nat), .bool b20, .bool b21, .bool h22, .int .u64 (x22 : Nat), .int .u64 (y22 : Nat), .bool h23, .int .u64 (x23 : Nat), .int .u64 (y23 : Nat)] #[.string ⟨so.toArray⟩, .string ⟨ru.toArray⟩, .slice ta N tc, .bool b3, .bool b4, .bool b5, .bool h6, .int .u64 (x6 : Nat), .int .u64 (y6 : Nat), .int .u64 (n7 : Nat), .int .u64 (n8 : Nat), .int .u64 (n9 : Nat), .int .u64 (n10 : Nat), .int .u64 (n11 : Nat), .int .u64 (n12 : Nat), .int .u64 (n13 : Nat), .int .u64 (n14 : Nat), .bool h15, .int .u64 (x15 : Nat), .int .u64 (y15 : Nat), .bool h16, .int .u64 (x16 : Nat), .int .u64 (y16 : Nat), .bool h17, .int .u64 (x17 : Nat), .int .u64 (y17 : Nat), .bool h18, .int .u64 (x18 : Nat), .int .u64 (y18 : Nat), .bool h19, .int .u64 (x19 : Nat), .int .u64 (y19 : Nat), .bool b20, .bool b21, .bool h22, .int .u64 (x22 : Nat), .int .u64 (y22 : Nat), .bool h23, .int .u64 (x23 : Nat), .int .u64 (y23 : Nat)] HZ3.out rfl rfl dy_size (one_all _ rfl) (Nat.le_refl 40) rfl ?_; intro w4 h4 g4; have H4 := hide h4; have G4 := hide g4; clear h4 g4))
      have HB34 : Hid (Below w3.heap.size w3 w4) := grown_below (w := w3) (Nat.le_refl _) HC3.out G4.out
      have HB4 : Hid (Below w.heap.size w w4) := HB3.out.trans (HB34.out.mono HB3.out.size)
      have HT4 := hide (HT3.out.below HB34.out)
      clear HZ3 HC3 G4 HB34 HT3 HB3
      obtain ⟨k6, F15, F16, F17, F18, F19⟩ := HFC.out
      subst k6
      have HF15 := hide F15
      have HF16 := hide F16
      have HF17 := hide F17
      have HF18 := hide F18
      have HF19 := hide F19
      clear F15 F16 F17 F18 F19 HFC
      have hN16 : ¬ (16 : Int) < (N : Int) := by omega
      have c0 := cells_of_block H4.out 0 (.string ⟨so.toArray⟩) rfl
      have c1' := cells_of_block H4.out 1 (.string ⟨ru.toArray⟩) rfl
      have c2 := cells_of_block H4.out 2 (.slice ta N tc) rfl
      have c6 := cells_of_block H4.out 6 (.bool true) rfl
      go_wp2_with fail
      refine (KSO.out _).mono ?_
      rintro e w' ⟨rfl, hw⟩
      rw [← hw]
      clear hw
      go_wp2_with fail
      refine (KRU.out _).mono ?_
      rintro e w' ⟨rfl, hw⟩
      rw [← hw]
      clear hw
      go_wp2_with fail
      clear c0 c1' c2 c6
      go_loopw [7] (fun v7 wr => ∃ i : Nat, v7 = .int .i64 i ∧ i ≤ N ∧ Hid (Below w4.heap.size w4 wr)) (fun v7 _ => N - (intOf v7).toNat)
      case atStart => exact ⟨0, rfl, by omega, Below.refl _ _⟩
      case round =>
        obtain ⟨i, rfl, hi, HBi⟩ := hrel
        have HD := hide (block_stay H4.out HBi.out)
        have c2 := cells_of_block HD.out 2 (.slice ta N tc) rfl
        by_cases hlt : i < N
        · have hltI : (i : Int) < (N : Int) := by omega
          have hil : i < L.length := by rw [HLN.out]; exact hlt
          obtain ⟨g, rfl, d⟩ := (HT4.out.below HBi.out).at i hil
          obtain ⟨hne, hpl⟩ := KL.out L[i] (List.getElem_mem hil)
          generalize L[i] = t at d hne hpl
          have hte : (t == []) = false := by simpa using hne
          have HPL := hide hpl
          clear hne hpl
          go_wp2_with fail
          refine (HPL.out _).mono ?_
          rintro e w' ⟨rfl, hw⟩
          rw [← hw]
          clear hw
          have hi5 : (i : Int) ≤ 16 := by omega
          go_wp2
          go_roundw
          case rel => exact ⟨i + 1, by go_num, by omega, HBi⟩
          case measure => simp [intOf]; omega
        · have hltI : ¬ (i : Int) < (N : Int) := by omega
          have HN0 : Hid ((wr.alloc (.cells #[.bool false, .int .u64 0, .int .u64 0] 36)).heap[wr.heap.size]? = some (.cells #[.bool false, .int .u64 0, .int .u64 0] 36 (0, 0))) := heap_alloc_new _ _
          have HCN := hide (bel1 wr (.cells #[.bool false, .int .u64 0, .int .u64 0] 36))
          have HWR : Hid (∀ wx, Below wr.heap.size wr wx → Below wr.heap.size wr wx) := fun _ h => h
          go_upto_region 16 with fail
          go_cut [8] from 9 (fun v8 wx => v8 = .pointer (some ⟨wr.heap.size, 0, none⟩) ∧ Hid (wx.heap[wr.heap.size]? = some (.cells #[.bool false, .int .u64 0, .int .u64 0] 36 (0, 0))) ∧ Hid (Below wr.heap.size wr wx))
          case first =>
            go_wp2_with ((with_reducible refine at_storeA ?_); refine store_part rfl _ _ _ rfl wr.heap.size 0 36 _ [.bool false, .int .u64 0, .int .u64 0] #[.bool false, .int .u64 0, .int .u64 0] HN0.out rfl rfl ar_size (one_all _ rfl) (Nat.le_refl 3) rfl ?_; intro w8 h8 g8; have H8 := hide h8; have G8 := hide g8; clear h8 g8)
            have HB8 : Hid (Below wr.heap.size wr w8) := grown_below (w := wr) (Nat.le_refl _) HCN.out G8.out
            go_meet
            case rel => exact ⟨rfl, H8, HB8⟩
          case rest =>
            obtain ⟨rfl, H8, HB8⟩ := hcut
            have HD8 := hide (block_stay HD.out HB8.out)
            have HBw : Hid (Below w.heap.size w wc) := HB4.out.trans ((HBi.out.trans (HB8.out.mono HBi.out.size)).mono HB4.out.size)
            have z0 := cells_of_block H8.out 0 (.bool false) rfl
            have z1 := cells_of_block H8.out 1 (.int .u64 0) rfl
            have z2 := cells_of_block H8.out 2 (.int .u64 0) rfl
            have E15 : h15 = true ∨ (h15 = false ∧ x15 = 0 ∧ y15 = 0) := by cases h15 <;> simp_all [Hid]
            have E16 : h16 = true ∨ (h16 = false ∧ x16 = 0 ∧ y16 = 0) := by cases h16 <;> simp_all [Hid]
            have E17 : h17 = true ∨ (h17 = false ∧ x17 = 0 ∧ y17 = 0 ∧ b20 = false) := by cases h17 <;> simp_all [Hid]
            have E18 : h18 = true ∨ (h18 = false ∧ x18 = 0 ∧ y18 = 0) := by cases h18 <;> simp_all [Hid]
            have E19 : h19 = true ∨ (h19 = false ∧ x19 = 0 ∧ y19 = 0 ∧ b21 = false) := by cases h19 <;> simp_all [Hid]
            have q17 := cells_of_block HD8.out 17 (.bool h15) rfl
            have q18 := cells_of_block HD8.out 18 (.int .u64 (x15 : Nat)) rfl
            have q19 := cells_of_block HD8.out 19 (.int .u64 (y15 : Nat)) rfl
            have q20 := cells_of_block HD8.out 20 (.bool h16) rfl
            have q21 := cells_of_block HD8.out 21 (.int .u64 (x16 : Nat)) rfl
            have q22 := cells_of_block HD8.out 22 (.int .u64 (y16 : Nat)) rfl
            have q23 := cells_of_block HD8.out 23 (.bool h17) rfl
            have q24 := cells_of_block HD8.out 24 (.int .u64 (x17 : Nat)) rfl
            have q25 := cells_of_block HD8.out 25 (.int .u64 (y17 : Nat)) rfl
            have q26 := cells_of_block HD8.out 26 (.bool h18) rfl
            have q27 := cells_of_block HD8.out 27 (.int .u64 (x18 : Nat)) rfl
            have q28 := cells_of_block HD8.out 28 (.int .u64 (y18 : Nat)) rfl
            have q29 := cells_of_block HD8.out 29 (.bool h19) rfl
            have q30 := cells_of_block HD8.out 30 (.int .u64 (x19 : Nat)) rfl
            have q31 := cells_of_block HD8.out 31 (.int .u64 (y19 : Nat)) rfl
            have q32 := cells_of_block HD8.out 32 (.bool b20) rfl
            have q33 := cells_of_block HD8.out 33 (.bool b21) rfl
            clear HN0 HCN HB8 HWR HD HBi HB4 H4 HT4 KSO KRU KL c2 HF15 HF16 HF17 HF18 HF19 H8 HD8
            go_upto_region 17 with fail
            rcases E15 with rfl | ⟨rfl, rfl, rfl⟩ <;> rcases E16 with rfl | ⟨rfl, rfl, rfl⟩ <;> rcases E17 with rfl | ⟨rfl, rfl, rfl, rfl⟩ <;> rcases E18 with rfl | ⟨rfl, rfl, rfl⟩ <;> rcases E19 with rfl | ⟨rfl, rfl, rfl, rfl⟩
            all_goals
              try simp only [List.append_eq, List.cons_append, List.nil_append]
              refine RgS.wp_region_seq_below ?_
              have r17 := cell_regrown q17
              have r18 := cell_regrown q18
              have r19 := cell_regrown q19
              have r20 := cell_regrown q20
              have r21 := cell_regrown q21
              have r22 := cell_regrown q22
              have r23 := cell_regrown q23
              have r24 := cell_regrown q24
              have r25 := cell_regrown q25
              have r26 := cell_regrown q26
              have r27 := cell_regrown q27
              have r28 := cell_regrown q28
              have r29 := cell_regrown q29
              have r30 := cell_regrown q30
              have r31 := cell_regrown q31
              have r32 := cell_regrown q32
              have r33 := cell_regrown q33
              have y0 := cell_regrown z0
              have y1 := cell_regrown z1
              have y2 := cell_regrown z2
              clear z0 z1 z2 q17 q18 q19 q20 q21 q22 q23 q24 q25 q26 q27 q28 q29 q30 q31 q32 q33
              repeat (go_big_quiet_step (exact Calls.regrown_of (alive09 _)))
              refine wpQuiet_nil ?_
              intro _ hwq
              obtain ⟨⟨dq, osq⟩, hwq2⟩ := hwq
              subst hwq2
              have HB9 : Hid (Below w.heap.size w (grow (redrawn wc dq) osq)) := HBw.out.trans ((below_regrown wc dq osq).mono HBw.out.size)
              clear y0 y1 y2 r17 r18 r19 r20 r21 r22 r23 r24 r25 r26 r27 r28 r29 r30 r31 r32 r33
              generalize grow _ _ = w9 at *
              go_wp2
              go_ret
              exact ⟨rfl, HB9.out⟩
theorem walk (w : World) (s0 : Option Addr) (len0 cap0 : Nat) (z0 : List Int) (h : IsRow .u8 w s0 len0 cap0 z0) (hsh : w.ShapedOpen Tryd.prog) (hL : laidMetH Tryd.prog Rows.dynNeedsRow.laid w) :
    Calls Tryd.prog 4 #[.slice s0 len0 cap0] w fun e w' => e = .returned (.bool true) ∧ Below w.heap.size w w' := by
  by_cases hl : len0 ≤ 262144
  · obtain ⟨e, ha⟩ := h.arg (by omega)
    exact core w _ _ ha (by omega) (pairs_of_vars _ rfl (by kernel_rfl) (by kernel_rfl) (by kernel_rfl) hL)
  · have hl2 : (262144 : Int) < (len0 : Int) := by omega
    have HBR : Hid (Below w.heap.size w w) := Below.refl _ _
    have hlm : len0 ≤ 9223372036854775807 := by
      rcases h with ⟨_, rfl, _⟩ | ⟨_, _, h1, h2, _⟩
      · omega
      · unfold maxLen at h2; omega
    clear h hsh hL
    go_enter Tryd.func4, Tryd.ntmps4
    go_wp2
    go_ret
    exact ⟨rfl, HBR.out⟩
theorem own : ownKnob Tryd.prog.godebug = none := by kernel_rfl
theorem laidOut : laidOutB Tryd.prog = true := by kernel_rfl
set_option maxRecDepth 100000 in
theorem lifted (os : Os) (started : os.Started) (H : Type) (enc : TypeId × Value → H) :
    ReturnsInHanded {} Tryd.checked os 4 .any (fun w args => (Rows.dynNeedsSpec.pre enc Tryd.prog Tryd.f4 Rows.dynNeedsRow.domain false w args ∧ laidMetH Tryd.prog Rows.dynNeedsRow.laid w) ∧ sizedMet enc Tryd.prog Tryd.f4 (OpenSpec.ofChange Rows.dynNeedsSpec) false w args)
      (Rows.dynNeedsSpec.post enc Tryd.prog Tryd.f4 false true false false) := by
  refine wrap_and_shaped (C := Tryd.checked) (X := fun w _ => laidMetH Tryd.prog Rows.dynNeedsRow.laid w) (fun _ _ _ hh h => h.of_heap hh) own started (by kernel_rfl) Tryd.func4
    (ChangeSpec.witness_shaped (enc := enc) (C := Tryd.checked) (os := os) (X := fun w _ => laidMetH Tryd.prog Rows.dynNeedsRow.laid w) false (World.laidAll Tryd.prog os Rows.dynNeedsRow.laid) #[.slice none 0 0] 8 (World.laidAll_os _ _ _)
      (World.shaped_of_ZipB (by kernel_rfl) (by kernel_rfl)) (by kernel_rfl) (by kernel_rfl) (by kernel_rfl)
      (by rw [MakeChecks.laidMetH_plain _ _ _ (by kernel_rfl)]; exact laidMet_laidAll _ (by kernel_rfl) (by kernel_rfl))) ?_
  intro W base args ds gs before hval0 hW hcnd hz hL hsh
  have hval : ∀ (j : Nat) t v, Tryd.f4.params[j]? = some t → args[j]? = some v → Value.okWide Tryd.prog W .any base t v := hval0
  have hW' := hW
  obtain ⟨p, q, hA0, hV, rfl, hfz, hnd⟩ := hW
  have hA : DataW.TrodAll enc Tryd.prog W 0 (fun _ => true) true Tryd.f4.params.toList args.toList ds p := hA0
  rw [Tryd.params4] at hA hval
  obtain ⟨v0, vs0, d0, ds0, p0, q0, hargs, rfl, rfl, h0, r0⟩ := trodAll_cons hA
  obtain ⟨rfl, rfl, rfl⟩ := trodAll_nil r0
  obtain rfl : args = #[v0] := by cases args; simp_all
  obtain ⟨rfl, rfl⟩ := trodVars_none hV
  have k0 := h0
  have lt0 : ∀ x ∈ p0, x.block < W.heap.size := by obtain ⟨m, hm⟩ := k0; exact DataW.trod_lt m _ _ _ hm
  obtain ⟨s0, len0, cap0, rfl⟩ := okWide_slice Tryd.underlying22 (hval 0 22 v0 rfl rfl)
  obtain ⟨z0, w0⟩ : ∃ zs, IsRow .u8 W s0 len0 cap0 zs := by
    obtain ⟨fuel, hf⟩ := h0
    rcases open_ints Tryd.underlying22 Tryd.underlying5 (by kernel_rfl) hf with ⟨hcs, _⟩ | ⟨x, l, c, zs, hcs, _, hl, hm, hz, _, hcell, hwz⟩
    · simp [Value.cells] at hcs
      obtain ⟨rfl, rfl, rfl⟩ := hcs
      exact ⟨[], .inl ⟨rfl, rfl, rfl, rfl⟩⟩
    · simp [Value.cells] at hcs
      obtain ⟨rfl, rfl, rfl⟩ := hcs
      exact ⟨zs, .inr ⟨_, rfl, hl, hm, by simpa using hz, hcell, hwz⟩⟩
  clear hA0 hval0
  refine (walk W s0 len0 cap0 z0 w0 hsh hL).mono fun e W' ⟨he, bel⟩ => ?_
  subst he
  exact ⟨_, rfl, _, _, _, [], _, [], hW', trodAll_mk1 (shut_bool Tryd.underlying4 _), (trodAll_cons_mk (Below.trod laidOut (by kernel_rfl) (of_decide_eq_true (by kernel_rfl)) k0 bel lt0) trodAll_mk0), rfl, bel.frame _, fun h => by cases h⟩

theorem over : Rows.dynNeedsRow.holds Tryd.pinned (OpenSpec.ofChange Rows.dynNeedsSpec) :=
  OpenClaim.holds_of_wide 4 Tryd.f4 rfl rfl rfl rfl rfl rfl rfl ⟨rfl, rfl, rfl, rfl, rfl⟩ rfl rfl rfl rfl rfl (by kernel_rfl) Tryd.func4 (by kernel_rfl)
    (of_decide_eq_true (by kernel_rfl)) (by unfold Func.isWrapper; first | (rw [if_pos (by decide +kernel)]; kernel_rfl) | (rw [if_neg (by decide +kernel)]; exact ⟨rfl, rfl⟩))
    (fun os started H enc _ => lifted os started H enc)

theorem card : Claim7.holds Tryd.pinned (.plain (OpenSpec.ofChange Rows.dynNeedsSpec)) Rows.dynNeedsCard :=
  Claim7.holds_tied_plain_at .later [] [.data] true (true, "83fddcb3719bfedc08d1e13579885b0f93280f0fdcdcace5d4e97655912a79fc") false over (fun _ h => by cases h) (by kernel_rfl) (fun _ h => by cases h) dynNeeds_row_tie rfl ⟨rfl, rfl⟩ (by kernel_rfl) rfl
    (fun f fn hf hfn => by
      obtain rfl : f = 4 := Option.some.inj ((show Tryd.prog.funcNamed Rows.dynNeedsRow.func = some 4 by kernel_rfl).symm.trans hf) |>.symm
      obtain rfl : fn = Tryd.f4 := (Option.some.inj (Tryd.func4.symm.trans hfn)).symm
      exact ⟨by kernel_rfl, fun j t ht => by
        rw [Tryd.params4] at ht
        have hm : t ∈ [22] := by simpa using Array.mem_of_getElem? ht
        have hall : ([22].all fun u => !Tryd.prog.wantsStandIn u) = true := by kernel_rfl
        exact (show Tryd.prog.wantsStandIn t = false by simpa using List.all_eq_true.1 hall t hm)⟩)
    (by kernel_rfl)
end LDynNeeds
theorem DynNeeds_proved : Rows.DynNeedsCardSaid := LDynNeeds.card
end Go.Proofs.YtibfiikjelmhmaaDoor
