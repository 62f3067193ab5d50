
/-
  Bytes of the law's own; bytes.Clone once more; nodes in new memory (Copy).
-/
import Derived.Test.YthkpcafbfgfjpaaDoorFsS
import Derived.Test.YthkpcafbfgfjpaaDoorFsR
import Derived.Laws.AppendOwnNone
set_option linter.unusedVariables false
namespace Go.Proofs.YthkpcafbfgfjpaaDoor
open Go.RowKit Go.PlainAid
def bv (l : List UInt8) : List Value := l.map fun b => Value.int .u8 (b.toNat : Int)
/-- v is a slice of bytes that was made at or behind B. -/
def OwnB (w : World) (B : Nat) (v : Value) (l : List UInt8) : Prop := w.ownsRow B 5 1 v l.length (bv l)
theorem OwnB.src {w : World} {B : Nat} {v : Value} {l : List UInt8} {F : Nat → Prop} (h : OwnB w B v l) (hF : ∀ g, v.ownBlock = some g → ¬ F g) : Src w F v l := by
  have hc := fun g hg => World.ownsRow.cells h (g := g) hg
  rcases h.2 with ⟨rfl, hn⟩ | ⟨g, cap, cur, rfl, hB, hg, h1, h2, h3, h4⟩
  · have hl := List.eq_nil_of_length_eq_zero hn
    subst hl
    exact ⟨none, 0, rfl, by simp, by simp, .inl ⟨rfl, rfl, rfl⟩⟩
  · exact ⟨some ⟨g, 0, none⟩, cap, rfl, h1, h2, .inr ⟨_, rfl, .inr (hF g rfl), fun j hj => hc g rfl j _ (by unfold bv; rw [List.getElem?_map, List.getElem?_eq_getElem hj]; rfl)⟩⟩
theorem lib_CloneB (w : World) (v : Value) (l : List UInt8) (h : Src w (fun _ => False) v l) (hl : l.length ≤ 140737488355328) :
    Calls Tryd.prog 26 #[v] w fun e w' => (∃ v', e = .returned v' ∧ OwnB w' w.heap.size v' l) ∧ Below w.heap.size w w' := by
  obtain ⟨a, cap, rfl, h1, h2, h3⟩ := h
  rcases h3 with ⟨rfl, rfl, rfl⟩ | ⟨x, rfl, _, hc⟩
  · refine (Tryd.bytes_Clone_nil _ _ w).mono ?_
    rintro e w' ⟨rfl, rfl⟩
    exact ⟨⟨_, rfl, World.ownsRow_nil _ _ _ _⟩, Below.refl _ _⟩
  · refine (Tryd.bytes_Clone_at x l.length cap (l.map fun b => (b.toNat : Int)) w (by simp) hl (fun i hi => ?_)).mono ?_
    · rw [hc i hi]; simp [List.getD, List.getElem?_eq_getElem hi]
    · rintro e w' ⟨v', rfl, hr, _, hb⟩
      refine ⟨⟨v', rfl, ?_⟩, hb⟩
      unfold OwnB bv
      rw [List.map_map] at hr
      exact hr
theorem bv_one (l : List UInt8) : ∀ u ∈ bv l, u.oneCell' = true := by
  intro u hu
  obtain ⟨b, _, rfl⟩ := List.mem_map.1 hu
  rfl
theorem Tryd.infoB8 : (Tryd.prog.info? 5).map (fun i => (i.zero, i.size, i.bytes)) = some (some (.int .u8 0), 1, 1) := by kernel_rfl
/-- append([]byte{}, d...): bytes in new memory. -/
theorem append_bytes {ops : Array Oper} {rest : List Oper} {o : Oper} {a : Act} {Q : Exit → Act → World → Prop} (hgd : o.guard = none) (s x : Operand)
    (ho : o.op = .call { callee := .builtin .append, args := #[s, x], argTypes := #[35, 35] })
    (wr : World) (vd : Value) (l : List UInt8) (hsrc : Src wr (fun _ => False) vd l) (hs : a.eval s = .slice (some ⟨wr.heap.size, 0, none⟩) 0 0)
    (hx : a.eval x = vd) (hlen : l.length ≤ 140737488355328)
    (h : ∀ v' w', OwnB w' wr.heap.size v' l → Below wr.heap.size wr w' → wpList Tryd.prog ops Q rest (a.put o.dst v') w') :
    wpList Tryd.prog ops Q (o :: rest) a (wr.alloc (.cells #[] 5)) := by
  obtain ⟨i, hi, hz0, hz1, hz2⟩ := info_parts Tryd.infoB8
  have hown : (wr.alloc (.cells #[] 5)).ownsRow wr.heap.size 5 1 (.slice (some ⟨wr.heap.size, 0, none⟩) 0 0) 0 [] := World.ownsRow_made wr #[] 0 (Nat.le_refl _) (by simp) (by simp)
  obtain ⟨ya, cap, rfl, h1, h2, h3⟩ := hsrc
  rcases h3 with ⟨rfl, rfl, rfl⟩ | ⟨y, rfl, _, hc⟩
  · exact wpList_append_own_none (P := Tryd.prog) hgd s x 35 ho wr.heap.size 5 i 1 Tryd.underlying35 hi _ 0 [] hs hown hx (h _ _ hown (below_box wr _))
  · refine wpList_append_own (P := Tryd.prog) (wr.alloc (.cells #[] 5)) hgd s x 35 ho wr.heap.size 5 i (.int .u8 0) 1 1 Tryd.underlying35 hi hz0 hz1 hz2 rfl (by decide) _ 0 [] hs hown y l.length cap (bv l) hx (by simp [bv]) ?_ (bv_one l) (by unfold maxLen; omega) (by omega) (by simp) ?_
    · intro j u hj
      unfold bv at hj
      obtain ⟨hj1, hj2⟩ := List.getElem?_eq_some_iff.1 hj
      rw [List.length_map] at hj1
      have hg := hc j hj1
      rw [World.cell?_alloc_lt _ _ _ (World.block_lt_of_cell? _ _ hg), hg, ← hj2]
      simp
    · intro v' w' q1 q2 _
      refine h v' w' ?_ ?_
      · unfold OwnB
        rw [Nat.zero_add, List.nil_append] at q1
        exact q1
      · exact (below_box wr _).grown q2 (by simp) (fun k hk => by simp [Value.ownBlock] at hk; omega)
/-- append of a node to a row that is owned. -/
theorem append_nd {ops : Array Oper} {rest : List Oper} {o : Oper} {a : Act} {Q : Exit → Act → World → Prop} (hgd : o.guard = none) (s x : Operand)
    (ho : o.op = .call { callee := .builtin .append, args := #[s, x], argTypes := #[22, 22] })
    (B : Nat) (wr : World) (v : Value) (l : List Nd) (hown : wr.ownsRow B 40 4 v l.length (flatN l)) (n : Nd) (hvd : ∃ a k c, n.vd = .slice a k c) (hs : a.eval s = v)
    (hx : a.eval x = .slice (some ⟨wr.heap.size, 0, none⟩) 1 1) (hlen : l.length ≤ 100000) (hB : B ≤ wr.heap.size)
    (h : ∀ v' w', w'.ownsRow B 40 4 v' (l ++ [n]).length (flatN (l ++ [n])) → (∀ g, v'.ownBlock = some g → Same wr v.ownBlock g) → wr.grownBy w' v.ownBlock → wpList Tryd.prog ops Q rest (a.put o.dst v') w') :
    wpList Tryd.prog ops Q (o :: rest) a (wr.alloc (.cells n.cells.toArray 40)) := by
  obtain ⟨i, hi, hz0, hz1, hz2⟩ := info_parts Tryd.infoNd
  obtain ⟨v', w', hr, h2, h3, h4⟩ := run_append_same (wr.alloc (.cells n.cells.toArray 40)) B 22 o.type 40 i _ 4 64 Tryd.underlying22 hi hz0 hz1 hz2 rfl (by decide) v l.length (flatN l) (World.ownsRow.alloc hown _) ⟨wr.heap.size, 0, none⟩ 1 n.cells rfl
    (fun j u hj => by rw [Addr.add_mid, Nat.zero_add]; exact new_cells wr n j u hj) (n.one hvd) (by unfold maxLen; omega) (by omega) (by simp; omega)
  refine wpList_plain hgd fun _ hK => ?_
  unfold Oper.wp execOp
  simp only [ho, resolve, invoke, builtin, Sem.run_bind, Sem.run_pure, Result.andThen_ok, List.map_toArray, List.map_cons, List.map_nil, hs, hx, hr]
  refine hK _ _ (h v' w' ?_ (fun g hg => ?_) ((World.grownBy_alloc wr _ _).trans h4))
  · rw [List.length_append, flatN_app]
    exact h2
  · rcases h3 g hg with e | e
    · exact .inl e
    · right; have : (wr.alloc (.cells n.cells.toArray 40)).heap.size = wr.heap.size + 1 := by simp
      omega
/-- Nodes in new memory: their row, and each one's bytes, no two of these with the row. -/
structure CopyAt (w : World) (B : Nat) (v : Value) (l : List Nd) : Prop where
  row : w.ownsRow B 40 4 v l.length (flatN l)
  dat : ∀ n ∈ l, OwnB w B n.vd n.data ∧ ∀ g, n.vd.ownBlock = some g → v.ownBlock ≠ some g
theorem CopyAt.nil (w : World) (B : Nat) : CopyAt w B (.slice none 0 0) [] := ⟨World.ownsRow_nil _ _ _ _, fun n hn => by simp at hn⟩
theorem CopyAt.stay {w w' : World} {B : Nat} {v : Value} {l : List Nd} (h : CopyAt w B v l) (hb : Below w.heap.size w w') : CopyAt w' B v l :=
  ⟨own_turn h.row (Turn.of_below (F := fun _ => False) hb) (fun _ _ => id), fun n hn => ⟨own_turn (h.dat n hn).1 (Turn.of_below (F := fun _ => False) hb) (fun _ _ => id), (h.dat n hn).2⟩⟩
theorem OwnB.low {w : World} {B C : Nat} {v : Value} {l : List UInt8} (h : OwnB w C v l) (hc : B ≤ C) : OwnB w B v l := by
  refine ⟨h.1, ?_⟩
  rcases h.2 with hn | ⟨g, cap, cur, rfl, hB, rest⟩
  · exact .inl hn
  · exact .inr ⟨g, cap, cur, rfl, Nat.le_trans hc hB, rest⟩
theorem CopyAt.snoc {w w' : World} {B : Nat} {v v' : Value} {l : List Nd} {n : Nd} (h : CopyAt w B v l) (hd : OwnB w B n.vd n.data) (hne : ∀ g, n.vd.ownBlock = some g → v.ownBlock ≠ some g) (r : w'.ownsRow B 40 4 v' (l ++ [n]).length (flatN (l ++ [n]))) (s : ∀ g, v'.ownBlock = some g → Same w v.ownBlock g) (g : w.grownBy w' v.ownBlock) : CopyAt w' B v' (l ++ [n]) := by
  have ht : Turn (fun k => v.ownBlock = some k) w w' := Turn.of_grown g (fun k e => e)
  have key : ∀ m : Nd, OwnB w B m.vd m.data → (∀ g, m.vd.ownBlock = some g → v.ownBlock ≠ some g) → OwnB w' B m.vd m.data ∧ ∀ g, m.vd.ownBlock = some g → v'.ownBlock ≠ some g := fun m h1 h2 =>
    ⟨own_turn h1 ht (fun g hg e => h2 g hg e), fun g hg e => by
      rcases s g e with e2 | e2
      · exact h2 g hg e2
      · have := (World.ownsRow.lt h1 g hg).2; omega⟩
  refine ⟨r, fun m hm => ?_⟩
  rcases List.mem_append.1 hm with hm | hm
  · exact key m (h.dat m hm).1 (h.dat m hm).2
  · rw [List.mem_singleton] at hm
    subst hm
    exact key m hd hne
end Go.Proofs.YthkpcafbfgfjpaaDoor
