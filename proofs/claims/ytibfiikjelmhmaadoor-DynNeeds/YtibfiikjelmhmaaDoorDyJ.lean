
/-
  Layer 9: rows of texts; what is filled beside them.
-/
import Derived.Test.YtibfiikjelmhmaaDoorDyI
set_option linter.unusedVariables false
namespace Go.Proofs.YtibfiikjelmhmaaDoor
open Go.RowKit Go.PlainAid Go.Sort
def tv (l : List (List UInt8)) : List Value := l.map fun s => Value.string (txb s)
/-- A row of texts of the call's own. -/
def OwnT (w : World) (B : Nat) (v : Value) (l : List (List UInt8)) : Prop := w.ownsRow B 9 1 v l.length (tv l)
theorem OwnT.nil (w : World) (B : Nat) : OwnT w B (.slice none 0 0) [] := World.ownsRow_nil _ _ _ _
theorem OwnT.form {w : World} {B : Nat} {v : Value} {l : List (List UInt8)} (h : OwnT w B v l) : ∃ a cap, v = .slice a l.length cap := by
  unfold OwnT at h
  rcases h.2 with ⟨rfl, hn⟩ | ⟨g, cap, cur, rfl, _⟩
  · exact ⟨none, 0, by rw [hn]⟩
  · exact ⟨_, _, rfl⟩
theorem OwnT.stay {w w' : World} {B : Nat} {v : Value} {l : List (List UInt8)} (h : OwnT w B v l) (hb : Below w.heap.size w w') : OwnT w' B v l := by
  unfold OwnT at h ⊢
  refine ⟨h.1, ?_⟩
  rcases h.2 with hn | ⟨g, cap, cur, rfl, hB, hg, rest⟩
  · exact .inl hn
  · refine .inr ⟨g, cap, cur, rfl, hB, ?_, rest⟩
    rw [hb.block g (Array.getElem?_eq_some_iff.1 hg).1]; exact hg
theorem OwnT.low {w : World} {B C : Nat} {v : Value} {l : List (List UInt8)} (h : OwnT w B v l) (hb : C ≤ B) : OwnT w C v l := by
  unfold OwnT at h ⊢
  refine ⟨h.1, ?_⟩
  rcases h.2 with hn | ⟨g, cap, cur, rfl, hB, rest⟩
  · exact .inl hn
  · exact .inr ⟨g, cap, cur, rfl, Nat.le_trans hb hB, rest⟩
theorem OwnT.apart {w w' : World} {B : Nat} {b : Option Nat} {v : Value} {l : List (List UInt8)} (h : OwnT w B v l) (hb : w.grownBy w' b) (hR : ∀ k, v.ownBlock = some k → b ≠ some k) : OwnT w' B v l := by
  unfold OwnT at h ⊢
  refine ⟨h.1, ?_⟩
  rcases h.2 with hn | ⟨g, cap, cur, rfl, hB, hg, rest⟩
  · exact .inl hn
  · refine .inr ⟨g, cap, cur, rfl, hB, ?_, rest⟩
    rw [hb.block g (Array.getElem?_eq_some_iff.1 hg).1 (fun e => hR g rfl e.symm)]; exact hg
theorem Own.apart {w w' : World} {B : Nat} {b : Option Nat} {v : Value} {l : List UInt8} (h : Own w B v l) (hb : w.grownBy w' b) (hR : ∀ k, v.ownBlock = some k → b ≠ some k) : Own w' B v l := by
  unfold Own at h ⊢
  refine ⟨h.1, ?_⟩
  rcases h.2 with hn | ⟨g, cap, cur, rfl, hB, hg, rest⟩
  · exact .inl hn
  · refine .inr ⟨g, cap, cur, rfl, hB, ?_, rest⟩
    rw [hb.block g (Array.getElem?_eq_some_iff.1 hg).1 (fun e => hR g rfl e.symm)]; exact hg
theorem info_t : (Tryd.prog.info? 9).map (fun i => (i.zero, i.size, i.bytes)) = some (some (.string ByteArray.empty), 1, 16) := by kernel_rfl
theorem tv_one (l : List (List UInt8)) : ∀ u ∈ tv l, u.oneCell' = true := fun u hu => by
  obtain ⟨n, _, rfl⟩ := List.mem_map.1 hu; rfl
/-- append of a text that lies in a new block. -/
theorem append_t {ops : Array Oper} {rest : List Oper} {o : Oper} {a : Act} {Q : Exit → Act → World → Prop} (hgd : o.guard = none) (s x : Operand)
    (ho : o.op = .call { callee := .builtin .append, args := #[s, x], argTypes := #[34, 34] })
    (B : Nat) (wr : World) (v : Value) (l : List (List UInt8)) (c : List UInt8) (hown : OwnT wr B v l) (hs : a.eval s = v)
    (hx : a.eval x = .slice (some ⟨wr.heap.size, 0, none⟩) 1 1) (hlen : l.length ≤ 100000) (hB : B ≤ wr.heap.size)
    (h : ∀ v' w', OwnT w' B v' (l ++ [c]) → Below B wr w' → wpList Tryd.prog ops Q rest (a.put o.dst v') w') :
    wpList Tryd.prog ops Q (o :: rest) a (wr.alloc (.cells #[.string (txb c)] 9)) := by
  obtain ⟨i, hi, hz0, hz1, hz2⟩ := info_parts info_t
  have hb : ∀ k, v.ownBlock = some k → B ≤ k := fun k hk => (World.ownsRow.lt hown k hk).1
  refine wpList_append_own (P := Tryd.prog) (wr.alloc (.cells #[.string (txb c)] 9)) hgd s x 34 ho B 9 i (.string ByteArray.empty) 1 16 Tryd.underlying34 hi hz0 hz1 hz2 rfl (by decide) v l.length (tv l) hs (World.ownsRow.alloc hown _)
    ⟨wr.heap.size, 0, none⟩ 1 1 [.string (txb c)] hx rfl ?_ ?_ ?_ ?_ ?_ ?_
  · intro j u hj
    match j, hj with
    | 0, hj => simp at hj; subst hj; simp [Addr.add]
  · intro u hu; simp at hu; subst hu; rfl
  · unfold maxLen; omega
  · omega
  · simp; omega
  · intro v' w' h1 h2 _
    refine h v' w' ?_ ?_
    · unfold OwnT
      simpa [tv] using h1
    · exact ((Below.refl B wr).alloc hB _).grown h2 (by simp; omega) hb
def zeroAr : List Value := [.bool false, .int .u64 0, .int .u64 0]
def zeroDy : List Value := [.string ⟨#[]⟩, .string ⟨#[]⟩, .slice none 0 0, .bool false, .bool false, .bool false] ++ zeroAr ++ List.replicate 8 (.int .u64 0) ++ zeroAr ++ zeroAr ++ zeroAr ++ zeroAr ++ zeroAr ++ [.bool false, .bool false] ++ zeroAr ++ zeroAr
theorem zero_len : zeroDy.length = 40 := rfl
/-- What Parse answers. -/
def DynIs (w' : World) (B : Nat) (o : Except Nat Dd) (e : Ending) : Prop :=
  match o with
  | .error n => e = .returned (.tuple #[.agg zeroDy.toArray, .int .i64 n])
  | .ok D => ∃ vn, e = .returned (.tuple #[.agg (dyCells D.so D.ru vn D.ents).toArray, .int .i64 0]) ∧ OwnT w' B vn D.need
theorem zeroDy_one : ∀ u ∈ zeroDy, u.oneCell' = true := by
  intro u hu
  simp only [zeroDy, zeroAr, List.mem_append, List.mem_cons, List.not_mem_nil, or_false, List.mem_replicate] at hu
  rcases hu with ((((((((((rfl | rfl | rfl | rfl | rfl | rfl) | rfl | rfl | rfl) | ⟨_, rfl⟩) | rfl | rfl | rfl) | rfl | rfl | rfl) | rfl | rfl | rfl) | rfl | rfl | rfl) | rfl | rfl | rfl) | rfl | rfl) | rfl | rfl | rfl) | rfl | rfl | rfl <;> rfl
theorem dy_size : ∀ w, (Go.sizeOf 38).run Tryd.prog w = .ok 40 w := Tryd.sizeOf38
theorem load_dy {w : World} {g : Nat} {cs : Array Value} (h : w.heap[g]? = some (.cells cs 38 (0, 0))) (hs : cs.size = 40) : (loadVar 38 ⟨g, 0, none⟩).run Tryd.prog w = .ok (.agg cs) w :=
  run_loadVar_row (P := Tryd.prog) w g _ _ cs (0, 0) _ h Tryd.underlying38 rfl (by rw [hs]; kernel_rfl)
theorem at_loadD {ops : Array Oper} {rest : List Oper} {a : Act} {Q : Exit → Act → World → Prop} {w : World} {ty : TypeId} {x : Operand} {d : Option Tmp} {ps : String} {af : Array Edge}
    (h : wpList Tryd.prog ops Q ({ dst := d, op := .load 38 x, type := ty, pos := ps, after := af, guard := none } :: rest) a w) : wpList Tryd.prog ops Q ({ dst := d, op := .load 38 x, type := ty, pos := ps, after := af, guard := none } :: rest) a w := h
/-- Here one of the great structs is built. -/
theorem at_build {ops : Array Oper} {rest : List Oper} {a : Act} {Q : Exit → Act → World → Prop} {w : World} {ty : TypeId} {x : Array (Nat × Operand)} {d : Option Tmp} {ps : String} {af : Array Edge}
    (h : wpList Tryd.prog ops Q ({ dst := d, op := .build 38 x, type := ty, pos := ps, after := af, guard := none } :: rest) a w) : wpList Tryd.prog ops Q ({ dst := d, op := .build 38 x, type := ty, pos := ps, after := af, guard := none } :: rest) a w := h
end Go.Proofs.YtibfiikjelmhmaaDoor
