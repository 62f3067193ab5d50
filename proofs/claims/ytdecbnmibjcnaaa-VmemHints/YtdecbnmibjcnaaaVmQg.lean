
/-
  A row of counts of the law's own: the pages of the rooms.
-/
import Derived.Test.YtdecbnmibjcnaaaVmQf
set_option linter.unusedVariables false
namespace Go.Proofs.Ytdecbnmibjcnaaa
open Go.RowKit Go.PlainAid
def nv (l : List Nat) : List Value := l.map (fun (n : Nat) => Value.int .i64 (n : Int))
theorem Try.infoN : (Try.prog.info? 3).map (fun i => (i.zero, i.size, i.bytes)) = some (some (.int .i64 0), 1, 8) := by kernel_rfl
/-- v is a slice of counts of the law's own. -/
def OwnN (w : World) (B : Nat) (v : Value) (l : List Nat) : Prop := w.ownsRow B 3 1 v l.length (nv l)
theorem OwnN.nil (w : World) (B : Nat) : OwnN w B (.slice none 0 0) [] := World.ownsRow_nil _ _ _ _
theorem OwnN.isSlice {w : World} {B : Nat} {v : Value} {l : List Nat} (h : OwnN w B v l) : ∃ a cap, v = .slice a l.length cap := by
  rcases h.2 with ⟨rfl, hn⟩ | ⟨g, cap, cur, rfl, _⟩
  · exact ⟨_, _, by rw [hn]⟩
  · exact ⟨_, _, rfl⟩
theorem OwnN.turn {w w' : World} {B : Nat} {v : Value} {l : List Nat} {F : Nat → Prop} (h : OwnN w B v l) (ht : Turn F w w') (hF : ∀ g, v.ownBlock = some g → ¬ F g) : OwnN w' B v l := by
  refine ⟨h.1, ?_⟩
  rcases h.2 with hn | ⟨g, cap, cur, rfl, hB, hg, rest⟩
  · exact .inl hn
  · exact .inr ⟨g, cap, cur, rfl, hB, by rw [ht.block g (Array.getElem?_eq_some_iff.1 hg).1 (hF g rfl)]; exact hg, rest⟩
theorem OwnN.stay {w w' : World} {B : Nat} {v : Value} {l : List Nat} (h : OwnN w B v l) (hb : Below w.heap.size w w') : OwnN w' B v l := h.turn (F := fun _ => False) (Turn.of_below hb) (fun _ _ => id)
/-- One count is read. -/
theorem OwnN.cell {w : World} {B : Nat} {s : Option Addr} {n cap : Nat} {l : List Nat} (h : OwnN w B (.slice s n cap) l) (hne : 0 < l.length) : ∃ g, s = some ⟨g, 0, none⟩ ∧ n = l.length ∧ B ≤ g ∧ g < w.heap.size ∧ l.length ≤ cap ∧ cap ≤ maxLen ∧ ∀ j (hj : j < l.length), w.cell? ⟨g, j, none⟩ = some (.int .i64 (l[j] : Nat)) := by
  have hc := fun g hg => World.ownsRow.cells h (g := g) hg
  rcases h.2 with ⟨_, hn⟩ | ⟨g, cap', cur, e, hB, hg, h1, h2, h3, h4⟩
  · omega
  · injection e with e1 e2 e3
    subst e1 e2 e3
    refine ⟨g, rfl, rfl, hB, (Array.getElem?_eq_some_iff.1 hg).1, h1, h2, fun j hj => ?_⟩
    have := hc g rfl j (.int .i64 (l[j] : Nat)) (by unfold nv; rw [List.getElem?_map, List.getElem?_eq_getElem hj]; rfl)
    rwa [add_lit] at this
theorem append_int {ops : Array Oper} {rest : List Oper} {o : Oper} {a : Act} {Q : Exit → Act → World → Prop} (hgd : o.guard = none) (s x : Operand)
    (ho : o.op = .call { callee := .builtin .append, args := #[s, x], argTypes := #[43, 43] })
    (B : Nat) (wr : World) (v : Value) (acc : List Nat) (hown : OwnN wr B v acc) (c : Nat) (hs : a.eval s = v)
    (hx : a.eval x = .slice (some ⟨wr.heap.size, 0, none⟩) 1 1) (hlen : acc.length ≤ 100000) (hB : B ≤ wr.heap.size)
    (h : ∀ v' w', OwnN w' B v' (acc ++ [c]) → (∀ g, v'.ownBlock = some g → Same wr v.ownBlock g) → wr.grownBy w' v.ownBlock → wpList Try.prog ops Q rest (a.put o.dst v') w') :
    wpList Try.prog ops Q (o :: rest) a (wr.alloc (.cells #[.int .i64 (c : Int)] 3)) := by
  obtain ⟨i, hi, hz0, hz1, hz2⟩ := info_parts Try.infoN
  obtain ⟨v', w', hr, h2, h3, h4⟩ := run_append_same (wr.alloc (.cells #[.int .i64 (c : Int)] 3)) B 43 o.type 3 i (.int .i64 0) 1 8 Try.underlying43 hi hz0 hz1 hz2 rfl (by decide) v acc.length (nv acc) (World.ownsRow.alloc hown _) ⟨wr.heap.size, 0, none⟩ 1 [.int .i64 (c : Int)] rfl
    (fun j u hj => by
      match j, hj with
      | 0, hj => simp at hj; subst hj; simp [Addr.add]) (fun u hu => by simp at hu; subst hu; rfl) (by unfold maxLen; omega) (by omega) (by simp; omega)
  refine wpList_plain hgd fun _ hK => ?_
  unfold Oper.wp execOp
  simp only [ho, resolve, invoke, builtin, Sem.run_bind, Sem.run_pure, Result.andThen_ok, List.map_toArray, List.map_cons, List.map_nil, hs, hx, hr]
  refine hK _ _ (h v' w' ?_ (fun g hg => ?_) ((World.grownBy_alloc wr _ _).trans h4))
  · unfold OwnN
    rw [List.length_append]
    simpa [nv] using h2
  · rcases h3 g hg with e | e
    · exact .inl e
    · right; have : (wr.alloc (.cells #[.int .i64 (c : Int)] 3)).heap.size = wr.heap.size + 1 := by simp
      omega
end Go.Proofs.Ytdecbnmibjcnaaa
