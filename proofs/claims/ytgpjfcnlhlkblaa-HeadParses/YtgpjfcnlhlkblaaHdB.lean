
/-
  Layer 8 (head): rows of program headers; one of them; a part's end, and whether it may be.
-/
import Derived.Test.YtgpjfcnlhlkblaaHdA
set_option linter.unusedVariables false
namespace Go.Proofs.Ytgpjfcnlhlkblaa
open Go.RowKit Go.PlainAid
def flatH (l : List Ph) : List Value := l.flatMap Ph.cells
theorem flatH_app (l m : List Ph) : flatH (l ++ m) = flatH l ++ flatH m := by simp [flatH]
theorem flatH_len (l : List Ph) : (flatH l).length = l.length * 7 := by
  induction l with
  | nil => rfl
  | cons n l ih => show (n.cells ++ flatH l).length = _; rw [List.length_append, ih]; simp [Ph.cells]; omega
theorem flatH_get (l : List Ph) : ∀ (j : Nat) (hj : j < l.length) (k : Nat) (hk : k < 7), (flatH l)[j * 7 + k]? = l[j].cells[k]? := by
  induction l with
  | nil => intro j hj; simp at hj
  | cons e l ih =>
    intro j hj k hk
    have e1 : flatH (e :: l) = e.cells ++ flatH l := rfl
    have e2 : e.cells.length = 7 := rfl
    cases j with
    | zero => rw [e1, Nat.zero_mul, Nat.zero_add, List.getElem?_append_left (by omega)]; rfl
    | succ j =>
      rw [e1, List.getElem?_append_right (by omega), e2, show (j + 1) * 7 + k - 7 = j * 7 + k by omega]
      exact ih j (by simpa using hj) k hk
theorem Ph.one (e : Ph) : ∀ u ∈ e.cells, u.oneCell' = true := by
  intro u hu
  simp only [Ph.cells, List.mem_cons, List.not_mem_nil, or_false] at hu
  rcases hu with rfl | rfl | rfl | rfl | rfl | rfl | rfl <;> rfl
/-- A row of program headers of the call's own. -/
def OwnH (w : World) (B : Nat) (v : Value) (l : List Ph) : Prop := w.ownsRow B 32 7 v l.length (flatH l)
theorem OwnH.nil (w : World) (B : Nat) : OwnH w B (.slice none 0 0) [] := World.ownsRow_nil _ _ _ _
theorem OwnH.stay {w w' : World} {B : Nat} {v : Value} {l : List Ph} (h : OwnH w B v l) (hb : Below w.heap.size w w') : OwnH w' B v l := by
  unfold OwnH at h ⊢
  refine ⟨h.1, ?_⟩
  rcases h.2 with hn | ⟨g, cap, cur, rfl, hB, hg, rest⟩
  · exact .inl hn
  · refine .inr ⟨g, cap, cur, rfl, hB, ?_, rest⟩
    rw [hb.block g (Array.getElem?_eq_some_iff.1 hg).1]; exact hg
theorem OwnH.low {w : World} {B C : Nat} {v : Value} {l : List Ph} (h : OwnH w B v l) (hb : C ≤ B) : OwnH w C v l := by
  unfold OwnH at h ⊢
  refine ⟨h.1, ?_⟩
  rcases h.2 with hn | ⟨g, cap, cur, rfl, hB, rest⟩
  · exact .inl hn
  · exact .inr ⟨g, cap, cur, rfl, Nat.le_trans hb hB, rest⟩
/-- A row of program headers that can be read. -/
def ArgH (w : World) (v : Value) (ps : List Ph) : Prop :=
  ps.length ≤ 65536 ∧ ((v = .slice none 0 0 ∧ ps = []) ∨ ∃ g cap, v = .slice (some ⟨g, 0, none⟩) ps.length cap ∧ ps.length ≤ cap ∧ cap ≤ maxLen ∧ g < w.heap.size ∧
    ∀ j (hj : j < ps.length) k, k < 7 → w.cell? ⟨g, j * 7 + k, none⟩ = ps[j].cells[k]?)
theorem OwnH.arg {w : World} {B : Nat} {v : Value} {l : List Ph} (h : OwnH w B v l) (hl : l.length ≤ 65536) : ArgH w v l := by
  have hc := fun g hg => World.ownsRow.cells h (g := g) hg
  unfold OwnH at h
  refine ⟨hl, ?_⟩
  rcases h.2 with ⟨rfl, hn⟩ | ⟨g, cap, cur, rfl, hb, hg, hn, hm, _⟩
  · exact .inl ⟨rfl, List.length_eq_zero_iff.1 hn⟩
  · refine .inr ⟨g, cap, rfl, hn, hm, (Array.getElem?_eq_some_iff.1 hg).1, fun j hj k hk => ?_⟩
    have hlen : k < l[j].cells.length := hk
    have := hc g rfl (j * 7 + k) (l[j].cells[k]) (by rw [flatH_get l j hj k hk, List.getElem?_eq_getElem hlen])
    rw [add_at, Nat.zero_add] at this
    rw [this, List.getElem?_eq_getElem hlen]
theorem ArgH.below {w w' : World} {v : Value} {ps : List Ph} (h : ArgH w v ps) (hb : Below w.heap.size w w') : ArgH w' v ps := by
  refine ⟨h.1, ?_⟩
  rcases h.2 with hn | ⟨g, cap, rfl, h1, h2, h3, h4⟩
  · exact .inl hn
  · refine .inr ⟨g, cap, rfl, h1, h2, Nat.lt_of_lt_of_le h3 hb.size, fun j hj k hk => ?_⟩
    rw [hb.cell (p := ⟨g, j * 7 + k, none⟩) h3, h4 j hj k hk]
theorem ArgH.nil (w : World) : ArgH w (.slice none 0 0) [] := ⟨by simp, .inl ⟨rfl, rfl⟩⟩
theorem ArgH.form {w : World} {v : Value} {ps : List Ph} (h : ArgH w v ps) : ∃ a cap, v = .slice a ps.length cap := by
  rcases h.2 with ⟨rfl, rfl⟩ | ⟨g, cap, rfl, _⟩
  · exact ⟨_, _, rfl⟩
  · exact ⟨_, _, rfl⟩
/-- The cells of one of them. -/
theorem ArgH.at {w : World} {a : Option Addr} {n cap : Nat} {ps : List Ph} (h : ArgH w (.slice a n cap) ps) (j : Nat) (hj : j < ps.length) :
    ∃ g, a = some ⟨g, 0, none⟩ ∧ ps.length ≤ cap ∧ cap ≤ 9223372036854775807 ∧ g < w.heap.size ∧
      w.cell? ⟨g, j * 7, none⟩ = some (.int .u32 ps[j].type) ∧ w.cell? ⟨g, j * 7 + 1, none⟩ = some (.int .u32 ps[j].flags) ∧ w.cell? ⟨g, j * 7 + 2, none⟩ = some (.int .u64 ps[j].off) ∧
      w.cell? ⟨g, j * 7 + 3, none⟩ = some (.int .u64 ps[j].vaddr) ∧ w.cell? ⟨g, j * 7 + 4, none⟩ = some (.int .u64 ps[j].filesz) ∧ w.cell? ⟨g, j * 7 + 5, none⟩ = some (.int .u64 ps[j].memsz) ∧ w.cell? ⟨g, j * 7 + 6, none⟩ = some (.int .u64 ps[j].align) := by
  rcases h.2 with ⟨_, rfl⟩ | ⟨g, cap', e, h1, h2, h3, h4⟩
  · simp at hj
  · injection e with e1 e2 e3
    subst e1 e3
    have k := fun k hk => h4 j hj k hk
    exact ⟨g, rfl, h1, by unfold maxLen at h2; omega, h3, k 0 (by omega), k 1 (by omega), k 2 (by omega), k 3 (by omega), k 4 (by omega), k 5 (by omega), k 6 (by omega)⟩
theorem infoH : (Try.prog.info? 32).map (fun i => (i.zero, i.size, i.bytes)) = some (some (.agg noPh.cells.toArray), 7, 48) := by kernel_rfl
theorem append_ph {ops : Array Oper} {rest : List Oper} {o : Oper} {a : Act} {Q : Exit → Act → World → Prop} (hgd : o.guard = none) (s x : Operand)
    (ho : o.op = .call { callee := .builtin .append, args := #[s, x], argTypes := #[23, 23] })
    (B : Nat) (wr : World) (v : Value) (l : List Ph) (hown : OwnH wr B v l) (e : Ph) (hs : a.eval s = v)
    (q : Nat) (hq : q = wr.heap.size) (hx : a.eval x = .slice (some ⟨q, 0, none⟩) 1 1) (hlen : l.length ≤ 1000000) (hB : B ≤ wr.heap.size)
    (h : ∀ v' w', OwnH w' B v' (l ++ [e]) → Below B wr w' → wpList Try.prog ops Q rest (a.put o.dst v') w') :
    wpList Try.prog ops Q (o :: rest) a (wr.alloc (.cells e.cells.toArray 32)) := by
  subst hq
  obtain ⟨i, hi, hz0, hz1, hz2⟩ := info_parts infoH
  have hb : ∀ k, v.ownBlock = some k → B ≤ k := fun k hk => (World.ownsRow.lt hown k hk).1
  refine wpList_append_own (P := Try.prog) (wr.alloc (.cells e.cells.toArray 32)) hgd s x 23 ho B 32 i _ 7 48 Try.underlying23 hi hz0 hz1 hz2 rfl (by decide) v l.length (flatH l) hs (World.ownsRow.alloc hown _)
    ⟨wr.heap.size, 0, none⟩ 1 1 e.cells hx rfl ?_ e.one ?_ ?_ ?_ ?_
  · intro j u hj
    have hj5 : j < 7 := (List.getElem?_eq_some_iff.1 hj).1
    rw [add_at, Nat.zero_add, World.cell?_alloc_at _ _ _ _ (by simp)]
    simpa using hj
  · unfold maxLen; omega
  · omega
  · simp; omega
  · intro v' w' h1 h2 _
    refine h v' w' ?_ ?_
    · unfold OwnH
      rw [List.length_append, flatH_app]
      simpa [flatH] using h1
    · exact ((Below.refl B wr).alloc hB _).grown h2 (by simp; omega) hb
theorem results_cell1 {P : Program} {fn : Func} {p : Tmp} {ty : TypeId} (h : fn.results = #[.cell p ty]) (tmps : Array Value) (w : World) (g : Nat) (t : TypeId) (cs : Array Value) (fr : Nat × Nat) (d : TypeDesc)
    (hp : tmps.getD p undef = .pointer (some ⟨g, 0, none⟩)) (hg : w.heap[g]? = some (.cells cs t fr))
    (hu : P.underlying ty = some d) (hd : (match d with | .struct _ | .array _ _ => true | _ => false) = true) (hi : (P.info? ty).map (·.size) = some cs.size) :
    (results fn tmps).run P w = .ok (.agg cs) w := by
  have hp' : tmps[p]?.getD undef = .pointer (some ⟨g, 0, none⟩) := by simpa using hp
  simp [results, h, hp', asAddr, run_loadVar_row w g t ty cs fr d hg hu hd hi]
set_option maxHeartbeats 1000000 in
theorem head_one (w : World) (v : Value) (l : List UInt8) (h : Arg w v l) (p : Nat) (hp : p + 48 ≤ 140737488351232) :
    Calls Try.prog 33 #[v, .int .u64 p] w fun e w' => e = .returned (.agg (phAt l p).cells.toArray) ∧ Below w.heap.size w w' := by
  have h0 := h.alloc (.cells noPh.cells.toArray 32)
  have HB : Hid (Below w.heap.size w (w.alloc (.cells (phAt l p).cells.toArray 32))) := (Below.refl _ w).alloc (Nat.le_refl _) _
  obtain ⟨a, cap, rfl, _⟩ := h.isSlice
  unfold phAt
  unfold phAt at HB
  simp only [Ph.cells, noPh] at h0 HB ⊢
  have k0 := head_four _ _ l h0 p (by omega)
  have k4 := head_four _ _ l h0 (p + 4) (by omega)
  have k8 := head_eight _ _ l h0 (p + 8) (by omega)
  have k16 := head_eight _ _ l h0 (p + 16) (by omega)
  have k32 := head_eight _ _ l h0 (p + 32) (by omega)
  have k40 := head_eight _ _ l h0 (p + 40) (by omega)
  have k48 := head_eight _ _ l h0 (p + 48) (by omega)
  have hpI : (p : Int) + 48 ≤ 140737488351232 := by omega
  generalize rd l p 4 = q0 at *
  generalize rd l (p + 4) 4 = q4 at *
  generalize rd l (p + 8) 8 = q8 at *
  generalize rd l (p + 16) 8 = q16 at *
  generalize rd l (p + 32) 8 = q32 at *
  generalize rd l (p + 40) 8 = q40 at *
  generalize rd l (p + 48) 8 = q48 at *
  clear h h0
  go_enter Try.func33, Try.ntmps33
  go_wp2_with fail
  refine k0.mono ?_
  rintro e w1 ⟨rfl, rfl⟩
  go_wp2_with fail
  refine k4.mono ?_
  rintro e w1 ⟨rfl, rfl⟩
  go_wp2_with fail
  refine k8.mono ?_
  rintro e w1 ⟨rfl, rfl⟩
  go_wp2_with fail
  refine k16.mono ?_
  rintro e w1 ⟨rfl, rfl⟩
  go_wp2_with fail
  refine k32.mono ?_
  rintro e w1 ⟨rfl, rfl⟩
  go_wp2_with fail
  refine k40.mono ?_
  rintro e w1 ⟨rfl, rfl⟩
  go_wp2_with fail
  refine k48.mono ?_
  rintro e w1 ⟨rfl, rfl⟩
  go_wp2
  refine bodyPost_ret (results_cell1 rfl _ _ w.heap.size _ _ _ _ rfl (heap_alloc_new _ _) Try.underlying32 rfl (by kernel_rfl)) rfl ?_
  exact ⟨rfl, HB.out⟩
end Go.Proofs.Ytgpjfcnlhlkblaa
