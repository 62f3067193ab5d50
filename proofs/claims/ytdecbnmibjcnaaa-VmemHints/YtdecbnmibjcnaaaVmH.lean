
/-
  What turns in memory, and what does not; bytes are laid into sheets.
-/
import Derived.Test.YtdecbnmibjcnaaaVmG
import Derived.Laws.CopyRow
set_option linter.unusedVariables false
namespace Go.Proofs.Ytdecbnmibjcnaaa
open Go.RowKit Go.PlainAid Go.Sort
/-- Of what was there, nothing but the blocks F has turned. -/
structure Turn (F : Nat → Prop) (w w' : World) : Prop where
  os : w'.os = w.os
  tape : w'.tape = w.tape
  output : w'.output = w.output
  size : w.heap.size ≤ w'.heap.size
  block : ∀ k, k < w.heap.size → ¬ F k → w'.heap[k]? = w.heap[k]?
theorem Turn.refl (F : Nat → Prop) (w : World) : Turn F w w := ⟨rfl, rfl, rfl, Nat.le_refl _, fun _ _ _ => rfl⟩
theorem Turn.trans {F : Nat → Prop} {a b c : World} (h : Turn F a b) (k : Turn F b c) : Turn F a c :=
  ⟨k.os.trans h.os, k.tape.trans h.tape, k.output.trans h.output, Nat.le_trans h.size k.size, fun i hi hf => (k.block i (Nat.lt_of_lt_of_le hi h.size) hf).trans (h.block i hi hf)⟩
theorem Turn.of_below {F : Nat → Prop} {w w' : World} (h : Below w.heap.size w w') : Turn F w w' := ⟨h.os, h.tape, h.output, h.size, fun k hk _ => h.block k hk⟩
theorem Turn.of_grown {F : Nat → Prop} {w w' : World} {g : Nat} (h : w.grownBy w' (some g)) (hg : F g) : Turn F w w' :=
  ⟨h.os, h.tape, h.output, h.size, fun k hk hf => h.block k hk (fun e => hf (by injection e with e; rw [e]; exact hg))⟩
theorem Turn.mono {F G : Nat → Prop} {w w' : World} (h : Turn F w w') (hs : ∀ k, k < w.heap.size → F k → G k) : Turn G w w' :=
  ⟨h.os, h.tape, h.output, h.size, fun k hk hf => h.block k hk (fun e => hf (hs k hk e))⟩
theorem Turn.below {F : Nat → Prop} {w w' : World} {B : Nat} (h : Turn F w w') (hB : B ≤ w.heap.size) (hf : ∀ k, F k → B ≤ k) : Below B w w' :=
  ⟨h.os, h.tape, h.output, h.size, fun k hk => h.block k (Nat.lt_of_lt_of_le hk hB) (fun e => Nat.lt_irrefl _ (Nat.lt_of_lt_of_le hk (hf k e)))⟩
theorem Turn.cell {F : Nat → Prop} {w w' : World} (h : Turn F w w') {p : Addr} {v : Value} (hp : ¬ F p.block) (hv : w.cell? p = some v) : w'.cell? p = some v := by
  rw [World.cell?_of_block (w := w) (h.block p.block (World.block_lt_of_cell? _ _ hv) hp)]; exact hv
theorem Holds.turn {F : Nat → Prop} {w w' : World} {g : Nat} {t : TypeId} {xs : List Value} (h : Holds w g t xs) (ht : Turn F w w') (hg : ¬ F g) : Holds w' g t xs := by
  have hl := h.lt
  obtain ⟨cur, h1, h2⟩ := h
  exact ⟨cur, by rw [ht.block g hl hg]; exact h1, h2⟩
/-- v is a slice of bytes that reads as l and lies outside the blocks F. -/
def Src (w : World) (F : Nat → Prop) (v : Value) (l : List UInt8) : Prop :=
  ∃ a cap, v = .slice a l.length cap ∧ l.length ≤ cap ∧ cap ≤ maxLen ∧
    ((a = none ∧ l = [] ∧ cap = 0) ∨ ∃ x : Addr, a = some x ∧ (l = [] ∨ ¬ F x.block) ∧ ∀ j (hj : j < l.length), w.cell? (x.add j) = some (.int .u8 (l[j].toNat : Int)))
theorem add_block (x : Addr) (j : Nat) : (x.add j).block = x.block := by unfold Addr.add; split <;> rfl
theorem Src.turn {F : Nat → Prop} {w w' : World} {v : Value} {l : List UInt8} (h : Src w F v l) (ht : Turn F w w') : Src w' F v l := by
  obtain ⟨a, cap, rfl, h1, h2, h3⟩ := h
  refine ⟨a, cap, rfl, h1, h2, ?_⟩
  rcases h3 with h3 | ⟨x, rfl, hx, hc⟩
  · exact .inl h3
  · exact .inr ⟨x, rfl, hx, fun j hj => ht.cell (by
      rw [add_block]
      rcases hx with e | e
      · rw [e] at hj; simp at hj
      · exact e) (hc j hj)⟩
/-- A part of a row is set anew. -/
theorem Holds.set {w : World} {g : Nat} {t : TypeId} {xs : List Value} (h : Holds w g t xs) (j : Nat) (cs : List Value) (hj : j + cs.length ≤ xs.length) (cur : Array Value) (hg : w.heap[g]? = some (.cells cur t (0, 0))) :
    Holds (w.setRow g (cur.toList.take j ++ cs ++ cur.toList.drop (j + cs.length)).toArray) g t (xs.take j ++ cs ++ xs.drop (j + cs.length)) := by
  obtain ⟨cur', h1, h2⟩ := h
  rw [hg] at h1
  injection h1 with h1
  injection h1 with h1
  subst h1
  refine ⟨_, setRow_heap w g cur _ t _ hg, ?_⟩
  obtain ⟨r, hr⟩ := h2
  rw [← hr]
  refine ⟨r, ?_⟩
  rw [List.take_append_of_le_length (by omega), List.drop_append_of_le_length (by omega)]
  simp
theorem Try.infoB : (Try.prog.info? 5).map (·.size) = some 1 := by kernel_rfl
/-- Bytes are copied into a row that is known. -/
theorem copy_row {ops : Array Oper} {rest : List Oper} {o : Oper} {a : Act} {Q : Exit → Act → World → Prop} {w : World} (hgd : o.guard = none) (x y : Operand)
    (ho : o.op = .call { callee := .builtin .copy, args := #[x, y], argTypes := #[44, 44] })
    (g j dl dc : Nat) (t : TypeId) (xs : List Value) (sv : Value) (F : Nat → Prop) (l : List UInt8) (hh : Holds w g t xs) (hs : Src w F sv l) (hfit : j + min l.length dl ≤ xs.length)
    (hx : a.eval x = .slice (some ⟨g, j, none⟩) dl dc) (hy : a.eval y = sv)
    (h : ∀ w', Holds w' g t (xs.take j ++ (l.take dl).map (fun b => .int .u8 (b.toNat : Int)) ++ xs.drop (j + min l.length dl)) → w.grownBy w' (some g) → wpList Try.prog ops Q rest (a.put o.dst (.int .i64 (min l.length dl : Nat))) w') :
    wpList Try.prog ops Q (o :: rest) a w := by
  obtain ⟨cur, hg, hp⟩ := id hh
  obtain ⟨sa, cap, rfl, h1, h2, h3⟩ := hs
  have hcl : ((l.take dl).map (fun b => Value.int .u8 (b.toNat : Int))).length = min l.length dl := by simp [Nat.min_comm]
  have hlen : j + min l.length dl ≤ cur.size := by
    obtain ⟨r, hr⟩ := hp
    have : cur.toList.length = xs.length + r.length := by rw [← hr, List.length_append]
    simp at this; omega
  have key : ∃ w', (Builtin.copy_ #[44, 44] o.type #[.slice (some ⟨g, j, none⟩) dl dc, .slice sa l.length cap]).run Try.prog w = .ok (goInt (min l.length dl : Nat)) w' ∧
      Holds w' g t (xs.take j ++ (l.take dl).map (fun b => .int .u8 (b.toNat : Int)) ++ xs.drop (j + min l.length dl)) ∧ w.grownBy w' (some g) := by
    rcases h3 with ⟨rfl, rfl, rfl⟩ | ⟨sx, rfl, _, hc⟩
    · refine ⟨w, ?_, ?_, World.grownBy.refl w _⟩
      · have := run_copy_nil (P := Try.prog) w 44 44 o.type 5 ⟨g, j, none⟩ dl dc Try.underlying44 (by rw [Try.infoB]; rfl)
        simpa using this
      · simpa using hh
    · refine ⟨w.setRow g (cur.toList.take j ++ (l.take dl).map (fun b => Value.int .u8 (b.toNat : Int)) ++ cur.toList.drop (j + min l.length dl)).toArray, ?_, ?_, ?_⟩
      rotate_left
      · have := hh.set j ((l.take dl).map (fun b => .int .u8 (b.toNat : Int))) (by rw [hcl]; exact hfit) cur hg
        rw [hcl] at this
        exact this
      · exact ⟨rfl, rfl, rfl, by simp, fun k _ hk => setRow_other w g k _ (fun e => hk (by rw [e]))⟩
      · have := run_copy_row (P := Try.prog) w 44 44 o.type 5 g j dl dc sx l.length cap cur t ((l.take dl).map (fun b => .int .u8 (b.toNat : Int))) Try.underlying44 Try.infoB hg hcl
          (fun i v hv => by
            rw [List.getElem?_map, List.getElem?_take] at hv
            split at hv
            · cases hli : l[i]? with
              | none => rw [hli] at hv; cases hv
              | some b =>
                rw [hli] at hv
                simp at hv
                obtain ⟨hi, hb⟩ := List.getElem?_eq_some_iff.1 hli
                rw [hc i hi, hb, hv]
            · cases hv) (by rw [hcl]; exact hlen) (by intro v hv; obtain ⟨b, _, rfl⟩ := List.mem_map.1 hv; rfl)
        rw [hcl] at this
        exact this
  obtain ⟨w', hr, h4, h5⟩ := key
  refine wpList_plain hgd fun _ hK => ?_
  unfold Oper.wp execOp
  simp only [ho, resolve, invoke, builtin, Sem.run_bind, Sem.run_pure, Result.andThen_ok, List.map_toArray, List.map_cons, List.map_nil, hx, hy, hr]
  exact hK _ _ (h w' h4 h5)
/-- Bytes laid into sheets one behind the other, from a place of the first one on. -/
def layL : List Sh → Nat → List UInt8 → List Sh
  | [], _, _ => []
  | s :: l, f, d => { s with data := s.data.take f ++ d.take (256 - f) ++ s.data.drop (f + min d.length (256 - f)) } :: layL l 0 (d.drop (min d.length (256 - f)))
theorem flatS_app (a b : List Sh) : flatS (a ++ b) = flatS a ++ flatS b := by unfold flatS; rw [List.flatMap_append]
theorem list_mid {α : Type} (U M V cs : List α) (m : Nat) (h : m + cs.length ≤ M.length) :
    (U ++ M ++ V).take (U.length + m) ++ cs ++ (U ++ M ++ V).drop (U.length + m + cs.length) = U ++ (M.take m ++ cs ++ M.drop (m + cs.length)) ++ V := by
  rw [List.append_assoc U M V, List.take_length_add_append, Nat.add_assoc, List.drop_length_add_append, List.take_append_of_le_length (by omega), List.drop_append_of_le_length (by omega)]
  simp
theorem flatS_lay (X Y : List Sh) (s : Sh) (hX : ∀ x ∈ X, x.data.length = 256) (hs : s.data.length = 256) (f : Nat) (hf : f ≤ 256) (d : List UInt8) :
    (flatS (X ++ s :: Y)).take (X.length * 258 + 2 + f) ++ (d.take (256 - f)).map (fun b => .int .u8 (b.toNat : Int)) ++ (flatS (X ++ s :: Y)).drop (X.length * 258 + 2 + f + min d.length (256 - f)) =
      flatS (X ++ { s with data := s.data.take f ++ d.take (256 - f) ++ s.data.drop (f + min d.length (256 - f)) } :: Y) := by
  have e : ∀ y : Sh, flatS (X ++ y :: Y) = flatS X ++ y.cells ++ flatS Y := fun y => by rw [flatS_app, List.append_assoc]; rfl
  have hc : ((d.take (256 - f)).map (fun b => Value.int .u8 (b.toNat : Int))).length = min d.length (256 - f) := by simp [Nat.min_comm]
  have hl := s.cells_len hs
  rw [e, e, ← flatS_len X hX, ← hc, show (flatS X).length + 2 + f = (flatS X).length + (2 + f) by omega, list_mid _ _ _ _ _ (by rw [hc, hl]; omega), hc]
  congr 2
  unfold Sh.cells
  rw [show 2 + f = f + 1 + 1 by omega, show f + 1 + 1 + min d.length (256 - f) = (f + min d.length (256 - f)) + 1 + 1 by omega]
  simp [List.map_take, List.map_drop]
theorem layL_len (l : List Sh) (f : Nat) (d : List UInt8) : (layL l f d).length = l.length := by
  induction l generalizing f d with
  | nil => rfl
  | cons s l ih => unfold layL; simp [ih]
theorem lay_data {s : Sh} (hs : s.data.length = 256) (f : Nat) (hf : f ≤ 256) (d : List UInt8) : (s.data.take f ++ d.take (256 - f) ++ s.data.drop (f + min d.length (256 - f))).length = 256 := by
  simp; omega
theorem layL_mem {l : List Sh} {f : Nat} {d : List UInt8} (hl : ∀ s ∈ l, s.ok) (hf : f ≤ 256) : ∀ s ∈ layL l f d, s.ok := by
  induction l generalizing f d with
  | nil => simp [layL]
  | cons s l ih =>
    unfold layL
    intro x hx
    rcases List.mem_cons.1 hx with rfl | hx
    · have := hl s List.mem_cons_self
      exact ⟨this.p0, this.p1, lay_data this.len f hf d⟩
    · exact ih (fun y hy => hl y (List.mem_cons_of_mem _ hy)) (by omega) x hx
end Go.Proofs.Ytdecbnmibjcnaaa
