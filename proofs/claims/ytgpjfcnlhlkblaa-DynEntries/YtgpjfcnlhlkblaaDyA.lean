
/-
  Layer 9 (dyn): rows of entries; Entries.
-/
import Derived.Test.YtgpjfcnlhlkblaaHdK
set_option linter.unusedVariables false
namespace Go.Proofs.Ytgpjfcnlhlkblaa
open Go.RowKit Go.PlainAid Go.Sort
/-- An entry. -/
structure De where
  tag : Nat
  val : Nat
def De.cells (e : De) : List Value := [.int .u64 e.tag, .int .u64 e.val]
structure De.ok (e : De) : Prop where
  tag : (e.tag : Int) ≤ 18446744073709551615
  val : (e.val : Int) ≤ 18446744073709551615
/-- The entries from one on, among so many. -/
def entsFrom (l : List UInt8) : Nat → Nat → Option (List De)
  | 0, _ => none
  | f + 1, i => if i * 16 + 16 ≤ l.length then (if rd l (i * 16) 8 = 0 then some [] else (entsFrom l f (i + 1)).map (⟨rd l (i * 16) 8, rd l (i * 16 + 8) 8⟩ :: ·)) else none
def entsZ (l : List UInt8) : Option (List De) := entsFrom l 128 0
theorem rd8I (l : List UInt8) (p : Nat) : (rd l p 8 : Int) ≤ 18446744073709551615 := by
  have h : rd l p 8 < 2 ^ 64 := rd_lt l p 8
  have e : (2 : Nat) ^ 64 = 18446744073709551616 := by decide
  omega
theorem entsFrom_ok (l : List UInt8) : ∀ f i L, entsFrom l f i = some L → (∀ e ∈ L, e.ok ∧ e.tag ≠ 0) ∧ L.length ≤ f
  | 0, _, _, h => by simp [entsFrom] at h
  | f + 1, i, L, h => by
    unfold entsFrom at h
    split at h
    · split at h
      · injection h with h; subst h; simp
      · rename_i h0
        cases hr : entsFrom l f (i + 1) with
        | none => rw [hr] at h; simp at h
        | some M =>
          rw [hr] at h
          simp at h
          subst h
          have ih := entsFrom_ok l f (i + 1) M hr
          refine ⟨fun e he => ?_, by simpa using ih.2⟩
          rcases List.mem_cons.1 he with rfl | he
          · exact ⟨⟨rd8I l _, rd8I l _⟩, h0⟩
          · exact ih.1 e he
    · simp at h
/-- What is read so far, and what comes. -/
def entsRest (l : List UInt8) (acc : List De) (f i : Nat) : Option (List De) := (entsFrom l f i).map (acc ++ ·)
theorem entsRest_start (l : List UInt8) : entsRest l [] 128 0 = entsZ l := by unfold entsRest entsZ; cases entsFrom l 128 0 <;> simp
theorem entsRest_zero (l : List UInt8) (acc : List De) (i : Nat) : entsRest l acc 0 i = none := rfl
theorem entsRest_no (l : List UInt8) (acc : List De) (f i : Nat) (h : ¬ i * 16 + 16 ≤ l.length) : entsRest l acc f i = none := by
  cases f with
  | zero => rfl
  | succ f => unfold entsRest entsFrom; rw [if_neg h]; rfl
theorem entsRest_end (l : List UInt8) (acc : List De) (f i : Nat) (h : i * 16 + 16 ≤ l.length) (h0 : rd l (i * 16) 8 = 0) : entsRest l acc (f + 1) i = some acc := by
  unfold entsRest entsFrom; rw [if_pos h, if_pos h0]; simp
theorem entsRest_next (l : List UInt8) (acc : List De) (f i : Nat) (h : i * 16 + 16 ≤ l.length) (h0 : rd l (i * 16) 8 ≠ 0) :
    entsRest l acc (f + 1) i = entsRest l (acc ++ [⟨rd l (i * 16) 8, rd l (i * 16 + 8) 8⟩]) f (i + 1) := by
  unfold entsRest
  rw [entsFrom, if_pos h, if_neg h0]
  cases entsFrom l f (i + 1) <;> simp
def flatD (l : List De) : List Value := l.flatMap De.cells
theorem flatD_app (l m : List De) : flatD (l ++ m) = flatD l ++ flatD m := by simp [flatD]
theorem flatD_get (l : List De) : ∀ (j : Nat) (hj : j < l.length) (k : Nat) (hk : k < 2), (flatD l)[j * 2 + k]? = l[j].cells[k]? := by
  induction l with
  | nil => intro j hj; simp at hj
  | cons e l ih =>
    intro j hj k hk
    have e1 : flatD (e :: l) = e.cells ++ flatD l := rfl
    have e2 : e.cells.length = 2 := rfl
    cases j with
    | zero => rw [e1, Nat.zero_mul, Nat.zero_add, List.getElem?_append_left (by omega)]; rfl
    | succ j =>
      rw [e1, List.getElem?_append_right (by omega), e2, show (j + 1) * 2 + k - 2 = j * 2 + k by omega]
      exact ih j (by simpa using hj) k hk
theorem De.one (e : De) : ∀ u ∈ e.cells, u.oneCell' = true := by
  intro u hu
  simp only [De.cells, List.mem_cons, List.not_mem_nil, or_false] at hu
  rcases hu with rfl | rfl <;> rfl
/-- A row of entries of the call's own. -/
def OwnD (T : TypeId) (w : World) (B : Nat) (v : Value) (l : List De) : Prop := w.ownsRow B T 2 v l.length (flatD l)
theorem OwnD.nil (T : TypeId) (w : World) (B : Nat) : OwnD T w B (.slice none 0 0) [] := World.ownsRow_nil _ _ _ _
/-- A row of entries that can be read. -/
def ArgD (w : World) (v : Value) (ps : List De) : Prop :=
  ps.length ≤ 65536 ∧ ((v = .slice none 0 0 ∧ ps = []) ∨ ∃ g cap, v = .slice (some ⟨g, 0, none⟩) ps.length cap ∧ ps.length ≤ cap ∧ cap ≤ maxLen ∧ g < w.heap.size ∧
    ∀ j (hj : j < ps.length) k, k < 2 → w.cell? ⟨g, j * 2 + k, none⟩ = ps[j].cells[k]?)
theorem OwnD.arg {T : TypeId} {w : World} {B : Nat} {v : Value} {l : List De} (h : OwnD T w B v l) (hl : l.length ≤ 65536) : ArgD w v l := by
  have hc := fun g hg => World.ownsRow.cells h (g := g) hg
  unfold OwnD at h
  refine ⟨hl, ?_⟩
  rcases h.2 with ⟨rfl, hn⟩ | ⟨g, cap, cur, rfl, hb, hg, hn, hm, _⟩
  · exact .inl ⟨rfl, List.length_eq_zero_iff.1 hn⟩
  · refine .inr ⟨g, cap, rfl, hn, hm, (Array.getElem?_eq_some_iff.1 hg).1, fun j hj k hk => ?_⟩
    have hlen : k < l[j].cells.length := hk
    have := hc g rfl (j * 2 + k) (l[j].cells[k]) (by rw [flatD_get l j hj k hk, List.getElem?_eq_getElem hlen])
    rw [add_at, Nat.zero_add] at this
    rw [this, List.getElem?_eq_getElem hlen]
theorem ArgD.below {w w' : World} {v : Value} {ps : List De} (h : ArgD w v ps) (hb : Below w.heap.size w w') : ArgD w' v ps := by
  refine ⟨h.1, ?_⟩
  rcases h.2 with hn | ⟨g, cap, rfl, h1, h2, h3, h4⟩
  · exact .inl hn
  · refine .inr ⟨g, cap, rfl, h1, h2, Nat.lt_of_lt_of_le h3 hb.size, fun j hj k hk => ?_⟩
    rw [hb.cell (p := ⟨g, j * 2 + k, none⟩) h3, h4 j hj k hk]
theorem ArgD.form {w : World} {v : Value} {ps : List De} (h : ArgD w v ps) : ∃ a cap, v = .slice a ps.length cap := by
  rcases h.2 with ⟨rfl, rfl⟩ | ⟨g, cap, rfl, _⟩
  · exact ⟨_, _, rfl⟩
  · exact ⟨_, _, rfl⟩
theorem ArgD.at {w : World} {a : Option Addr} {n cap : Nat} {ps : List De} (h : ArgD w (.slice a n cap) ps) (j : Nat) (hj : j < ps.length) :
    ∃ g, a = some ⟨g, 0, none⟩ ∧ ps.length ≤ cap ∧ cap ≤ 9223372036854775807 ∧ g < w.heap.size ∧
      w.cell? ⟨g, j * 2, none⟩ = some (.int .u64 ps[j].tag) ∧ w.cell? ⟨g, j * 2 + 1, none⟩ = some (.int .u64 ps[j].val) := by
  rcases h.2 with ⟨_, rfl⟩ | ⟨g, cap', e, h1, h2, h3, h4⟩
  · simp at hj
  · injection e with e1 e2 e3
    subst e1 e3
    have k := fun k hk => h4 j hj k hk
    exact ⟨g, rfl, h1, by unfold maxLen at h2; omega, h3, k 0 (by omega), k 1 (by omega)⟩
theorem info_dy : (Try.prog.info? 60).map (fun i => (i.zero, i.size, i.bytes)) = some (some (.agg #[.int .u64 0, .int .u64 0]), 2, 16) := by kernel_rfl
theorem append_dy {ops : Array Oper} {rest : List Oper} {o : Oper} {a : Act} {Q : Exit → Act → World → Prop} (hgd : o.guard = none) (s x : Operand)
    (ho : o.op = .call { callee := .builtin .append, args := #[s, x], argTypes := #[53, 53] })
    (B : Nat) (wr : World) (v : Value) (l : List De) (hown : OwnD 60 wr B v l) (e : De) (hs : a.eval s = v)
    (q : Nat) (hq : q = wr.heap.size) (hx : a.eval x = .slice (some ⟨q, 0, none⟩) 1 1) (hlen : l.length ≤ 1000000) (hB : B ≤ wr.heap.size)
    (h : ∀ v' w', OwnD 60 w' B v' (l ++ [e]) → Below B wr w' → wpList Try.prog ops Q rest (a.put o.dst v') w') :
    wpList Try.prog ops Q (o :: rest) a (wr.alloc (.cells e.cells.toArray 60)) := by
  subst hq
  obtain ⟨i, hi, hz0, hz1, hz2⟩ := info_parts info_dy
  have hb : ∀ k, v.ownBlock = some k → B ≤ k := fun k hk => (World.ownsRow.lt hown k hk).1
  refine wpList_append_own (P := Try.prog) (wr.alloc (.cells e.cells.toArray 60)) hgd s x 53 ho B 60 i _ 2 16 Try.underlying53 hi hz0 hz1 hz2 rfl (by decide) v l.length (flatD l) hs (World.ownsRow.alloc hown _)
    ⟨wr.heap.size, 0, none⟩ 1 1 e.cells hx rfl ?_ e.one ?_ ?_ ?_ ?_
  · intro j u hj
    have hj5 : j < 2 := (List.getElem?_eq_some_iff.1 hj).1
    rw [add_at, Nat.zero_add, World.cell?_alloc_at _ _ _ _ (by simp)]
    simpa using hj
  · unfold maxLen; omega
  · omega
  · simp; omega
  · intro v' w' h1 h2 _
    refine h v' w' ?_ ?_
    · unfold OwnD
      rw [List.length_append, flatD_app]
      simpa [flatD] using h1
    · exact ((Below.refl B wr).alloc hB _).grown h2 (by simp; omega) hb
theorem info_rf : (Try.prog.info? 61).map (fun i => (i.zero, i.size, i.bytes)) = some (some (.agg #[.int .u64 0, .int .u64 0]), 2, 16) := by kernel_rfl
theorem append_rf {ops : Array Oper} {rest : List Oper} {o : Oper} {a : Act} {Q : Exit → Act → World → Prop} (hgd : o.guard = none) (s x : Operand)
    (ho : o.op = .call { callee := .builtin .append, args := #[s, x], argTypes := #[56, 56] })
    (B : Nat) (wr : World) (v : Value) (l : List De) (hown : OwnD 61 wr B v l) (e : De) (hs : a.eval s = v)
    (q : Nat) (hq : q = wr.heap.size) (hx : a.eval x = .slice (some ⟨q, 0, none⟩) 1 1) (hlen : l.length ≤ 1000000) (hB : B ≤ wr.heap.size)
    (h : ∀ v' w', OwnD 61 w' B v' (l ++ [e]) → Below B wr w' → wpList Try.prog ops Q rest (a.put o.dst v') w') :
    wpList Try.prog ops Q (o :: rest) a (wr.alloc (.cells e.cells.toArray 61)) := by
  subst hq
  obtain ⟨i, hi, hz0, hz1, hz2⟩ := info_parts info_rf
  have hb : ∀ k, v.ownBlock = some k → B ≤ k := fun k hk => (World.ownsRow.lt hown k hk).1
  refine wpList_append_own (P := Try.prog) (wr.alloc (.cells e.cells.toArray 61)) hgd s x 56 ho B 61 i _ 2 16 Try.underlying56 hi hz0 hz1 hz2 rfl (by decide) v l.length (flatD l) hs (World.ownsRow.alloc hown _)
    ⟨wr.heap.size, 0, none⟩ 1 1 e.cells hx rfl ?_ e.one ?_ ?_ ?_ ?_
  · intro j u hj
    have hj5 : j < 2 := (List.getElem?_eq_some_iff.1 hj).1
    rw [add_at, Nat.zero_add, World.cell?_alloc_at _ _ _ _ (by simp)]
    simpa using hj
  · unfold maxLen; omega
  · omega
  · simp; omega
  · intro v' w' h1 h2 _
    refine h v' w' ?_ ?_
    · unfold OwnD
      rw [List.length_append, flatD_app]
      simpa [flatD] using h1
    · exact ((Below.refl B wr).alloc hB _).grown h2 (by simp; omega) hb
end Go.Proofs.Ytgpjfcnlhlkblaa
