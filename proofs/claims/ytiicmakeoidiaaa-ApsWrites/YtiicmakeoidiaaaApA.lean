
/-
  Layer 14 (aps): relocations as plain data; rows of them in memory, the call's own and those that came in; the reference's Same of layer 12.
-/
import Derived.Test.YtiicmakeoidiaaaRowB
import Derived.Deep.MidRow
import Derived.Deep.Slices
import Derived.ChangeSlices
import Derived.ProofKit
import Derived.Deep.RegionHeldLaw
set_option linter.unusedVariables false
namespace Go.Proofs.Ytiicmakeoidiaaa
open Go.RowKit Go.PlainAid
theorem hide {p : Prop} (h : p) : Hid p := h
theorem wrap_i64_is (n : Int) : IntKind.i64.wrap n = (n + 9223372036854775808) % 18446744073709551616 - 9223372036854775808 := by
  simp [IntKind.wrap, IntKind.bits, IntKind.signed]
  omega
/-- A relocation. -/
structure Rl where
  pl : Nat
  type : Nat
  sym : Nat
  add : Int
  has : Bool
def Rl.cells (r : Rl) : List Value := [.int .u64 r.pl, .int .u32 r.type, .int .u32 r.sym, .int .i64 r.add, .bool r.has]
structure Rl.ok (r : Rl) : Prop where
  pl : (r.pl : Int) ≤ 18446744073709551615
  type : (r.type : Int) ≤ 4294967295
  sym : (r.sym : Int) ≤ 4294967295
  lo : -9223372036854775808 ≤ r.add
  hi : r.add ≤ 9223372036854775807
/-- What is added, of a number that is read. -/
def sg (n : Nat) : Int := IntKind.i64.wrap (n : Int)
/-- The number of what is added. -/
def us (z : Int) : Nat := (IntKind.u64.wrap z).toNat
theorem us_is (z : Int) : ((us z : Nat) : Int) = IntKind.u64.wrap z := by
  unfold us; have : 0 ≤ IntKind.u64.wrap z := by rw [IntKind.wrap_u64]; omega
  omega
theorem us_lt (z : Int) : us z < 18446744073709551616 := by have := us_is z; rw [IntKind.wrap_u64] at this; omega
theorem sg_us (z : Int) (h0 : -9223372036854775808 ≤ z) (h1 : z ≤ 9223372036854775807) : sg (us z) = z := by
  unfold sg; rw [us_is, IntKind.wrap_u64, wrap_i64_is]; omega
theorem us_sg (n : Nat) (h : n < 18446744073709551616) : us (sg n) = n := by
  have e := us_is (sg n)
  have e2 : sg n = ((n : Int) + 9223372036854775808) % 18446744073709551616 - 9223372036854775808 := wrap_i64_is _
  rw [IntKind.wrap_u64] at e
  omega
theorem sg_lo (n : Nat) : -9223372036854775808 ≤ sg n := by unfold sg; rw [wrap_i64_is]; omega
theorem sg_hi (n : Nat) : sg n ≤ 9223372036854775807 := by unfold sg; rw [wrap_i64_is]; omega
def flatR (l : List Rl) : List Value := l.flatMap Rl.cells
theorem flatR_app (l m : List Rl) : flatR (l ++ m) = flatR l ++ flatR m := by simp [flatR]
theorem flatR_len (l : List Rl) : (flatR l).length = l.length * 5 := by
  induction l with
  | nil => rfl
  | cons r l ih =>
    have e : flatR (r :: l) = r.cells ++ flatR l := rfl
    rw [e, List.length_append, ih, List.length_cons]
    have : r.cells.length = 5 := rfl
    omega
theorem flatR_get (l : List Rl) : ∀ (j : Nat) (hj : j < l.length) (k : Nat) (hk : k < 5), (flatR l)[j * 5 + k]? = l[j].cells[k]? := by
  induction l with
  | nil => intro j hj; simp at hj
  | cons e l ih =>
    intro j hj k hk
    have e1 : flatR (e :: l) = e.cells ++ flatR l := rfl
    have e2 : e.cells.length = 5 := rfl
    cases j with
    | zero => rw [e1, Nat.zero_mul, Nat.zero_add, List.getElem?_append_left (by omega)]; rfl
    | succ j =>
      rw [e1, List.getElem?_append_right (by omega), e2, show (j + 1) * 5 + k - 5 = j * 5 + k by omega]
      exact ih j (by simpa using hj) k hk
theorem Rl.one (e : Rl) : ∀ u ∈ e.cells, u.oneCell' = true := by
  intro u hu
  simp only [Rl.cells, List.mem_cons, List.not_mem_nil, or_false] at hu
  rcases hu with rfl | rfl | rfl | rfl | rfl <;> rfl
theorem flatR_one (l : List Rl) : ∀ u ∈ flatR l, u.oneCell' = true := by
  intro u hu
  simp only [flatR, List.mem_flatMap] at hu
  obtain ⟨r, _, h⟩ := hu
  exact r.one u h
/-- A row of relocations of the call's own. -/
def OwnR (w : World) (B : Nat) (v : Value) (l : List Rl) : Prop := w.ownsRow B 59 5 v l.length (flatR l)
theorem OwnR.nil (w : World) (B : Nat) : OwnR w B (.slice none 0 0) [] := World.ownsRow_nil _ _ _ _
theorem OwnR.base {w : World} {B : Nat} {v : Value} {l : List Rl} (h : OwnR w B v l) : ∀ k, v.ownBlock = some k → B ≤ k ∧ k < w.heap.size := World.ownsRow.lt h
theorem OwnR.isSlice {w : World} {B : Nat} {v : Value} {l : List Rl} (h : OwnR w B v l) : ∃ a n cap, v = .slice a n cap := by
  unfold OwnR at h
  rcases h.2 with ⟨rfl, hn⟩ | ⟨g, cap, cur, rfl, _⟩
  · exact ⟨_, _, _, rfl⟩
  · exact ⟨_, _, _, rfl⟩
theorem OwnR.stay {w w' : World} {B : Nat} {v : Value} {l : List Rl} (h : OwnR w B v l) (hb : Below w.heap.size w w') : OwnR w' B v l := by
  unfold OwnR at h ⊢
  refine ⟨h.1, ?_⟩
  rcases h.2 with hn | ⟨k, cap, cur, rfl, hB, hg, rest⟩
  · exact .inl hn
  · refine .inr ⟨k, cap, cur, rfl, hB, ?_, rest⟩
    rw [hb.block k (Array.getElem?_eq_some_iff.1 hg).1]; exact hg
/-- A row of relocations that can be read. -/
def ArgR (w : World) (v : Value) (ps : List Rl) : Prop :=
  (∀ r ∈ ps, r.ok) ∧ ∃ a cap, v = .slice a ps.length cap ∧ ps.length ≤ cap ∧ cap ≤ maxLen ∧ ((ps = [] ∧ (a = none → cap = 0)) ∨ ∃ g o, a = some ⟨g, o, none⟩ ∧ g < w.heap.size ∧
    ∀ j (hj : j < ps.length) k, k < 5 → w.cell? ⟨g, o + j * 5 + k, none⟩ = ps[j].cells[k]?)
theorem OwnR.arg {w : World} {B : Nat} {v : Value} {l : List Rl} (h : OwnR w B v l) (hok : ∀ r ∈ l, r.ok) : ArgR w v l := by
  have hc := fun g hg => World.ownsRow.cells h (g := g) hg
  unfold OwnR at h
  refine ⟨hok, ?_⟩
  rcases h.2 with ⟨rfl, hn⟩ | ⟨g, cap, cur, rfl, hb, hg, hn, hm, _⟩
  · exact ⟨none, 0, by rw [hn], by omega, by unfold maxLen; omega, .inl ⟨List.length_eq_zero_iff.1 hn, fun _ => rfl⟩⟩
  · refine ⟨_, cap, rfl, hn, hm, .inr ⟨g, 0, rfl, (Array.getElem?_eq_some_iff.1 hg).1, fun j hj k hk => ?_⟩⟩
    have hlen : k < l[j].cells.length := hk
    have := hc g rfl (j * 5 + k) (l[j].cells[k]) (by rw [flatR_get l j hj k hk, List.getElem?_eq_getElem hlen])
    rw [add_at, Nat.zero_add] at this
    rw [Nat.zero_add, this, List.getElem?_eq_getElem hlen]
theorem ArgR.below {w w' : World} {v : Value} {ps : List Rl} (h : ArgR w v ps) (hb : Below w.heap.size w w') : ArgR w' v ps := by
  obtain ⟨h0, a, cap, rfl, h1, h2, h3⟩ := h
  refine ⟨h0, a, cap, rfl, h1, h2, ?_⟩
  rcases h3 with hn | ⟨g, o, rfl, h3, h4⟩
  · exact .inl hn
  · refine .inr ⟨g, o, rfl, Nat.lt_of_lt_of_le h3 hb.size, fun j hj k hk => ?_⟩
    rw [hb.cell (p := ⟨g, o + j * 5 + k, none⟩) h3, h4 j hj k hk]
theorem ArgR.below' {w w' : World} {B : Nat} {v : Value} {ps : List Rl} (h : ArgR w v ps) (hb : Below B w w') (hB : B = w.heap.size) : ArgR w' v ps := by subst hB; exact h.below hb
theorem ArgR.form {w : World} {v : Value} {ps : List Rl} (h : ArgR w v ps) : ∃ a cap, v = .slice a ps.length cap ∧ ps.length ≤ cap ∧ cap ≤ 9223372036854775807 := by
  obtain ⟨h0, a, cap, rfl, h1, h2, h3⟩ := h
  exact ⟨a, cap, rfl, h1, by unfold maxLen at h2; omega⟩
theorem ArgR.at {w : World} {a : Option Addr} {n cap : Nat} {ps : List Rl} (h : ArgR w (.slice a n cap) ps) (j : Nat) (hj : j < ps.length) :
    ∃ g o, a = some ⟨g, o, none⟩ ∧ w.cell? ⟨g, o + j * 5, none⟩ = some (.int .u64 ps[j].pl) ∧ w.cell? ⟨g, o + j * 5 + 1, none⟩ = some (.int .u32 ps[j].type) ∧
      w.cell? ⟨g, o + j * 5 + 2, none⟩ = some (.int .u32 ps[j].sym) ∧ w.cell? ⟨g, o + j * 5 + 3, none⟩ = some (.int .i64 ps[j].add) ∧ w.cell? ⟨g, o + j * 5 + 4, none⟩ = some (.bool ps[j].has) := by
  obtain ⟨h0, a', cap', e, h1, h2, h3⟩ := h
  injection e with e1 e2 e3
  subst e1 e3
  rcases h3 with ⟨rfl, _⟩ | ⟨g, o, rfl, h3, h4⟩
  · simp at hj
  · have k := fun k hk => h4 j hj k hk
    exact ⟨g, o, rfl, k 0 (by omega), k 1 (by omega), k 2 (by omega), k 3 (by omega), k 4 (by omega)⟩
theorem info_rl : (Try.prog.info? 59).map (fun i => (i.zero, i.size, i.bytes)) = some (some (.agg #[.int .u64 0, .int .u32 0, .int .u32 0, .int .i64 0, .bool false]), 5, 32) := by kernel_rfl
/-- One more relocation, which lies in a variable of its own. -/
theorem append_rl {ops : Array Oper} {rest : List Oper} {o : Oper} {a : Act} {Q : Exit → Act → World → Prop} (hgd : o.guard = none) (s x : Operand)
    (ho : o.op = .call { callee := .builtin .append, args := #[s, x], argTypes := #[41, 41] })
    (B : Nat) (wr : World) (v : Value) (l : List Rl) (hown : OwnR wr B v l) (e : Rl) (hs : a.eval s = v)
    (q : Nat) (hq : q = wr.heap.size) (hx : a.eval x = .slice (some ⟨q, 0, none⟩) 1 1) (hlen : l.length ≤ 1000000) (hB : B ≤ wr.heap.size)
    (h : ∀ v' w', OwnR w' B v' (l ++ [e]) → Below B wr w' → wpList Try.prog ops Q rest (a.put o.dst v') w') :
    wpList Try.prog ops Q (o :: rest) a (wr.alloc (.cells e.cells.toArray 59)) := by
  subst hq
  obtain ⟨i, hi, hz0, hz1, hz2⟩ := info_parts info_rl
  have hb : ∀ k, v.ownBlock = some k → B ≤ k := fun k hk => (World.ownsRow.lt hown k hk).1
  refine wpList_append_own (P := Try.prog) (wr.alloc (.cells e.cells.toArray 59)) hgd s x 41 ho B 59 i _ 5 32 Try.underlying41 hi hz0 hz1 hz2 rfl (by decide) v l.length (flatR l) hs (World.ownsRow.alloc hown _)
    ⟨wr.heap.size, 0, none⟩ 1 1 e.cells hx rfl ?_ e.one ?_ ?_ ?_ ?_
  · intro j u hj
    have hj5 : j < 5 := (List.getElem?_eq_some_iff.1 hj).1
    rw [add_at, Nat.zero_add, World.cell?_alloc_at _ _ _ _ (by simp)]
    simpa using hj
  · unfold maxLen; omega
  · omega
  · simp; omega
  · intro v' w' h1 h2 _
    refine h v' w' ?_ ?_
    · unfold OwnR
      rw [List.length_append, flatR_app]
      simpa [flatR] using h1
    · exact ((Below.refl B wr).alloc hB _).grown h2 (by simp; omega) hb
theorem five {l : List Value} (h : l.length = 5) : ∃ a b c d e, l = [a, b, c, d, e] := by
  match l, h with
  | [a, b, c, d, e], _ => exact ⟨a, b, c, d, e, rfl⟩
theorem cells5 : Try.prog.cellsOf 59 = 5 := by kernel_rfl
theorem cellsO : Try.prog.cellsOf 4 = 1 := by kernel_rfl
theorem cellsI : Try.prog.cellsOf 2 = 1 := by kernel_rfl
theorem cellsU : Try.prog.cellsOf 28 = 1 := by kernel_rfl
theorem cellsU4 : Try.prog.cellsOf 23 = 1 := by kernel_rfl
theorem wf_i64 {n : Int} (h : (Lit.int .i64 n).wf = true) : -9223372036854775808 ≤ n ∧ n ≤ 9223372036854775807 := by
  have a : IntKind.i64.min = -9223372036854775808 := rfl
  have b : IntKind.i64.max = 9223372036854775807 := rfl
  simp [Lit.wf] at h
  omega
theorem wf_u32 {n : Int} (h : (Lit.int .u32 n).wf = true) : 0 ≤ n ∧ n ≤ 4294967295 := by
  have a : IntKind.u32.min = 0 := rfl
  have b : IntKind.u32.max = 4294967295 := rfl
  simp [Lit.wf] at h
  omega
section
variable {H : Type} {enc : TypeId × Value → H}
theorem rl_of {W : World} {cs : List Value} {x : DataW H × List MemPlace} {fuel : Nat} (h2 : DataW.trod enc Try.prog W 0 (fun _ => true) true fuel 59 cs = some x) :
    ∃ s : Rl, cs = s.cells ∧ s.ok := by
  obtain ⟨xs, n, _, rfl, hlen, hl4, hf⟩ := DataW.trod_struct Try.underlying59 h2
  rw [cells5] at hlen
  obtain ⟨v0, v1, v2, v3, v4, rfl⟩ := five hlen
  match xs, hl4 with
  | [y0, y1, y2, y3, y4], _ =>
    have g0 : DataW.trod enc Try.prog W 0 (fun _ => true) true n 28 [v0] = some y0 := by have := hf 0 _ rfl; simpa [cellsU] using this
    have g1 : DataW.trod enc Try.prog W 0 (fun _ => true) true n 23 [v1] = some y1 := by have := hf 1 _ rfl; simpa [cellsU4] using this
    have g2 : DataW.trod enc Try.prog W 0 (fun _ => true) true n 23 [v2] = some y2 := by have := hf 2 _ rfl; simpa [cellsU4] using this
    have g3 : DataW.trod enc Try.prog W 0 (fun _ => true) true n 2 [v3] = some y3 := by have := hf 3 _ rfl; simpa [cellsI] using this
    have g4 : DataW.trod enc Try.prog W 0 (fun _ => true) true n 4 [v4] = some y4 := by have := hf 4 _ rfl; simpa [cellsO] using this
    obtain ⟨k0, q0, _, w0⟩ := DataW.trod_int Try.underlying28 g0
    obtain ⟨k1, q1, _, w1⟩ := DataW.trod_int Try.underlying23 g1
    obtain ⟨k2, q2, _, w2⟩ := DataW.trod_int Try.underlying23 g2
    obtain ⟨k3, q3, _, w3⟩ := DataW.trod_int Try.underlying2 g3
    obtain ⟨b4, q4, _⟩ := DataW.trod_bool Try.underlying4 g4
    simp only [List.cons.injEq, and_true] at q0 q1 q2 q3 q4
    subst q0 q1 q2 q3 q4
    have e0 := wf_u64 w0
    have e1 := wf_u32 w1
    have e2 := wf_u32 w2
    have e3 := wf_i64 w3
    obtain ⟨n0, rfl⟩ := Int.eq_ofNat_of_zero_le e0.1
    obtain ⟨n1, rfl⟩ := Int.eq_ofNat_of_zero_le e1.1
    obtain ⟨n2, rfl⟩ := Int.eq_ofNat_of_zero_le e2.1
    exact ⟨⟨n0, n1, n2, k3, b4⟩, rfl, e0.2, e1.2, e2.2, e3.1, e3.2⟩
def IsRels (w : World) (a : Option Addr) (len cap : Nat) : Prop :=
  len ≤ cap ∧ cap ≤ maxLen ∧ ∃ l : List Rl, l.length = len ∧ ArgR w (.slice a len cap) l
theorem list_of {P : Nat → Rl → Prop} : ∀ (n : Nat), (∀ i, i < n → ∃ s, P i s) → ∃ l : List Rl, l.length = n ∧ ∀ i (h : i < l.length), P i l[i]
  | 0, _ => ⟨[], rfl, fun i h => by simp at h⟩
  | n + 1, h => by
    obtain ⟨l, h1, h2⟩ := list_of n (fun i hi => h i (by omega))
    obtain ⟨s, hs⟩ := h n (by omega)
    refine ⟨l ++ [s], by simp [h1], fun i hi => ?_⟩
    by_cases e : i < l.length
    · rw [List.getElem_append_left e]; exact h2 i e
    · have : i = n := by simp at hi; omega
      subst this
      rw [List.getElem_append_right (by omega)]
      simpa [h1] using hs
theorem isOps_of {W : World} {s : Option Addr} {len cap : Nat} {d : DataW H} {p : List MemPlace}
    (h : DataW.Trod enc Try.prog W 0 (fun _ => true) true 41 (.slice s len cap) d p) : IsRels W s len cap := by
  obtain ⟨fuel, hf⟩ := h
  rcases Go.Deep.open_slice Try.underlying41 hf with ⟨hcs, _⟩ | ⟨a, l, c, m, n, D, Pl, hcs, _, hl, hm, hmm, _, hx⟩
  · simp [Value.cells] at hcs
    obtain ⟨rfl, rfl, rfl⟩ := hcs
    exact ⟨by omega, by simp, [], rfl, fun s hs => by simp at hs, _, _, rfl, by simp, by simp, .inl ⟨rfl, fun _ => rfl⟩⟩
  · simp [Value.cells] at hcs
    obtain ⟨rfl, rfl, rfl⟩ := hcs
    refine ⟨hl, hm, ?_⟩
    by_cases h0 : len = 0
    · subst h0
      exact ⟨[], rfl, fun s hs => by simp at hs, _, _, rfl, by simp, hm, .inl ⟨rfl, fun e => by simp at e⟩⟩
    · obtain ⟨y, o, spot⟩ := a
      have hread : ∀ i, i < len → ∃ (f : Rl) (cs' : List Value), cs' = f.cells ∧ f.ok ∧ ∀ j, j < 5 → W.cell? (((⟨y, o, spot⟩ : Addr).add (i * 5)).add j) = cs'[j]? := by
        intro i hi
        obtain ⟨cs', h1, h2⟩ := hx i (by rw [hmm]; simp; omega)
        rw [cells5] at h1
        obtain ⟨_, hlen, hcell⟩ := World.cells?_some h1
        obtain ⟨f, e, h3⟩ := rl_of h2
        exact ⟨f, cs', e, h3, fun j hj => hcell j hj⟩
      have hspot : spot = none := by
        obtain ⟨f, cs', e, _, hc⟩ := hread 0 (by omega)
        have := hc 0 (by omega)
        rw [e] at this
        simpa [Addr.add] using World.cell?_spot this
      subst hspot
      obtain ⟨L, hL, hP⟩ := list_of (P := fun i f => (∀ j, j < 5 → W.cell? ⟨y, o + i * 5 + j, none⟩ = f.cells[j]?) ∧ f.ok) len (fun i hi => by
        obtain ⟨f, cs', e, h3, hc⟩ := hread i hi
        subst e
        refine ⟨f, fun j hj => ?_, h3⟩
        have := hc j hj
        rw [Addr.add_mid, Addr.add_mid] at this
        exact this)
      have hc0 : W.cell? ⟨y, o + 0 * 5 + 0, none⟩ = some (.int .u64 (L[0]'(by omega)).pl) := (hP 0 (by omega)).1 0 (by omega)
      have hy : y < W.heap.size := World.block_lt_of_cell? _ _ hc0
      refine ⟨L, hL, fun s hs => ?_, _, _, by rw [hL], by omega, hm, .inr ⟨y, o, rfl, hy, fun j hj k hk => (hP j hj).1 k hk⟩⟩
      obtain ⟨j, hj, rfl⟩ := List.mem_iff_getElem.1 hs
      exact (hP j hj).2
end
section
open Classical
theorem take_same {l m : List Rl} {i : Nat} (h : l.take i = m.take i) (hl : i < l.length) (hm : i < m.length) (e : l[i] = m[i]) : l.take (i + 1) = m.take (i + 1) := by
  rw [List.take_succ_eq_append_getElem hl, List.take_succ_eq_append_getElem hm, h, e]
theorem Rl.parts {x y : Rl} (h : x ≠ y) : x.pl ≠ y.pl ∨ (x.pl = y.pl ∧ x.type ≠ y.type) ∨ (x.pl = y.pl ∧ x.type = y.type ∧ x.sym ≠ y.sym) ∨ (x.pl = y.pl ∧ x.type = y.type ∧ x.sym = y.sym ∧ x.add ≠ y.add) ∨ (x.pl = y.pl ∧ x.type = y.type ∧ x.sym = y.sym ∧ x.add = y.add ∧ x.has ≠ y.has) := by
  obtain ⟨a, b, c, d, e⟩ := x
  obtain ⟨a', b', c', d', e'⟩ := y
  simp only [ne_eq, Rl.mk.injEq, not_and] at h ⊢
  by_cases h1 : a = a'
  · by_cases h2 : b = b'
    · by_cases h3 : c = c'
      · by_cases h4 : d = d'
        · exact .inr (.inr (.inr (.inr ⟨h1, h2, h3, h4, h h1 h2 h3 h4⟩)))
        · exact .inr (.inr (.inr (.inl ⟨h1, h2, h3, h4⟩)))
      · exact .inr (.inr (.inl ⟨h1, h2, h3⟩))
    · exact .inr (.inl ⟨h1, h2⟩)
  · exact .inl h1
end
end Go.Proofs.Ytiicmakeoidiaaa
