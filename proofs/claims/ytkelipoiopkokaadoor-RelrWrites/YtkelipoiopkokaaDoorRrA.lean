
/-
  Layer 13 (relr): rows of numbers; what words have told so far (add, count); the lowest bit of a number.
-/
import Derived.Test.YtkelipoiopkokaaDoorRrM
import Derived.Test.YtkelipoiopkokaaDoorHdQ
import Derived.Test.YtkelipoiopkokaaDoorNumE
import Derived.Maps.AppendAt
set_option linter.unusedVariables false
namespace Go.Proofs.YtkelipoiopkokaaDoor
open Go.RowKit Go.PlainAid Go.Sort
def nv (l : List Nat) : List Value := l.map fun (n : Nat) => Value.int .u64 n
/-- A row of numbers of the call's own. -/
def OwnN (w : World) (B : Nat) (v : Value) (l : List Nat) : Prop := w.ownsRow B 37 1 v l.length (nv l)
theorem OwnN.nil (w : World) (B : Nat) : OwnN w B (.slice none 0 0) [] := World.ownsRow_nil _ _ _ _
theorem OwnN.base {w : World} {B : Nat} {v : Value} {l : List Nat} (h : OwnN w B v l) : ∀ k, v.ownBlock = some k → B ≤ k ∧ k < w.heap.size := World.ownsRow.lt h
theorem OwnN.isSlice {w : World} {B : Nat} {v : Value} {l : List Nat} (h : OwnN w B v l) : ∃ a cap, v = .slice a l.length cap := by
  unfold OwnN at h
  rcases h.2 with ⟨rfl, hn⟩ | ⟨g, cap, cur, rfl, _⟩
  · exact ⟨none, 0, by rw [hn]⟩
  · exact ⟨_, _, rfl⟩
theorem OwnN.move {w w' : World} {B : Nat} {v : Value} {l : List Nat} (h : OwnN w B v l) (hg : ∀ k, v.ownBlock = some k → w'.heap[k]? = w.heap[k]?) : OwnN w' B v l := by
  unfold OwnN at h ⊢
  refine ⟨h.1, ?_⟩
  rcases h.2 with hn | ⟨k, cap, cur, rfl, hB, hg', rest⟩
  · exact .inl hn
  · refine .inr ⟨k, cap, cur, rfl, hB, ?_, rest⟩
    rw [hg k rfl]; exact hg'
theorem OwnN.stay {w w' : World} {B : Nat} {v : Value} {l : List Nat} (h : OwnN w B v l) (hb : Below w.heap.size w w') : OwnN w' B v l := h.move fun k hk => hb.block k (h.base k hk).2
/-- A row of numbers that can be read. -/
def ArgN (w : World) (v : Value) (ps : List Nat) : Prop :=
  (∀ p ∈ ps, p < 18446744073709551616) ∧ ∃ a cap, v = .slice a ps.length cap ∧ ps.length ≤ cap ∧ cap ≤ maxLen ∧ ((ps = [] ∧ (a = none → cap = 0)) ∨ ∃ g o, a = some ⟨g, o, none⟩ ∧ g < w.heap.size ∧
    ∀ j (hj : j < ps.length), w.cell? ⟨g, o + j, none⟩ = some (.int .u64 (ps[j] : Nat)))
theorem OwnN.arg {w : World} {B : Nat} {v : Value} {l : List Nat} (h : OwnN w B v l) (hok : ∀ p ∈ l, p < 18446744073709551616) : ArgN w v l := by
  have hc := fun g hg => World.ownsRow.cells h (g := g) hg
  unfold OwnN at h
  refine ⟨hok, ?_⟩
  rcases h.2 with ⟨rfl, hn⟩ | ⟨g, cap, cur, rfl, hb, hg, hn, hm, _⟩
  · exact ⟨none, 0, by rw [hn], by omega, by unfold maxLen; omega, .inl ⟨List.length_eq_zero_iff.1 hn, fun _ => rfl⟩⟩
  · refine ⟨_, cap, rfl, hn, hm, .inr ⟨g, 0, rfl, (Array.getElem?_eq_some_iff.1 hg).1, fun j hj => ?_⟩⟩
    have := hc g rfl j (.int .u64 (l[j] : Nat)) (by unfold nv; rw [List.getElem?_map, List.getElem?_eq_getElem hj]; rfl)
    rw [add_at] at this
    exact this
theorem ArgN.below {w w' : World} {v : Value} {ps : List Nat} (h : ArgN w v ps) (hb : Below w.heap.size w w') : ArgN w' v ps := by
  obtain ⟨h0, a, cap, rfl, h1, h2, h3⟩ := h
  refine ⟨h0, a, cap, rfl, h1, h2, ?_⟩
  rcases h3 with hn | ⟨g, o, rfl, h3, h4⟩
  · exact .inl hn
  · exact .inr ⟨g, o, rfl, Nat.lt_of_lt_of_le h3 hb.size, fun j hj => by rw [hb.cell (p := ⟨g, o + j, none⟩) h3, h4 j hj]⟩
theorem ArgN.form {w : World} {v : Value} {ps : List Nat} (h : ArgN w v ps) : ∃ a cap, v = .slice a ps.length cap ∧ ps.length ≤ cap ∧ cap ≤ 9223372036854775807 := by
  obtain ⟨h0, a, cap, rfl, h1, h2, h3⟩ := h
  exact ⟨a, cap, rfl, h1, by unfold maxLen at h2; omega⟩
theorem ArgN.at {w : World} {a : Option Addr} {n cap : Nat} {ps : List Nat} (h : ArgN w (.slice a n cap) ps) (j : Nat) (hj : j < ps.length) :
    ∃ g o, a = some ⟨g, o, none⟩ ∧ w.cell? ⟨g, o + j, none⟩ = some (.int .u64 (ps[j] : Nat)) ∧ ps[j] < 18446744073709551616 := by
  obtain ⟨h0, a', cap', e, h1, h2, h3⟩ := h
  injection e with e1 e2 e3
  subst e1 e3
  rcases h3 with ⟨rfl, _⟩ | ⟨g, o, rfl, h3, h4⟩
  · simp at hj
  · exact ⟨g, o, rfl, h4 j hj, h0 _ (List.getElem_mem hj)⟩
theorem info_n : (Tryd.prog.info? 37).map (fun i => (i.zero, i.size, i.bytes)) = some (some (.int .u64 0), 1, 8) := by kernel_rfl
/-- One more number, which lies in a variable of its own. -/
theorem append_n {ops : Array Oper} {rest : List Oper} {o : Oper} {a : Act} {Q : Exit → Act → World → Prop} (hgd : o.guard = none) (s x : Operand)
    (ho : o.op = .call { callee := .builtin .append, args := #[s, x], argTypes := #[23, 23] })
    (B : Nat) (wr : World) (v : Value) (l : List Nat) (hown : OwnN wr B v l) (p : Nat) (hs : a.eval s = v)
    (q : Nat) (hq : q = wr.heap.size) (hx : a.eval x = .slice (some ⟨q, 0, none⟩) 1 1) (hlen : l.length ≤ 1000000) (hB : B ≤ wr.heap.size)
    (h : ∀ v' w', OwnN w' B v' (l ++ [p]) → wr.grownBy w' v.ownBlock → Nx wr v.ownBlock v'.ownBlock → wpList Tryd.prog ops Q rest (a.put o.dst v') w') :
    wpList Tryd.prog ops Q (o :: rest) a (wr.alloc (.cells #[.int .u64 (p : Nat)] 37)) := by
  subst hq
  obtain ⟨i, hi, hz0, hz1, hz2⟩ := info_parts info_n
  refine wpList_append_own_at (P := Tryd.prog) (wr.alloc (.cells #[.int .u64 (p : Nat)] 37)) hgd s x 23 ho B 37 i _ 1 8 Tryd.underlying23 hi hz0 hz1 hz2 rfl (by decide) v l.length (nv l) hs (World.ownsRow.alloc hown _)
    ⟨wr.heap.size, 0, none⟩ 1 1 [.int .u64 (p : Nat)] hx rfl ?_ (fun u hu => by simp at hu; subst hu; rfl) ?_ ?_ ?_ ?_
  · intro j u hj
    have hj5 : j < 1 := (List.getElem?_eq_some_iff.1 hj).1
    rw [add_at, Nat.zero_add, World.cell?_alloc_at _ _ _ _ (by simp)]
    simpa using hj
  · unfold maxLen; omega
  · omega
  · simp; omega
  · intro v' w' h1 h2 _ h3
    refine h v' w' ?_ ⟨h2.os, h2.tape, h2.output, Nat.le_trans (by simp) h2.size, fun k hk hne => ?_⟩ ?_
    · unfold OwnN
      rw [List.length_append]
      simpa [nv] using h1
    · rw [h2.block k (by simp; omega) hne]; exact heap_alloc_old wr _ hk
    · rcases h3 with e | e
      · exact .inl e
      · exact .inr ⟨_, e, by simp⟩
/-- What words have told so far: block T. -/
structure Tl (w : World) (B T : Nat) (o : Option Nat) (l : List Nat) (f : Nat) : Prop where
  block : ∃ v, w.heap[T]? = some (.cells #[v, .int .u64 (f : Nat)] 39 (0, 0)) ∧ OwnN w B v l ∧ v.ownBlock = o
  base : B ≤ T
  far : o ≠ some T
theorem Tl.lt {w : World} {B T : Nat} {o : Option Nat} {l : List Nat} {f : Nat} (h : Tl w B T o l f) : T < w.heap.size := by
  obtain ⟨v, h1, _⟩ := h.block; exact (Array.getElem?_eq_some_iff.1 h1).1
theorem Tl.own_ge {w : World} {B T : Nat} {o : Option Nat} {l : List Nat} {f : Nat} (h : Tl w B T o l f) : ∀ k, o = some k → B ≤ k ∧ k < w.heap.size := by
  obtain ⟨v, _, h2, rfl⟩ := h.block; exact h2.base
theorem Tl.move {w w' : World} {B T : Nat} {o : Option Nat} {l : List Nat} {f : Nat} (h : Tl w B T o l f) (hT : w'.heap[T]? = w.heap[T]?) (ho : ∀ k, o = some k → w'.heap[k]? = w.heap[k]?) : Tl w' B T o l f := by
  obtain ⟨v, h1, h2, rfl⟩ := h.block
  exact ⟨⟨v, by rw [hT]; exact h1, h2.move ho, rfl⟩, h.base, h.far⟩
theorem Tl.below {w w' : World} {B T : Nat} {o : Option Nat} {l : List Nat} {f : Nat} (h : Tl w B T o l f) (hb : Below w.heap.size w w') : Tl w' B T o l f :=
  h.move (hb.block _ h.lt) fun k hk => hb.block k (h.own_ge k hk).2
theorem frozen_bk {w : World} {g : Nat} {cs : Array Value} {T : TypeId} (h : w.heap[g]? = some (.cells cs T (0, 0))) (k : Nat) : w.frozen? ⟨g, k, none⟩ = false := by
  unfold World.frozen?
  rw [h]
  simp
theorem set_bk (w : World) (g j : Nat) (v : Value) (cur : Array Value) (t : TypeId) (r : Nat × Nat) (hg : w.heap[g]? = some (.cells cur t r)) : (w.setCell ⟨g, j, none⟩ v).heap[g]? = some (.cells (cur.setIfInBounds j v) t r) := by
  obtain ⟨hl, hg2⟩ := Array.getElem?_eq_some_iff.1 hg
  simp [World.setCell, hl, Array.getElem_modify, hg2]
theorem set_two0 {w : World} {g : Nat} {x0 x1 : Value} {T : TypeId} (h : w.heap[g]? = some (.cells #[x0, x1] T (0, 0))) (v : Value) : (w.setCell ⟨g, 0, none⟩ v).heap[g]? = some (.cells #[v, x1] T (0, 0)) := set_bk w g 0 v _ T _ h
theorem set_two1 {w : World} {g : Nat} {x0 x1 : Value} {T : TypeId} (h : w.heap[g]? = some (.cells #[x0, x1] T (0, 0))) (v : Value) : (w.setCell ⟨g, 1, none⟩ v).heap[g]? = some (.cells #[x0, v] T (0, 0)) := set_bk w g 1 v _ T _ h
theorem set_bother (w : World) (g j k : Nat) (v : Value) (hk : k ≠ g) : (w.setCell ⟨g, j, none⟩ v).heap[k]? = w.heap[k]? := Below.heap_setCell _ _ _ _ hk
set_option maxHeartbeats 1000000 in
theorem rel_add_no (w : World) (B T : Nat) (o : Option Nat) (l : List Nat) (f : Nat) (h : Tl w B T o l f) (p : Nat) (hl : l.length = 512) :
    Calls Tryd.prog 22 #[.pointer (some ⟨T, 0, none⟩), .int .u64 (p : Nat)] w fun e w' => e = .returned (.bool false) ∧ w = w' := by
  obtain ⟨v, h1, h2, _⟩ := h.block
  obtain ⟨a, cap, rfl⟩ := h2.isSlice
  have c0 := cells_of_block h1 0 _ rfl
  rw [hl] at c0
  clear h1 h2 h
  go_enter Tryd.func22, Tryd.ntmps22
  go_wp2
  go_ret
  exact ⟨rfl, rfl⟩
set_option maxHeartbeats 1000000 in
theorem rel_add (w : World) (B T : Nat) (o : Option Nat) (l : List Nat) (f : Nat) (h : Tl w B T o l f) (hB : B ≤ w.heap.size) (p : Nat) (hl : l.length < 512) :
    Calls Tryd.prog 22 #[.pointer (some ⟨T, 0, none⟩), .int .u64 (p : Nat)] w fun e w' => e = .returned (.bool true) ∧ ∃ o', Tl w' B T o' (l ++ [p]) f ∧ Gr w w' T o ∧ Nx w o o' := by
  have HT := hide h
  obtain ⟨v, h1, h2, rfl⟩ := h.block
  have hTl := h.lt
  have hfar := h.far
  have hbase := h.base
  have HO := hide h2
  have HG := hide h1
  obtain ⟨a, cap, rfl⟩ := h2.isSlice
  have c0 := cells_of_block h1 0 _ rfl
  have hne : ((l.length : Int) == 512) = false := by simp; omega
  clear h1 h2 h
  go_enter Tryd.func22, Tryd.ntmps22
  go_wp2_with (at_builtin; refine append_n rfl _ _ rfl B w _ l HO.out p rfl _ (by simp) rfl (by omega) hB ?_)
  intro v' w1 k1 k2 k3
  have hG1 : w1.heap[T]? = some (.cells #[.slice a l.length cap, .int .u64 (f : Nat)] 39 (0, 0)) := by
    rw [k2.block T hTl (fun e => hfar e.symm)]; exact HG.out
  have HG1 := hide hG1
  have f0 := frozen_bk hG1 0
  have d0 := cells_of_block hG1 0 _ rfl
  have HK1 := hide k1
  have HK2 := hide k2
  have HK3 := hide k3
  obtain ⟨a', cap', hv'⟩ := k1.isSlice
  obtain ⟨nl, hnl⟩ : ∃ nl, (l ++ [p]).length = nl := ⟨_, rfl⟩
  rw [hnl] at hv'
  subst hv'
  clear hG1 k1 k2 k3 hnl
  go_wp2
  go_ret
  have hne2 : ∀ k, (Value.slice a' nl cap').ownBlock = some k → k ≠ T := by
    intro k hk e
    subst e
    rcases HK3.out with e | ⟨q, e, hq⟩
    · exact hfar (e.symm.trans hk)
    · rw [hk] at e; have := Option.some.inj e; omega
  refine ⟨rfl, _, ⟨⟨_, set_two0 HG1.out _, HK1.out.move (fun k hk => set_bother _ _ _ _ _ (hne2 k hk)), rfl⟩, hbase, fun e => hne2 T e rfl⟩, ⟨HK2.out.os, HK2.out.tape, HK2.out.output, by simpa using HK2.out.size, fun k hk h3 h4 => ?_⟩, HK3.out⟩
  rw [set_bother _ _ _ _ _ h3]
  exact HK2.out.block k hk h4
set_option maxHeartbeats 1000000 in
theorem rel_count_yes (w : World) (B T : Nat) (o : Option Nat) (l : List Nat) (f : Nat) (h : Tl w B T o l f) (p s g : Nat) (hp : p < 18446744073709551616) (hs : s < 18446744073709551616) (hg : (p + s < 18446744073709551616 ∧ g = p + s ∧ true = true) ∨ (18446744073709551616 ≤ p + s ∧ g = 0 ∧ true = false)) :
    Calls Tryd.prog 23 #[.pointer (some ⟨T, 0, none⟩), .int .u64 (p : Nat), .int .u64 (s : Nat)] w fun e w' => e = .returned (.bool true) ∧ Tl w' B T o l g ∧ Gr w w' T o := by
  have HT := hide h
  obtain ⟨v, h1, h2, rfl⟩ := h.block
  have hTl := h.lt
  have hfar := h.far
  have hbase := h.base
  have HO := hide h2
  have HG := hide h1
  have f1 := frozen_bk h1 1
  have d1 := cells_of_block h1 1 _ rfl
  have hA : Calls Tryd.prog 31 #[.int .u64 (p : Nat), .int .u64 (s : Nat)] w fun e w' => e = .returned (.tuple #[.int .u64 (g : Nat), .bool true]) ∧ w = w' := by
    rcases hg with ⟨k, rfl, k3⟩ | ⟨k, rfl, k3⟩
    · exact num_Add_yes (p : Int) (s : Int) w (by omega) (by omega) (by omega)
    · cases k3
  clear h1 h2 h hg
  go_enter Tryd.func23, Tryd.ntmps23
  go_wp2_with fail
  refine hA.mono ?_
  rintro e w1 ⟨rfl, rfl⟩
  go_wp2
  go_ret
  refine ⟨rfl, ⟨⟨_, set_two1 HG.out _, HO.out.move (fun k hk => set_bother _ _ _ _ _ (fun e => hfar (by rw [← e]; exact hk))), rfl⟩, hbase, hfar⟩, ⟨rfl, rfl, rfl, by simp, fun k hk h3 h4 => set_bother _ _ _ _ _ h3⟩⟩
set_option maxHeartbeats 1000000 in
theorem rel_count_no (w : World) (B T : Nat) (o : Option Nat) (l : List Nat) (f : Nat) (h : Tl w B T o l f) (p s g : Nat) (hp : p < 18446744073709551616) (hs : s < 18446744073709551616) (hg : (p + s < 18446744073709551616 ∧ g = p + s ∧ false = true) ∨ (18446744073709551616 ≤ p + s ∧ g = 0 ∧ false = false)) :
    Calls Tryd.prog 23 #[.pointer (some ⟨T, 0, none⟩), .int .u64 (p : Nat), .int .u64 (s : Nat)] w fun e w' => e = .returned (.bool false) ∧ Tl w' B T o l g ∧ Gr w w' T o := by
  have HT := hide h
  obtain ⟨v, h1, h2, rfl⟩ := h.block
  have hTl := h.lt
  have hfar := h.far
  have hbase := h.base
  have HO := hide h2
  have HG := hide h1
  have f1 := frozen_bk h1 1
  have d1 := cells_of_block h1 1 _ rfl
  have hA : Calls Tryd.prog 31 #[.int .u64 (p : Nat), .int .u64 (s : Nat)] w fun e w' => e = .returned (.tuple #[.int .u64 (g : Nat), .bool false]) ∧ w = w' := by
    rcases hg with ⟨k, rfl, k3⟩ | ⟨k, rfl, k3⟩
    · cases k3
    · exact num_Add_no (p : Int) (s : Int) w (by omega) (by omega) (by omega) (by omega)
  clear h1 h2 h hg
  go_enter Tryd.func23, Tryd.ntmps23
  go_wp2_with fail
  refine hA.mono ?_
  rintro e w1 ⟨rfl, rfl⟩
  go_wp2
  go_ret
  refine ⟨rfl, ⟨⟨_, set_two1 HG.out _, HO.out.move (fun k hk => set_bother _ _ _ _ _ (fun e => hfar (by rw [← e]; exact hk))), rfl⟩, hbase, hfar⟩, ⟨rfl, rfl, rfl, by simp, fun k hk h3 h4 => set_bother _ _ _ _ _ h3⟩⟩
/-- The table of the lowest bits. -/
def TabZ (w : World) : Prop := ∀ j, j < 64 → w.cell? ⟨0, j, none⟩ = some (.int .u8 (Lib.deBruijn64tab.getD j 0 : Nat))
theorem TabZ.lt {w : World} (h : TabZ w) : 0 < w.heap.size := World.block_lt_of_cell? _ _ (h 0 (by omega))
theorem TabZ.move {w w' : World} (h : TabZ w) (e : w'.heap[0]? = w.heap[0]?) : TabZ w' := fun j hj => by
  rw [World.cell?_of_block (a := ⟨0, j, none⟩) e]; exact h j hj
theorem TabZ.below {w w' : World} (h : TabZ w) (hb : Below w.heap.size w w') : TabZ w' := h.move (hb.block _ h.lt)
theorem tz_key (x a : Nat) (hx : x < 18446744073709551616) (hx0 : x ≠ 0) (hlow : x &&& (18446744073709551616 - x) = a) :
    IntKind.u64.wrap (bits BinOp.and IntKind.u64 (x : Int) (IntKind.u64.wrap (-(x : Int))) * 285870213051353865) / 288230376151711744 = ((a * 285870213051353865 % 18446744073709551616 / 288230376151711744 : Nat) : Int) := by
  have e1 : IntKind.u64.wrap (-(x : Int)) = ((18446744073709551616 - x : Nat) : Int) := by rw [IntKind.wrap_u64]; omega
  rw [e1, bits_and_u64_nat x _ hx (by omega), hlow, IntKind.wrap_u64]
  omega
set_option maxHeartbeats 1000000 in
theorem tz_core (x k idx : Nat) (w : World) (hx0 : ((x : Int) == 0) = false)
    (key : IntKind.u64.wrap (bits BinOp.and IntKind.u64 (x : Int) (IntKind.u64.wrap (-(x : Int))) * 285870213051353865) / 288230376151711744 = (idx : Int))
    (hi : idx < 64) (hk : k < 64) (hcell : w.cell? ⟨0, idx, none⟩ = some (.int .u8 k)) :
    Calls Tryd.prog 33 #[.int .u64 x] w fun e w' => e = .returned (.int .i64 k) ∧ w' = w := by
  go_enter Tryd.func33, Tryd.ntmps33
  go_wp2_with (simp only [key])
  go_ret
  exact ⟨rfl, rfl⟩
theorem rel_tz (w : World) (h : TabZ w) (x t : Nat) (hx : x < 18446744073709551616) (hx0 : x ≠ 0) (ht : Lib.ctz 64 x = t) :
    Calls Tryd.prog 33 #[.int .u64 (x : Nat)] w fun e w' => e = .returned (.int .i64 (t : Nat)) ∧ w' = w := by
  obtain ⟨hlow, hk⟩ := Lib.lowest_bit 64 x hx0 hx
  obtain ⟨hi, htab⟩ := Lib.deBruijn64_at _ hk
  have hcell := h _ hi
  rw [htab] at hcell
  rw [ht] at hk hcell hlow
  rw [ht] at hi
  exact tz_core x t _ w (by simp; omega) (tz_key x _ hx hx0 hlow) hi hk hcell
end Go.Proofs.YtkelipoiopkokaaDoor
