
/-
  Layer 12 (rels): put and Encode.
-/
import Derived.Test.YtkelipoiopkokaaRlE
set_option linter.unusedVariables false
namespace Go.Proofs.Ytkelipoiopkokaa
open Go.RowKit Go.PlainAid Go.Sort
theorem Own.lowB {w : World} {B B' : Nat} {v : Value} {l : List UInt8} (h : Own w B v l) (hB : B' ≤ B) : Own w B' v l := by
  unfold Own at h ⊢
  refine ⟨h.1, ?_⟩
  rcases h.2 with hn | ⟨g, cap, cur, e, hb, rest⟩
  · exact .inl hn
  · exact .inr ⟨g, cap, cur, e, by omega, rest⟩
/-- A buffer that grows, beside a known block. -/
def Bx (w W : World) (B R g : Nat) (o0 : Option Nat) (T : TypeId) (cs : Array Value) (l : List UInt8) : Prop :=
  ∃ o, Bf W B R o l ∧ W.heap[g]? = some (.cells cs T (0, 0)) ∧ o ≠ some g ∧ Gr w W R o0 ∧ Nx w o0 o ∧ B ≤ W.heap.size
theorem bx_Put32 (w W : World) (B R g : Nat) (o0 : Option Nat) (T : TypeId) (cs : Array Value) (l : List UInt8) (h : Bx w W B R g o0 T cs l) (hg : g ≠ R) (n : Nat) (hl : l.length ≤ 900000000) (hn : (n : Int) ≤ 4294967295) :
    Calls Try.prog 25 #[.pointer (some ⟨R, 0, none⟩), .int .u32 n] W fun e w' => e = .returned (.tuple #[]) ∧ Bx w w' B R g o0 T cs (l ++ leN 4 n) := by
  obtain ⟨o, h1, h2, h3, h4, h5, h6⟩ := h
  refine (le_Put32 W B R o l n h1 h6 hl hn).mono ?_
  rintro e w' ⟨rfl, o', k1, k2, k3⟩
  have hlt : g < W.heap.size := (Array.getElem?_eq_some_iff.1 h2).1
  refine ⟨rfl, o', k1, ?_, ?_, h4.trans h5 k2, h5.trans h4.size k3, Nat.le_trans h6 k2.size⟩
  · rw [k2.block g hlt hg (fun e => h3 e.symm)]; exact h2
  · rcases k3 with rfl | ⟨q, rfl, hq⟩
    · exact h3
    · intro e; have := Option.some.inj e; omega
theorem bx_Put64 (w W : World) (B R g : Nat) (o0 : Option Nat) (T : TypeId) (cs : Array Value) (l : List UInt8) (h : Bx w W B R g o0 T cs l) (hg : g ≠ R) (n : Nat) (hl : l.length ≤ 900000000) (hn : (n : Int) ≤ 18446744073709551615) :
    Calls Try.prog 24 #[.pointer (some ⟨R, 0, none⟩), .int .u64 n] W fun e w' => e = .returned (.tuple #[]) ∧ Bx w w' B R g o0 T cs (l ++ leN 8 n) := by
  obtain ⟨o, h1, h2, h3, h4, h5, h6⟩ := h
  refine (le_Put64 W B R o l n h1 h6 hl hn).mono ?_
  rintro e w' ⟨rfl, o', k1, k2, k3⟩
  have hlt : g < W.heap.size := (Array.getElem?_eq_some_iff.1 h2).1
  refine ⟨rfl, o', k1, ?_, ?_, h4.trans h5 k2, h5.trans h4.size k3, Nat.le_trans h6 k2.size⟩
  · rw [k2.block g hlt hg (fun e => h3 e.symm)]; exact h2
  · rcases k3 with rfl | ⟨q, rfl, hq⟩
    · exact h3
    · intro e; have := Option.some.inj e; omega
theorem rlB_short (r : Rl) : (rlB r).length ≤ 24 := by rw [rlB_len rfl]; exact (sizeR_pos _).2
set_option maxHeartbeats 2000000 in
set_option maxRecDepth 20000 in
theorem rels_put (w : World) (B R : Nat) (o : Option Nat) (l : List UInt8) (h : Bf w B R o l) (hB : B ≤ w.heap.size) (r : Rl) (hr : r.ok) (hl : l.length ≤ 800000000) :
    Calls Try.prog 18 #[.pointer (some ⟨R, 0, none⟩), .agg r.cells.toArray] w fun e w' => e = .returned (.tuple #[]) ∧ ∃ o', Bf w' B R o' (l ++ rlB r) ∧ Gr w w' R o ∧ Nx w o o' := by
  obtain ⟨n0, n1, n2, n3, b⟩ := r
  obtain ⟨r0, r1, r2, r3, r4⟩ := hr
  simp only at r0 r1 r2 r3 r4
  have hRl := h.lt
  have hgR : w.heap.size ≠ R := by omega
  have hX : Bx w (w.alloc (.cells #[.int .u64 n0, .int .u32 n1, .int .u32 n2, .int .i64 n3, .bool b] 43)) B R w.heap.size o 43 #[.int .u64 n0, .int .u32 n1, .int .u32 n2, .int .i64 n3, .bool b] l := by
    refine ⟨o, h.below (Below.alloc (Below.refl _ _) (Nat.le_refl _) _), heap_alloc_new _ _, fun e => by have := (h.own_ge _ e).2; omega, ⟨rfl, rfl, rfl, by simp, fun k hk _ _ => Below.heap_alloc _ _ _ hk⟩, Nx.refl _ _, by simp; omega⟩
  have HX := hide hX
  obtain ⟨u3, hu3⟩ : ∃ u, us n3 = u := ⟨_, rfl⟩
  have hw3 : IntKind.u64.wrap n3 = (u3 : Int) := by rw [← hu3, us_is]
  have hu3b : (u3 : Int) ≤ 18446744073709551615 := by have := us_lt n3; omega
  have HF : Hid (∀ b', b = b' → l ++ rlB ⟨n0, n1, n2, n3, b⟩ = l ++ leN 8 n0 ++ leN 4 n1 ++ leN 4 n2 ++ (if b' then leN 8 u3 else [])) := by
    intro b' e; subst e; unfold rlB; rw [hu3]; simp
  have HL : Hid (∀ k : List UInt8, k.length ≤ 100 → (l ++ k).length ≤ 900000000) := fun k hk => by rw [List.length_append]; omega
  unfold Rl.cells
  clear h hX hu3
  have ll : ∀ k n, (leN k n).length = k := leN_length
  cases b
  all_goals
    go_enter Try.func18, Try.ntmps18
    have hc0 := cells_of_block HX.out.choose_spec.2.1 0 _ rfl
    go_wp2_with fail
    refine (bx_Put64 w _ B R w.heap.size o _ _ l HX.out hgR n0 (by omega) r0).mono ?_
    rintro e w1 ⟨rfl, hx⟩
    have HX1 := hide hx
    have hc1 := cells_of_block HX1.out.choose_spec.2.1 1 _ rfl
    clear hx hc0
    go_wp2_with fail
    refine (bx_Put32 w _ B R w.heap.size o _ _ _ HX1.out hgR n1 (HL.out _ (by rw [ll]; omega)) r1).mono ?_
    rintro e w2 ⟨rfl, hx⟩
    have HX2 := hide hx
    have hc2 := cells_of_block HX2.out.choose_spec.2.1 2 _ rfl
    clear hx hc1
    go_wp2_with fail
    refine (bx_Put32 w _ B R w.heap.size o _ _ _ HX2.out hgR n2 (by rw [List.append_assoc]; exact HL.out _ (by rw [List.length_append, ll, ll]; omega)) r2).mono ?_
    rintro e w3 ⟨rfl, hx⟩
    have HX3 := hide hx
    have hc4 := cells_of_block HX3.out.choose_spec.2.1 4 _ rfl
    have hc3 := cells_of_block HX3.out.choose_spec.2.1 3 _ rfl
    clear hx hc2
  · go_wp2
    go_end0
    obtain ⟨o', k1, k2, k3, k4, k5, k6⟩ := HX3.out
    exact ⟨rfl, o', by rw [HF.out false rfl, if_neg (by simp), List.append_nil]; exact k1, k4, k5⟩
  · go_wp2_with fail
    refine (bx_Put64 w _ B R w.heap.size o _ _ _ HX3.out hgR u3 (by rw [List.append_assoc, List.append_assoc]; exact HL.out _ (by rw [List.length_append, List.length_append, ll, ll, ll]; omega)) hu3b).mono ?_
    rintro e w4 ⟨rfl, hx⟩
    have HX4 := hide hx
    clear hx
    go_wp2
    go_end0
    obtain ⟨o', k1, k2, k3, k4, k5, k6⟩ := HX4.out
    exact ⟨rfl, o', by rw [HF.out true rfl, if_pos rfl]; exact k1, k4, k5⟩
end Go.Proofs.Ytkelipoiopkokaa
