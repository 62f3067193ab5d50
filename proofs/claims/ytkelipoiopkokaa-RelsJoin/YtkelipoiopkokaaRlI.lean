
/-
  Layer 12 (rels): the chapter's example, as the statements ask.
-/
import Derived.Test.YtkelipoiopkokaaRlH
set_option linter.unusedVariables false
namespace Go.Proofs.Ytkelipoiopkokaa
open Go.RowKit Go.PlainAid Go.Sort
def exR : Rl := ⟨8, 8, 0, 16, true⟩
def exB : List UInt8 := [8, 0, 0, 0, 0, 0, 0, 0, 8, 0, 0, 0, 0, 0, 0, 0, 16, 0, 0, 0, 0, 0, 0, 0]
theorem ex_enc : encR [exR] true = some exB := by kernel_rfl
theorem ex_no : relsZ (List.replicate 15 0) false = none := by kernel_rfl
theorem ex_arg (w : World) : ArgR (w.alloc (.cells exR.cells.toArray 43)) (.slice (some ⟨w.heap.size, 0, none⟩) 1 1) [exR] := by
  refine ⟨fun r hr => ?_, _, 1, rfl, by simp, by unfold maxLen; omega, .inr ⟨w.heap.size, 0, rfl, by simp, fun j hj k hk => ?_⟩⟩
  · simp only [List.mem_cons, List.not_mem_nil, or_false] at hr
    subst hr
    exact ⟨by decide, by decide, by decide, by decide, by decide⟩
  · have hj0 : j = 0 := by simpa using hj
    subst hj0
    have hlen : k < exR.cells.length := hk
    have hb := heap_alloc_new w (.cells exR.cells.toArray 43)
    rw [show 0 + 0 * 5 + k = k by omega, cells_of_block hb k (exR.cells[k]) (by simp [List.getElem?_eq_getElem hlen])]
    exact (List.getElem?_eq_getElem hlen).symm
theorem make_zeros {ops : Array Oper} {rest : List Oper} {o : Oper} {a : Act} {Q : Exit → Act → World → Prop} {w : World} (hgd : o.guard = none) (l c : Operand) (ho : o.op = Op.makeSlice 22 l c)
    (n : Nat) (hn : n ≤ 1000000) (hl : a.eval l = .int .i64 (n : Int)) (hc : a.eval c = .int .i64 (n : Int))
    (hK : ∀ w', Own w' w.heap.size (.slice (some ⟨w.heap.size, 0, none⟩) n n) (List.replicate n 0) → Below w.heap.size w w' → wpList Try.prog ops Q rest (a.put o.dst (.slice (some ⟨w.heap.size, 0, none⟩) n n)) w') : wpList Try.prog ops Q (o :: rest) a w := by
  obtain ⟨i, hi, hz0, hz1, hz2⟩ := info_parts Try.info8
  refine wpList_make_full (P := Try.prog) w hgd l c 22 ho w.heap.size 5 i (.int .u8 0) 1 Try.underlying22 hi hz0 hz1 .i64 .i64 n n n hl hc rfl rfl (by rw [hz2]; omega) (by unfold maxLen; omega) (Nat.le_refl _) ?_
  intro w' h1 h2
  refine hK w' ?_ ((Below.refl _ w).grown h2 (Nat.le_refl _) (by simp))
  have e0 : ∀ (zc : Array Value) (N : Nat), (madeCells zc N).toList = (List.range N).map (fun i => zc[i % zc.size]!) := by
    intro zc N; unfold madeCells; simp
  have : (List.range (n * 1)).map (fun i => (Value.int .u8 0).cells[i % (Value.int .u8 0).cells.size]!) = bv (List.replicate n 0) := by
    apply List.ext_getElem
    · simp [bv]
    · intro j h1 h2
      simp [Value.cells, Nat.mod_one, bv]
  rw [e0, this] at h1
  unfold Own
  rw [List.length_replicate]
  exact h1
set_option maxHeartbeats 2000000 in
set_option maxRecDepth 20000 in
theorem alive12 (w : World) : Calls Try.prog 11 #[] w fun e w' => e = .returned (.bool true) ∧ Below w.heap.size w w' := by
  have hE := rels_Encode _ _ [exR] (ex_arg w) true (by simp)
  rw [ex_enc] at hE
  have HB0 : Hid (Below w.heap.size w (w.alloc (.cells exR.cells.toArray 43))) := Below.alloc (Below.refl _ _) (Nat.le_refl _) _
  unfold exR Rl.cells at *
  go_enter Try.func11, Try.ntmps11
  go_wp2_with fail
  refine hE.mono ?_
  rintro e w1 ⟨⟨v1, rfl, h1⟩, hb1⟩
  have HB1 : Hid (Below w.heap.size w w1) := HB0.out.trans (hb1.mono HB0.out.size)
  have HA1 := hide (h1.arg (by simp [exB]))
  obtain ⟨g, o, cap, rfl, p1, p2, _⟩ := HA1.out.cells (by simp [exB])
  clear hE h1 hb1
  go_wp2_with (at_make; refine make_zeros rfl _ _ rfl 15 (by omega) rfl rfl ?_)
  intro w2 h2 hb2
  have hD := rels_Decode w2 _ (List.replicate 15 0) (h2.arg (by simp)) false (by simp)
  rw [ex_no] at hD
  have hD2 : Calls Try.prog 7 #[.slice (some ⟨w1.heap.size, 0, none⟩) 15 15, .bool false] w2 fun e w' => e = .returned (.tuple #[.slice none 0 0, .int .i64 120]) ∧ Below w2.heap.size w2 w' := hD
  have HB2 : Hid (Below w.heap.size w w2) := HB1.out.trans (hb2.mono HB1.out.size)
  have HA2 := hide (HA1.out.below' hb2)
  clear hD h2 hb2
  go_wp2_with fail
  refine hD2.mono ?_
  rintro e w3 ⟨rfl, hb3⟩
  have HB3 : Hid (Below w.heap.size w w3) := HB2.out.trans (hb3.mono HB2.out.size)
  have hA3 := HA2.out.below' hb3
  clear hD2 hb3
  obtain ⟨g', o', cap', e, p1, p2, hc⟩ := hA3.cells (by simp [exB])
  injection e with e1 e2 e3
  injection e1 with e1
  injection e1 with e1 e4
  subst e1 e3 e4
  have c0 := hc 0 (by simp [exB])
  have c8 := hc 8 (by simp [exB])
  have c16 := hc 16 (by simp [exB])
  have b0 : exB.getD 0 0 = 8 := rfl
  have b8 : exB.getD 8 0 = 8 := rfl
  have b16 : exB.getD 16 0 = 16 := rfl
  have bl : exB.length = 24 := rfl
  rw [b0] at c0
  rw [b8] at c8
  rw [b16] at c16
  rw [bl] at p1
  have k0 : ((8 : UInt8).toNat : Int) = 8 := rfl
  have k1 : ((16 : UInt8).toNat : Int) = 16 := rfl
  rw [k0] at c0 c8
  rw [k1] at c16
  clear hc hA3 b0 b8 b16
  rw [Nat.add_zero] at c0
  have hlen : (exB.length : Int) = 24 := by rw [bl]; rfl
  unfold maxLen at p2
  go_wp2
  go_ret
  exact ⟨rfl, HB3.out⟩
end Go.Proofs.Ytkelipoiopkokaa
