
/-
  append(s, make([]byte, k)...) onto a row of bytes that the call itself has made: k bytes 0 lie behind it; over this seat's program.
-/
import Derived.Test.YtgpjfcnlhlkblaaOwn
import Derived.Lib.AppendZerosOnto
set_option linter.unusedVariables false
namespace Go.Proofs.Ytgpjfcnlhlkblaa
open Go.RowKit Go.PlainAid
theorem zeroCells_bytes (k : Nat) : (Builtin.zeroCells (Value.cells (.int .u8 0)) k).toList = bv (List.replicate k 0) := by
  apply List.ext_getElem
  · simp [Builtin.zeroCells, bv, Value.cells]
  · intro i h1 h2
    simp [Builtin.zeroCells, bv, Value.cells, Nat.mod_one]
theorem run_zeros_room (w : World) (ty : TypeId) (g sLen sCap : Nat) (cur : Array Value) (hg : w.heap[g]? = some (.cells cur 5 (0, 0))) (k : Nat) (h0 : 0 < k) (hk : k ≤ 140737488351232) (hroom : sLen + k ≤ sCap) (hfit : sLen + k ≤ cur.size) :
    (Builtin.append_ #[22, 3] ty #[.slice (some ⟨g, 0, none⟩) sLen sCap, .int .i64 k]).run Try.prog w =
      .ok (.slice (some ⟨g, 0, none⟩) (sLen + k) sCap) (w.setRow g (cur.toList.take sLen ++ bv (List.replicate k 0) ++ cur.toList.drop (sLen + k)).toArray) := by
  obtain ⟨i, hi, hz0, hz1, hz2⟩ := info_parts Try.info8
  have hw : IntKind.i64.wrap (k : Int) = k := by rw [IntKind.wrap_i64]; omega
  have hneg : ¬ ((k : Int) < 0) := by omega
  have hkz : k ≠ 0 := by omega
  have hst := run_storeCells_at Try.prog g sLen 5 (bv (List.replicate k 0)) 0 cur w hg (by simp [bv]; omega) (by intro u hu; unfold bv at hu; obtain ⟨c, _, rfl⟩ := List.mem_map.mp hu; rfl)
  have h48 : ¬ (281474976710656 < (k : Int)) := by omega
  have hzc := zeroCells_bytes k
  have hbl : (bv (List.replicate k 0)).length = k := by simp [bv]
  simp [Builtin.append_, run_underlying Try.underlying22, run_underlying Try.underlying3, sizeOf, typeInfo, zeroValue, hi, hz0, hz1, hz2, asInt, asIntOf, hw, hneg, hkz, h48, hroom, Addr.add_lit, hzc, hst, hbl]
theorem run_zeros_none (w : World) (ty : TypeId) (base : Option Addr) (sLen sCap : Nat) (hc : sLen ≤ sCap) :
    (Builtin.append_ #[22, 3] ty #[.slice base sLen sCap, .int .i64 0]).run Try.prog w = .ok (.slice base sLen sCap) w := by
  obtain ⟨i, hi, hz0, hz1, hz2⟩ := info_parts Try.info8
  have hw : IntKind.i64.wrap 0 = 0 := by rw [IntKind.wrap_i64]; rfl
  cases base <;> simp [Builtin.append_, run_underlying Try.underlying22, run_underlying Try.underlying3, sizeOf, typeInfo, hi, hz2, asInt, asIntOf, hw, hc, storeCells]
theorem run_zeros (w : World) (ty : TypeId) (B : Nat) (v : Value) (acc : List UInt8) (hown : Own w B v acc) (k : Nat) (hk : k + acc.length ≤ 1000000000) (hB : B ≤ w.heap.size) :
    ∃ v' w', (Builtin.append_ #[22, 3] ty #[v, .int .i64 k]).run Try.prog w = .ok v' w' ∧ Own w' B v' (acc ++ List.replicate k 0) ∧ w.grownBy w' v.ownBlock ∧ (v'.ownBlock = v.ownBlock ∨ v'.ownBlock = some w.heap.size) := by
  obtain ⟨i, hi, hz0, hz1, hz2⟩ := info_parts Try.info8
  have hown0 := hown
  unfold Own at hown
  by_cases hk0 : k = 0
  · subst hk0
    rcases hown.2 with ⟨rfl, hn⟩ | ⟨g, cap, cur, rfl, hb, hg, hn, hm, hc, ht⟩
    · exact ⟨_, _, run_zeros_none w ty none 0 0 (by omega), by simpa using hown0, World.grownBy.refl _ _, .inl rfl⟩
    · exact ⟨_, _, run_zeros_none w ty _ _ _ hn, by simpa using hown0, World.grownBy.refl _ _, .inl rfl⟩
  · have grown : ∀ (base : Option Addr) (sCap : Nat) (row : Option Nat), v = .slice base acc.length sCap → sCap < acc.length + k → sCap ≤ acc.length + k →
        (Builtin.firstCells i.size acc.length (.slice base acc.length sCap)).run Try.prog w.drew = .ok (bv acc).toArray w.drew →
        ∃ v' w', (Builtin.append_ #[22, 3] ty #[.slice base acc.length sCap, .int .i64 k]).run Try.prog w = .ok v' w' ∧ Own w' B v' (acc ++ List.replicate k 0) ∧ w.grownBy w' row ∧ v'.ownBlock = some w.heap.size := by
      intro base sCap row hv hlt hle hold
      have hnext : Builtin.nextslicecap (acc.length + k) sCap ≤ 140737488351232 := by
        unfold Builtin.nextslicecap
        split
        · omega
        · split
          · omega
          · simp only [Builtin.growBy]
            repeat' split
            all_goals omega
      have hr := Lib.run_append_grow_zeros (P := Try.prog) w 22 3 ty 5 i (.int .u8 0) .i64 .i64 Try.underlying22 Try.underlying3 hi hz0 base acc.length sCap (bv acc) hold k (by omega) (by omega) hlt (by omega) (by rw [hz2]; omega) (by rw [hz2]; omega)
      refine ⟨_, _, hr, ?_, ⟨rfl, rfl, rfl, by simp, fun j hj _ => heap_alloc_old w.drew _ hj⟩, by simp [Value.ownBlock]⟩
      have hge := grownCap_ge w (acc.length + k) sCap 5
      have hcm : grownCap w (acc.length + k) sCap 5 ≤ maxLen := grownCap_le_maxLen w _ _ _ (by unfold maxLen; omega)
      unfold Own
      refine ⟨by simp [bv], .inr ⟨w.heap.size, _, _, by simp, hB, heap_alloc_new w.drew _, by simpa using hge, hcm, ?_, ?_⟩⟩
      · simp [Builtin.zeroCells, bv, Value.cells]; omega
      · rw [bv_append]
        have hz := zeroCells_bytes k
        simp only [Array.toList_append, hz, List.length_append, List.length_replicate, Nat.mul_one]
        rw [List.take_append_of_le_length (by simp [bv])]
        exact List.take_of_length_le (by simp [bv])
    rcases hown.2 with ⟨rfl, hn⟩ | ⟨g, cap, cur, rfl, hb, hg, hn, hm, hc, ht⟩
    · have hnil : acc = [] := List.length_eq_zero_iff.mp hn
      subst hnil
      obtain ⟨v', w', q1, q2, q3, q4⟩ := grown none 0 _ rfl (by simp; omega) (by simp) (by simp [Builtin.firstCells, bv])
      exact ⟨v', w', q1, q2, q3, .inr q4⟩
    · by_cases hroom : acc.length + k ≤ cap
      · refine ⟨_, _, run_zeros_room w ty g acc.length cap cur hg k (by omega) (by omega) hroom (by omega), ?_, ⟨rfl, rfl, rfl, by simp, fun j _ hj => setRow_other w g j _ (fun e => hj (by simp [Value.ownBlock, e]))⟩, .inl rfl⟩
        unfold Own
        refine ⟨by simp [bv], .inr ⟨g, cap, _, by simp, hb, setRow_heap w g cur _ _ _ hg, by simpa using hroom, hm, ?_, ?_⟩⟩
        · simp [bv]; omega
        · simp only [Nat.mul_one] at ht
          rw [ht, bv_append]
          simp only [List.length_append, List.length_replicate, Nat.mul_one]
          rw [List.take_append_of_le_length (by simp [bv])]
          exact List.take_of_length_le (by simp [bv])
      · suffices hold : (Builtin.firstCells i.size acc.length (.slice (some ⟨g, 0, none⟩) acc.length cap)).run Try.prog w.drew = .ok (bv acc).toArray w.drew by
          obtain ⟨v', w', q1, q2, q3, q4⟩ := grown _ cap _ rfl (by omega) (by omega) hold
          exact ⟨v', w', q1, q2, q3, .inr q4⟩
        have holds := World.ownsRow.cells hown (g := g) rfl
        rw [hz1]
        have := run_firstCells_some (P := Try.prog) w.drew 1 acc.length ⟨g, 0, none⟩ acc.length cap (bv acc) (by simp [bv]) (fun j u hu => by simpa using holds j u hu)
        exact this
theorem append_zeros {ops : Array Oper} {rest : List Oper} {o : Oper} {a : Act} {Q : Exit → Act → World → Prop} (hgd : o.guard = none) (s x : Operand)
    (ho : o.op = .call { callee := .builtin .append, args := #[s, x], argTypes := #[22, 3] })
    (B : Nat) (wr : World) (v : Value) (acc : List UInt8) (hown : Own wr B v acc) (k : Nat) (hk : k + acc.length ≤ 1000000000) (hB : B ≤ wr.heap.size) (hs : a.eval s = v) (hx : a.eval x = .int .i64 k)
    (h : ∀ v' w', Own w' B v' (acc ++ List.replicate k 0) → wr.grownBy w' v.ownBlock → (v'.ownBlock = v.ownBlock ∨ v'.ownBlock = some wr.heap.size) → wpList Try.prog ops Q rest (a.put o.dst v') w') :
    wpList Try.prog ops Q (o :: rest) a wr := by
  obtain ⟨v', w', hr, h2, h3, h4⟩ := run_zeros wr o.type B v acc hown k hk hB
  refine wpList_plain hgd fun K hK => ?_
  unfold Oper.wp execOp
  simp only [ho, resolve, invoke, builtin, Sem.run_bind, Sem.run_pure, Result.andThen_ok, List.map_toArray, List.map_cons, List.map_nil, hs, hx, hr]
  exact hK _ _ (h v' w' h2 h3 h4)
end Go.Proofs.Ytgpjfcnlhlkblaa
