
/-
  Rows of bytes that were handed in (Arg); slices.Clone of them; how they are laid behind a row that is owned; over this seat's program.
-/
import Derived.Test.YtgpjfcnlhlkblaaOwnZ
import Derived.Maps.AppendAt
import Derived.Laws.AppendOwnNone
import Derived.Deep.AppendLies
import Derived.BigQuiet
set_option linter.unusedVariables false
namespace Go.Proofs.Ytgpjfcnlhlkblaa
open Go.RowKit Go.PlainAid
/-- v is a slice of bytes, wherever it lies, and reads as l. -/
def Arg (w : World) (v : Value) (l : List UInt8) : Prop :=
  ∃ a cap, v = .slice a l.length cap ∧ l.length ≤ cap ∧ cap ≤ maxLen ∧ l.length ≤ 140737488351232 ∧
    ((a = none ∧ l = [] ∧ cap = 0) ∨ ∃ x : Addr, a = some x ∧ ∀ j (hj : j < l.length), w.cell? (x.add j) = some (.int .u8 (l[j].toNat : Int)))
theorem add_at (g o j : Nat) : (⟨g, o, none⟩ : Addr).add j = ⟨g, o + j, none⟩ := by
  unfold Addr.add; split
  · rename_i h; simp_all
  · rfl
theorem Own.arg {w : World} {B : Nat} {v : Value} {l : List UInt8} (h : Own w B v l) (hl : l.length ≤ 140737488351232) : Arg w v l := by
  by_cases hne : l = []
  · subst hne
    unfold Own at h
    rcases h.2 with ⟨rfl, hn⟩ | ⟨g, cap, cur, rfl, hb, hg, hn, hm, hc, ht⟩
    · exact ⟨none, 0, rfl, by simp, by simp, by simp, .inl ⟨rfl, rfl, rfl⟩⟩
    · exact ⟨_, cap, rfl, by simp, hm, by simp, .inr ⟨_, rfl, fun j hj => absurd hj (by simp)⟩⟩
  · obtain ⟨g, cap, rfl, _, _, h1, h2, hc, _⟩ := h.form hne
    exact ⟨_, cap, rfl, h1, h2, hl, .inr ⟨_, rfl, fun j hj => by rw [add_at]; simpa using hc j hj⟩⟩
theorem Own.slice {w : World} {B : Nat} {v : Value} {l : List UInt8} (h : Own w B v l) : ∃ a cap, v = .slice a l.length cap ∧ (∀ g, v.ownBlock = some g → B ≤ g ∧ g < w.heap.size) := by
  have hb := h.base
  unfold Own at h
  rcases h.2 with ⟨rfl, hn⟩ | ⟨g, cap, cur, rfl, _⟩
  · exact ⟨none, 0, by rw [hn], hb⟩
  · exact ⟨_, cap, rfl, hb⟩
/-- A row that was handed in stays where what lay below has not turned. -/
theorem Arg.below {w w' : World} {B : Nat} {v : Value} {l : List UInt8} (h : Arg w v l) (hb : Below B w w') (hB : B = w.heap.size) : Arg w' v l := by
  subst hB
  obtain ⟨a, cap, rfl, h1, h2, h3, h4⟩ := h
  refine ⟨a, cap, rfl, h1, h2, h3, ?_⟩
  rcases h4 with h4 | ⟨x, rfl, hc⟩
  · exact .inl h4
  · refine .inr ⟨x, rfl, fun j hj => ?_⟩
    have := hc j hj
    rw [hb.cell (p := x.add j) (World.block_lt_of_cell? _ _ this)]; exact this
set_option maxHeartbeats 400000 in
theorem lib_Clone (l : List UInt8) (v : Value) (w : World) (h : Arg w v l) :
    Calls Try.prog 58 #[v] w fun x w' => ∃ v', x = .returned v' ∧ Own w' w.heap.size v' l ∧ Below w.heap.size w w' := by
  obtain ⟨a, cap, rfl, h1, h2, h3, h4⟩ := h
  have qn : ∀ (w : World) (a : Option Addr) (n c n' c' : Nat), (binOp .eql 22 (.slice a n c) (.slice none n' c')).run Try.prog w = .ok (.bool a.isNone) w := fun w a n c n' c' => Lib.run_eql_slice_nil w _ _ a n c n' c' Try.underlying22
  rcases h4 with ⟨rfl, rfl, rfl⟩ | ⟨x, rfl, hc⟩
  · go_enter Try.func58, Try.ntmps58
    go_wp2
    go_ret
    exact ⟨_, rfl, Own.nil _ _, Below.refl _ _⟩
  · obtain ⟨i, hi, hz0, hz1, hz2⟩ := info_parts Try.info8
    have hown : Own (w.alloc (.cells #[] 5)) w.heap.size (.slice (some ⟨w.heap.size, 0, none⟩) 0 0) [] :=
      World.ownsRow_made w #[] 0 (Nat.le_refl _) (by simp) (by simp)
    go_enter Try.func58, Try.ntmps58
    go_wp2_with (at_builtin; refine wpList_append_own (P := Try.prog) _ rfl _ _ 22 rfl w.heap.size 5 i (.int .u8 0) 1 1 Try.underlying22 hi hz0 hz1 hz2 rfl (by decide) _ 0 [] rfl hown x l.length cap (bv l) rfl (by simp [bv]) ?c1 ?c2 ?c3 ?c4 ?c5 ?_)
    case c1 =>
      intro j u hj
      obtain ⟨c, hc1, rfl⟩ := bv_get l j u hj
      have hlt := (List.getElem?_eq_some_iff.1 hc1).1
      have hg := hc j hlt
      rw [World.cell?_alloc_lt _ _ _ (World.block_lt_of_cell? _ _ hg), hg]
      rw [(List.getElem?_eq_some_iff.1 hc1).2]
    case c2 => intro u hu; unfold bv at hu; obtain ⟨c, _, rfl⟩ := List.mem_map.mp hu; rfl
    case c3 => unfold maxLen; omega
    case c4 => omega
    case c5 => simp
    · intro v' w1 q1 q2 _
      go_wp2
      go_ret
      refine ⟨_, rfl, ?_, ?_⟩
      · unfold Own; simpa using q1
      · exact ((Below.refl w.heap.size w).alloc (Nat.le_refl _) _).grown q2 (by simp) (fun k hk => by simp [Value.ownBlock] at hk; omega)
/-- append(s, x...) of bytes onto a row that is owned. -/
theorem append_arg {ops : Array Oper} {rest : List Oper} {o : Oper} {a : Act} {Q : Exit → Act → World → Prop} (hgd : o.guard = none) (s x : Operand)
    (ho : o.op = .call { callee := .builtin .append, args := #[s, x], argTypes := #[22, 22] })
    (B : Nat) (wr : World) (v : Value) (acc : List UInt8) (hown : Own wr B v acc) (v2 : Value) (l : List UInt8) (hl : Arg wr v2 l) (hs : a.eval s = v) (hx : a.eval x = v2)
    (hlen : acc.length + l.length ≤ 140737488351232) (hB : B ≤ wr.heap.size)
    (h : ∀ v' w', Own w' B v' (acc ++ l) → wr.grownBy w' v.ownBlock → (v'.ownBlock = v.ownBlock ∨ v'.ownBlock = some wr.heap.size) → wpList Try.prog ops Q rest (a.put o.dst v') w') :
    wpList Try.prog ops Q (o :: rest) a wr := by
  obtain ⟨i, hi, hz0, hz1, hz2⟩ := info_parts Try.info8
  obtain ⟨b, cap, rfl, h1, h2, h3, h4⟩ := hl
  rcases h4 with ⟨rfl, rfl, rfl⟩ | ⟨y, rfl, hc⟩
  · refine wpList_append_own_none (P := Try.prog) hgd s x 22 ho B 5 i 1 Try.underlying22 hi v acc.length (bv acc) hs hown hx ?_
    exact h v wr (by simpa using hown) (World.grownBy.refl _ _) (.inl rfl)
  · refine wpList_append_own_at (P := Try.prog) wr hgd s x 22 ho B 5 i (.int .u8 0) 1 1 Try.underlying22 hi hz0 hz1 hz2 rfl (by decide) v acc.length (bv acc) hs hown y l.length cap (bv l) hx (by simp [bv]) ?_ ?_ ?_ ?_ hB ?_
    · intro j u hj
      obtain ⟨c, hc1, rfl⟩ := bv_get l j u hj
      have hlt := (List.getElem?_eq_some_iff.1 hc1).1
      have hg := hc j hlt
      rw [hg]
      rw [(List.getElem?_eq_some_iff.1 hc1).2]
    · intro u hu; unfold bv at hu; obtain ⟨c, _, rfl⟩ := List.mem_map.mp hu; rfl
    · unfold maxLen; omega
    · omega
    · intro v' w' k1 k2 _ k3
      refine h v' w' ?_ k2 k3
      unfold Own
      rw [bv_append]
      simpa using k1
/-- append(s, x) of one byte onto a row that is owned, with where it lies behind it. -/
theorem append_byte_at {ops : Array Oper} {rest : List Oper} {o : Oper} {a : Act} {Q : Exit → Act → World → Prop} (hgd : o.guard = none) (s x : Operand)
    (ho : o.op = .call { callee := .builtin .append, args := #[s, x], argTypes := #[22, 22] })
    (B : Nat) (wr : World) (v : Value) (acc : List UInt8) (n : Int) (hown : Own wr B v acc) (c : UInt8) (hn : n = (c.toNat : Int)) (hs : a.eval s = v)
    (hx : a.eval x = .slice (some ⟨wr.heap.size, 0, none⟩) 1 1) (hlen : acc.length < 140737488351232) (hB : B ≤ wr.heap.size)
    (h : ∀ v' w', Own w' B v' (acc ++ [c]) → wr.grownBy w' v.ownBlock → (v'.ownBlock = v.ownBlock ∨ ∃ k, v'.ownBlock = some k ∧ wr.heap.size ≤ k) → wpList Try.prog ops Q rest (a.put o.dst v') w') :
    wpList Try.prog ops Q (o :: rest) a (wr.alloc (.cells #[.int .u8 n] 5)) := by
  subst hn
  refine append_arg hgd s x ho B _ v acc (World.ownsRow.alloc hown _) (.slice (some ⟨wr.heap.size, 0, none⟩) 1 1) [c] ⟨some ⟨wr.heap.size, 0, none⟩, 1, rfl, by simp, by simp [maxLen], by simp, .inr ⟨_, rfl, ?_⟩⟩ hs hx (by simp; omega) (by simp; omega) ?_
  · intro j hj
    rw [add_at]
    match j, hj with
    | 0, _ => simp
  · intro v' w' h1 h2 h3
    refine h v' w' h1 ⟨h2.os, h2.tape, h2.output, Nat.le_trans (by simp) h2.size, fun k hk hne => ?_⟩ ?_
    · rw [h2.block k (by simp; omega) hne]; exact heap_alloc_old wr _ hk
    · rcases h3 with e | e
      · exact .inl e
      · exact .inr ⟨_, e, by simp⟩
end Go.Proofs.Ytgpjfcnlhlkblaa
