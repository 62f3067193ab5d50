
/-
  Layer 12 (rels): what the statements' own walks need: rows behind one another, operations behind a guard.
-/
import Derived.Test.YtkelipoiopkokaaRlI
set_option linter.unusedVariables false
namespace Go.Proofs.Ytkelipoiopkokaa
open Go.RowKit Go.PlainAid Go.Sort
theorem nilA (w : World) : Arg w (.slice none 0 0) [] := ⟨none, 0, rfl, by simp, by simp, by simp, .inl ⟨rfl, rfl, rfl⟩⟩
theorem nilR (w : World) : ArgR w (.slice none 0 0) [] := ⟨fun r hr => by simp at hr, none, 0, rfl, by simp, by simp, .inl ⟨rfl, fun _ => rfl⟩⟩
theorem oper_wp_guard (P : Program) (o : Oper) (a : Act) (w : World) (K : Act → World → Prop) (Q : Exit → Act → World → Prop) : Oper.wp P { o with guard := none } a w K Q → Oper.wp P o a w K Q := by
  cases o; exact fun h => h
/-- An operation whose guard says yes is one without a guard. -/
theorem unguard {ops : Array Oper} {rest : List Oper} {o : Oper} {a : Act} {Q : Exit → Act → World → Prop} {w : World} (hw : Region.wanted o (yielded ops a.tmps) = true)
    (h : wpList Try.prog ops Q ({ o with guard := none } :: rest) a w) : wpList Try.prog ops Q (o :: rest) a w := by
  unfold wpList at h ⊢
  rw [if_pos (by simp [Region.wanted])] at h
  rw [if_pos hw]
  rcases h with h | ⟨h1, h2⟩
  · exact .inl (oper_wp_guard _ _ _ _ _ _ h)
  · exact .inr ⟨by cases o; exact h1, h2⟩
theorem own_emptyR (w : World) : OwnR (w.alloc (.cells #[] 43)) w.heap.size (.slice (some ⟨w.heap.size, 0, none⟩) 0 0) [] :=
  World.ownsRow_made w #[] 0 (Nat.le_refl _) (by simp) (by simp)
theorem ArgR.flat {w : World} {g o : Nat} {l : List Rl} (h : ∀ j (hj : j < l.length) k, k < 5 → w.cell? ⟨g, o + j * 5 + k, none⟩ = l[j].cells[k]?) : ∀ j u, (flatR l)[j]? = some u → w.cell? ⟨g, o + j, none⟩ = some u := by
  intro j u hj
  have hlt : j < l.length * 5 := by rw [← flatR_len]; exact (List.getElem?_eq_some_iff.1 hj).1
  have e : j = j / 5 * 5 + j % 5 := by omega
  have h5 : j / 5 < l.length := by omega
  have k := h (j / 5) h5 (j % 5) (by omega)
  have k2 := flatR_get l (j / 5) h5 (j % 5) (by omega)
  rw [← e, hj] at k2
  rw [show o + j / 5 * 5 + j % 5 = o + j by omega, ← k2] at k
  exact k
/-- A row of relocations behind an owned one. -/
theorem append_rls {ops : Array Oper} {rest : List Oper} {o : Oper} {a : Act} {Q : Exit → Act → World → Prop} (hgd : o.guard = none) (s x : Operand)
    (ho : o.op = .call { callee := .builtin .append, args := #[s, x], argTypes := #[23, 23] })
    (B : Nat) (wr : World) (v : Value) (l : List Rl) (hown : OwnR wr B v l) (v2 : Value) (m : List Rl) (hm : ArgR wr v2 m) (hs : a.eval s = v) (hx : a.eval x = v2) (hlen : l.length + m.length ≤ 1000000) (hB : B ≤ wr.heap.size)
    (h : ∀ v' w', OwnR w' B v' (l ++ m) → wr.grownBy w' v.ownBlock → wpList Try.prog ops Q rest (a.put o.dst v') w') :
    wpList Try.prog ops Q (o :: rest) a wr := by
  obtain ⟨i, hi, hz0, hz1, hz2⟩ := info_parts info_rl
  obtain ⟨hok, y, cap, rfl, h1, h2, h3⟩ := hm
  have go : ∀ (ad : Addr), y = some ad → (∀ j u, (flatR m)[j]? = some u → wr.cell? (ad.add j) = some u) → wpList Try.prog ops Q (o :: rest) a wr := by
    intro ad e hc
    subst e
    refine wpList_append_own (P := Try.prog) wr hgd s x 23 ho B 43 i _ 5 32 Try.underlying23 hi hz0 hz1 hz2 rfl (by decide) v l.length (flatR l) hs hown
      ad m.length cap (flatR m) hx (flatR_len m) hc (flatR_one m) (by unfold maxLen; omega) (by omega) hB ?_
    intro v' w' h1 h2 _
    refine h v' w' ?_ h2
    unfold OwnR
    rw [List.length_append, flatR_app]
    exact h1
  rcases h3 with ⟨rfl, h3⟩ | ⟨g, q, rfl, h3, h4⟩
  · cases y with
    | none =>
      have hc := h3 rfl
      subst hc
      refine wpList_append_own_none (P := Try.prog) hgd s x 23 ho B 43 i 5 Try.underlying23 hi v l.length (flatR l) hs hown hx ?_
      exact h v wr (by simpa using hown) (World.grownBy.refl _ _)
    | some ad => exact go ad rfl (fun j u hj => by simp [flatR] at hj)
  · exact go _ rfl (fun j u hj => by rw [add_at]; exact ArgR.flat h4 j u hj)
end Go.Proofs.Ytkelipoiopkokaa
