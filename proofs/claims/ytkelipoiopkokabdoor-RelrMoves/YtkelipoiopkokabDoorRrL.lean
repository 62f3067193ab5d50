
/-
  Layer 13 (relr): rows of numbers behind one another; operations behind a guard.
-/
import Derived.Test.YtkelipoiopkokabDoorRrK
import Derived.Test.YtkelipoiopkokabDoorRrP
set_option linter.unusedVariables false
namespace Go.Proofs.YtkelipoiopkokabDoor
open Go.RowKit Go.PlainAid Go.Sort
theorem oper_wp_guardN (P : Program) (o : Oper) (a : Act) (w : World) (K : Act → World → Prop) (Q : Exit → Act → World → Prop) : Oper.wp P { o with guard := none } a w K Q → Oper.wp P o a w K Q := by
  cases o; exact fun h => h
/-- An operation whose guard says yes is one without a guard. -/
theorem unguardN {ops : Array Oper} {rest : List Oper} {o : Oper} {a : Act} {Q : Exit → Act → World → Prop} {w : World} (hw : Region.wanted o (yielded ops a.tmps) = true)
    (h : wpList Tryd.prog ops Q ({ o with guard := none } :: rest) a w) : wpList Tryd.prog ops Q (o :: rest) a w := by
  unfold wpList at h ⊢
  rw [if_pos (by simp [Region.wanted])] at h
  rw [if_pos hw]
  rcases h with h | ⟨h1, h2⟩
  · exact .inl (oper_wp_guardN _ _ _ _ _ _ h)
  · exact .inr ⟨by cases o; exact h1, h2⟩
theorem own_emptyN (w : World) : OwnN (w.alloc (.cells #[] 32)) w.heap.size (.slice (some ⟨w.heap.size, 0, none⟩) 0 0) [] :=
  World.ownsRow_made w #[] 0 (Nat.le_refl _) (by simp) (by simp)
theorem nv_one (l : List Nat) : ∀ u ∈ nv l, u.oneCell' = true := fun u hu => by
  obtain ⟨n, _, rfl⟩ := List.mem_map.1 hu; rfl
/-- A row of numbers behind an owned one. -/
theorem append_ns {ops : Array Oper} {rest : List Oper} {o : Oper} {a : Act} {Q : Exit → Act → World → Prop} (hgd : o.guard = none) (s x : Operand)
    (ho : o.op = .call { callee := .builtin .append, args := #[s, x], argTypes := #[22, 22] })
    (B : Nat) (wr : World) (v : Value) (l : List Nat) (hown : OwnN wr B v l) (v2 : Value) (m : List Nat) (hm : ArgN wr v2 m) (hs : a.eval s = v) (hx : a.eval x = v2) (hlen : l.length + m.length ≤ 1000000) (hB : B ≤ wr.heap.size)
    (h : ∀ v' w', OwnN w' B v' (l ++ m) → wr.grownBy w' v.ownBlock → wpList Tryd.prog ops Q rest (a.put o.dst v') w') :
    wpList Tryd.prog ops Q (o :: rest) a wr := by
  obtain ⟨i, hi, hz0, hz1, hz2⟩ := info_parts info_n
  obtain ⟨hok, y, cap, rfl, h1, h2, h3⟩ := hm
  have go : ∀ (ad : Addr), y = some ad → (∀ j u, (nv m)[j]? = some u → wr.cell? (ad.add j) = some u) → wpList Tryd.prog ops Q (o :: rest) a wr := by
    intro ad e hc
    subst e
    refine wpList_append_own (P := Tryd.prog) wr hgd s x 22 ho B 32 i _ 1 8 Tryd.underlying22 hi hz0 hz1 hz2 rfl (by decide) v l.length (nv l) hs hown
      ad m.length cap (nv m) hx (by simp [nv]) hc (nv_one m) (by unfold maxLen; omega) (by omega) hB ?_
    intro v' w' h1 h2 _
    refine h v' w' ?_ h2
    unfold OwnN
    rw [List.length_append]
    simpa [nv] using h1
  rcases h3 with ⟨rfl, h3⟩ | ⟨g, q, rfl, h3, h4⟩
  · cases y with
    | none =>
      have hc := h3 rfl
      subst hc
      refine wpList_append_own_none (P := Tryd.prog) hgd s x 22 ho B 32 i 1 Tryd.underlying22 hi v l.length (nv l) hs hown hx ?_
      exact h v wr (by simpa using hown) (World.grownBy.refl _ _)
    | some ad => exact go ad rfl (fun j u hj => by simp [nv] at hj)
  · refine go _ rfl (fun j u hj => ?_)
    rw [add_at]
    simp only [nv, List.getElem?_map, Option.map_eq_some_iff] at hj
    obtain ⟨n, hn, rfl⟩ := hj
    obtain ⟨hlt, rfl⟩ := List.getElem?_eq_some_iff.1 hn
    exact h4 j hlt
/-- What Decode answers, in numbers. -/
def DecN (l : List UInt8) (q : Int) (Z : List Nat) : Prop := (relrZ l = none ∧ Z = [] ∧ q = 130) ∨ (relrZ l = some Z ∧ q = 0)
theorem decN (l : List UInt8) : ∃ q Z, DecN l q Z := by
  cases h : relrZ l with
  | none => exact ⟨130, [], .inl ⟨h, rfl, rfl⟩⟩
  | some Z => exact ⟨0, Z, .inr ⟨h, rfl⟩⟩
theorem dec_anyN (w : World) (v : Value) (l : List UInt8) (h : Arg w v l) (hl : l.length ≤ 1000000) (hT : TabZ w) (q : Int) (Z : List Nat) (hz : DecN l q Z) :
    Calls Tryd.prog 9 #[v] w fun e w' => (∃ x, e = .returned (.tuple #[x, .int .i64 q]) ∧ ArgN w' x Z) ∧ Below w.heap.size w w' := by
  have hD := relr_Decode w v l h hl hT
  rcases hz with ⟨e, rfl, rfl⟩ | ⟨e, rfl⟩
  · rw [e] at hD
    refine hD.mono ?_
    rintro e w' ⟨he, hb⟩
    exact ⟨⟨_, he, nilN _⟩, hb⟩
  · rw [e] at hD
    refine hD.mono ?_
    rintro e' w' ⟨⟨v, he, ho⟩, hb⟩
    exact ⟨⟨_, he, ho.arg (relrZ_ok e).2⟩, hb⟩
theorem decN_join {a b : List UInt8} {q1 q2 q3 : Int} {X Y Z : List Nat} (h1 : DecN a q1 X) (h2 : DecN b q2 Y) (h3 : DecN (a ++ b) q3 Z) :
    (q1 = 130) ∨ (q1 = 0 ∧ q2 = 130) ∨ (q1 = 0 ∧ q2 = 0 ∧ ¬ (X.length + Y.length ≤ 512 ∧ a.length + b.length ≤ 4096) ∧ X.length ≤ 512 ∧ Y.length ≤ 512 ∧ q3 = 130 ∧ Z = []) ∨ (q1 = 0 ∧ q2 = 0 ∧ X.length + Y.length ≤ 512 ∧ a.length + b.length ≤ 4096 ∧ q3 = 0 ∧ Z = X ++ Y) := by
  rcases h1 with ⟨_, _, rfl⟩ | ⟨h1, rfl⟩
  · exact .inl rfl
  · rcases h2 with ⟨_, _, rfl⟩ | ⟨h2, rfl⟩
    · exact .inr (.inl ⟨rfl, rfl⟩)
    · have hj := relr_join h1 h2
      by_cases hl : X.length + Y.length ≤ 512 ∧ a.length + b.length ≤ 4096
      · rw [if_pos hl] at hj
        rcases h3 with ⟨e, _, _⟩ | ⟨e, rfl⟩
        · rw [hj] at e; cases e
        · rw [hj] at e; injection e with e
          exact .inr (.inr (.inr ⟨rfl, rfl, hl.1, hl.2, rfl, e.symm⟩))
      · rw [if_neg hl] at hj
        rcases h3 with ⟨e, rfl, rfl⟩ | ⟨e, rfl⟩
        · exact .inr (.inr (.inl ⟨rfl, rfl, hl, (relrZ_ok h1).1, (relrZ_ok h2).1, rfl, rfl⟩))
        · rw [hj] at e; cases e
end Go.Proofs.YtkelipoiopkokabDoor
