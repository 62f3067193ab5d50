
/-
  Layer 14 (aps): ApsBack's walk, over Decode's contract.
-/
import Derived.Test.YtiicmakeoidiaaaApL
set_option linter.unusedVariables false
namespace Go.Proofs.Ytiicmakeoidiaaa
open Go.RowKit Go.PlainAid
open Classical
theorem nilA (w : World) : Arg w (.slice none 0 0) [] := ⟨none, 0, rfl, by simp, by simp, by simp, .inl ⟨rfl, rfl, rfl⟩⟩
theorem nilR (w : World) : ArgR w (.slice none 0 0) [] := ⟨fun r hr => by simp at hr, none, 0, rfl, by simp, by simp, .inl ⟨rfl, fun _ => rfl⟩⟩
theorem Arg.below1' {w w' : World} {v : Value} {l : List UInt8} (h : Arg w v l) (hb : Below w.heap.size w w') : Arg w' v l := h.below hb rfl
theorem enc_short {l : List Rl} {rela : Bool} {x : List UInt8} (hx : encA l rela = some x) : x.length ≤ 1000000 := by
  unfold encA at hx
  split at hx
  · rename_i hc
    injection hx with hx
    have h1 := lebs_len ((l.length : Int) :: 0 :: encG rela l.length 0 0 l)
    have h2 : ∀ (k pl : Nat) (ad : Int) (l : List Rl), (encG rela k pl ad l).length ≤ 5 * l.length := by
      intro k
      induction k with
      | zero => intro pl ad l; simp [encG]
      | succ k ih =>
        intro pl ad l
        cases l with
        | nil => simp [encG]
        | cons r t =>
          have e1 := alike_le r (r :: t)
          have e2 := alike_pos r t
          have e3 := rowE_len rela ((r :: t).take (alikeN r (r :: t))) pl ad
          have e4 := ih (lastP pl ((r :: t).take (alikeN r (r :: t)))) (lastA ad ((r :: t).take (alikeN r (r :: t)))) ((r :: t).drop (alikeN r (r :: t)))
          rw [List.length_take] at e3
          rw [List.length_drop] at e4
          have e5 : (headN rela (alikeN r (r :: t)) r).length = 3 := rfl
          simp only [encG, List.length_append, e5]
          omega
    have h3 := h2 l.length 0 0 l
    rw [← hx]
    simp only [List.length_append, List.length_cons, List.length_nil] at h1 ⊢
    omega
  · cases hx
/-- Encode, both ways in one. -/
theorem enc_is (w : World) (v : Value) (l : List Rl) (rela : Bool) (h : ArgR w v l) (hl : l.length ≤ 1000) :
    Calls Try.prog 16 #[v, .bool rela] w fun e w' => (∃ vx x q, e = .returned (.tuple #[vx, .int .i64 q]) ∧ Arg w' vx x ∧ ((encA l rela = none ∧ x = [] ∧ q = 140) ∨ (encA l rela = some x ∧ q = 0))) ∧ Below w.heap.size w w' := by
  refine (aps_Encode w v l rela h hl).mono ?_
  rintro e w' ⟨hE, hb⟩
  refine ⟨?_, hb⟩
  cases hO : encA l rela with
  | none => rw [hO] at hE; exact ⟨_, [], 140, hE, nilA _, .inl ⟨rfl, rfl, rfl⟩⟩
  | some x =>
    rw [hO] at hE
    obtain ⟨vx, he, hown⟩ := hE
    exact ⟨vx, x, 0, he, hown.arg (by have := enc_short hO; omega), .inr ⟨rfl, rfl⟩⟩
theorem dec_is (HD : DecSpec) (w : World) (v : Value) (l : List UInt8) (rela : Bool) (h : Arg w v l) :
    Calls Try.prog 26 #[v, .bool rela] w fun e w' => (∃ vx L q, e = .returned (.tuple #[vx, .int .i64 q]) ∧ ArgR w' vx L ∧ ((apsZ l rela = none ∧ L = [] ∧ q = 140) ∨ (apsZ l rela = some L ∧ q = 0))) ∧ Below w.heap.size w w' := by
  refine (HD w v l h rela).mono ?_
  rintro e w' ⟨hE, hb⟩
  refine ⟨?_, hb⟩
  cases hO : apsZ l rela with
  | none => rw [hO] at hE; exact ⟨_, [], 140, hE, nilR _, .inl ⟨rfl, rfl, rfl⟩⟩
  | some L =>
    rw [hO] at hE
    obtain ⟨vx, he, hown⟩ := hE
    exact ⟨vx, L, 0, he, hown.arg (fun r hr => ((apsZ_good hO).1 r hr).1), .inr ⟨rfl, rfl⟩⟩
theorem enc_good {L : List Rl} {rela : Bool} (h : ∀ r ∈ L, r.ok ∧ r.has = rela ∧ (rela = false → r.add = 0)) (hl : L.length ≤ 512) : ∃ c, encA L rela = some c := by
  unfold encA
  rw [if_pos]
  · exact ⟨_, rfl⟩
  · refine ⟨hl, ?_⟩
    rw [List.all_eq_true]
    intro r hr
    obtain ⟨_, h2, h3⟩ := h r hr
    unfold rlGood
    cases rela with
    | true => simp [h2]
    | false => simp [h2, h3 rfl]
end Go.Proofs.Ytiicmakeoidiaaa
