
/-
  The reference's rows of bytes keep their contracts; nothing that was there is turned.
-/
import Derived.Test.YtgpjfcnlhlkblaaNumE
set_option linter.unusedVariables false
namespace Go.Proofs.Ytgpjfcnlhlkblaa
open Go.RowKit Go.PlainAid
theorem bcell {W w1 : World} (hb : Below W.heap.size W w1) : (∀ b o, b < W.heap.size → w1.cell? ⟨b, o, none⟩ = W.cell? ⟨b, o, none⟩) ∧ (∀ b o, b < W.heap.size → w1.frozen? ⟨b, o, none⟩ = W.frozen? ⟨b, o, none⟩) :=
  ⟨fun b o h => hb.cell (p := ⟨b, o, none⟩) h, fun b o h => hb.frozen (p := ⟨b, o, none⟩) h⟩
theorem lessB_at (m n : Int) (hm : 0 ≤ m) (hm' : m ≤ 18446744073709551615) (hn : 0 ≤ n) : lessB 0 m (hi64 n) (lo64 n) = decide (m < n) := by
  have := lessB_of m n hm hn
  rwa [hi64_small hm hm', lo64_small hm hm'] at this
set_option maxHeartbeats 400000 in
theorem ref_Inside (a s f r : Int) (w : World) (ha : 0 ≤ a) (ha' : a ≤ 18446744073709551615) (hs : 0 ≤ s) (hs' : s ≤ 18446744073709551615) (hf : 0 ≤ f) (hf' : f ≤ 18446744073709551615) (hr : 0 ≤ r) (hr' : r ≤ 18446744073709551615) :
    Calls Try.prog 34 #[.int .u64 a, .int .u64 s, .int .u64 f, .int .u64 r] w fun e w' => e = .returned (.bool (inB a s f r)) ∧ Below w.heap.size w w' := by
  by_cases h1 : f ≤ a
  · have hS1 := fun w => ref_Sum f r w hf hf' hr hr'
    have hS2 := fun w => ref_Sum a s w ha ha' hs hs'
    have hL := fun w => ref_Less (hi64 (f + r)) (lo64 (f + r)) (hi64 (a + s)) (lo64 (a + s)) w
    have e : inB a s f r = !(lessB (hi64 (f + r)) (lo64 (f + r)) (hi64 (a + s)) (lo64 (a + s))) := by
      rw [lessB_of _ _ (by omega) (by omega)]; unfold inB; rw [← decide_not, decide_eq_decide]; omega
    rw [e]; clear e
    generalize lessB (hi64 (f + r)) (lo64 (f + r)) (hi64 (a + s)) (lo64 (a + s)) = b at *
    generalize hi64 (f + r) = x1 at *
    generalize lo64 (f + r) = x2 at *
    generalize hi64 (a + s) = x3 at *
    generalize lo64 (a + s) = x4 at *
    go_enter Try.func34, Try.ntmps34
    go_wp2_with fail
    refine (hS1 _).mono ?_
    rintro e w1 ⟨rfl, hb1⟩
    go_wp2_with fail
    refine (hS2 _).mono ?_
    rintro e w2 ⟨rfl, hb2⟩
    go_wp2_with fail
    refine (hL _).mono ?_
    rintro e w3 ⟨rfl, hb3⟩
    go_wp2
    go_ret
    exact ⟨rfl, (hb1.trans (hb2.mono hb1.size)).trans (hb3.mono (Nat.le_trans hb1.size hb2.size))⟩
  · have e : inB a s f r = false := by unfold inB; simp; omega
    rw [e]
    go_enter Try.func34, Try.ntmps34
    go_wp2
    go_ret
    exact ⟨rfl, Below.refl _ _⟩
end Go.Proofs.Ytgpjfcnlhlkblaa
