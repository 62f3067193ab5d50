
/-
  slices.Clone of bytes, leb.Read, and the chapter's examples of layer 3 ('alive') keep their contracts.
-/
import Derived.Test.YtiicmakeoidiaaaRdE
import Derived.Test.YtiicmakeoidiaaaLebB
import Derived.Test.YtiicmakeoidiaaaArgA
set_option linter.unusedVariables false
namespace Go.Proofs.Ytiicmakeoidiaaa
open Go.RowKit Go.PlainAid
theorem Own.row {w : World} {B R : Nat} {v : Value} {l : List UInt8} (h : Own w B v l) (hR : ∀ g, v.ownBlock = some g → g < R) : Row w R v l := by
  by_cases hne : l = []
  · subst hne
    unfold Own at h
    rcases h.2 with ⟨rfl, hn⟩ | ⟨g, cap, cur, rfl, hb, hg, hn, hm, hc, ht⟩
    · exact ⟨none, 0, rfl, by simp, by simp, .inl rfl⟩
    · exact ⟨_, cap, rfl, by simp, hm, .inl rfl⟩
  · obtain ⟨g, cap, rfl, _, hlt, h1, h2, hc, _⟩ := h.form hne
    exact ⟨_, cap, rfl, h1, h2, .inr ⟨g, 0, rfl, hR g rfl, hlt, fun j hj => by simpa using hc j hj⟩⟩
set_option maxHeartbeats 400000 in
theorem leb_Read (l : List UInt8) (v : Value) (w : World) (h : Arg w v l) :
    Calls Try.prog 29 #[v] w fun x w' => ∃ R, x = .returned (.pointer (some ⟨R, 0, none⟩)) ∧ Rd w' R l 0 ∧ w.heap.size ≤ R ∧ Below w.heap.size w w' := by
  have hC := lib_Clone l v w h
  go_enter Try.func29, Try.ntmps29
  go_wp2_with fail
  refine hC.mono ?_
  rintro x w1 ⟨v', rfl, hown, hb⟩
  obtain ⟨a, cap, rfl, _⟩ := hown.slice
  go_wp2
  go_ret
  refine ⟨w1.heap.size, rfl, ?_, hb.size, hb.alloc hb.size _⟩
  refine ⟨by simp, ⟨.slice a l.length cap, by simp, ?_⟩, by simp, by simp, by simp⟩
  exact Own.row (B := w.heap.size) (World.ownsRow.alloc hown _) (fun g hg => by have := (hown.base g hg).2; omega)
theorem alive_sv : sv (gv [126] 1) 1 (gl [126] 1) = -2 := by kernel_rfl
theorem alive_S (R : Nat) (w : World) (h : Rd w R [126] 0) :
    Calls Try.prog 30 #[.pointer (some ⟨R, 0, none⟩)] w fun x w' => x = .returned (.int .i64 (-2)) ∧ Rd w' R [] 0 ∧ w.grownBy w' (some R) := by
  have := leb_S_yes R [126] 0 w h (by unfold whole; decide) (by decide)
  have e : hiN 10 [126] = 0 := by decide
  rw [e, alive_sv] at this
  exact this
theorem alive_PutS (w : World) : Calls Try.prog 27 #[.int .i64 64] w fun e w' => ∃ v, e = .returned v ∧ Own w' w.heap.size v [192, 0] ∧ Below w.heap.size w w' := leb_PutS 64 w (by omega) (by omega)
theorem alive_arg (w : World) : Arg (w.alloc (.cells #[.int .u8 128, .int .u8 0, .int .u8 126] 5)) (.slice (some ⟨w.heap.size, 0, none⟩) 3 3) [128, 0, 126] :=
  ⟨some ⟨w.heap.size, 0, none⟩, 3, rfl, by simp, by simp [maxLen], by simp, .inr ⟨_, rfl, fun j hj => by
    rw [add_at]
    match j, hj with
    | 0, _ => simp
    | 1, _ => simp
    | 2, _ => simp⟩⟩
end Go.Proofs.Ytiicmakeoidiaaa
