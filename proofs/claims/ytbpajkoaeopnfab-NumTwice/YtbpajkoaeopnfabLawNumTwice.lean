/-
  NumTwice returns true for all numbers of 64 bits, and they read afterwards as they read before: no condition.
-/
import Derived.Test.YtbpajkoaeopnfabRows
import Derived.Test.YtbpajkoaeopnfabNumD
import Derived.WalkKit
import Derived.ProofKit
import Derived.OpenShut
import Derived.ShutString
import Derived.ChangeOld
import Derived.Below
set_option linter.unusedVariables false
namespace Go.Proofs.Ytbpajkoaeopnfab
namespace LNumTwice
open Go.ChangeShapes Go.WideShapes Go.ChangeAt Go.RowKit
open Go.ChangeMaps (open_string shut_string)
theorem mult_down (m u : Int) (hu : 1 ≤ u) : m * u / u * u = m * u := by rw [Int.mul_ediv_cancel _ (by omega)]
theorem mult_up (m u : Int) (hu : 1 ≤ u) : (m * u + (u - 1)) / u * u = m * u := by
  rw [Int.add_comm, Int.add_mul_ediv_right _ _ (by omega), Int.ediv_eq_zero_of_lt (by omega) (by omega), Int.zero_add]
theorem mult_room (m u : Int) (h0 : 0 ≤ m) (hu : isPow u) (h : m * u ≤ 18446744073709551615) : m * u + (u - 1) ≤ 18446744073709551615 := by
  obtain ⟨k, hk, rfl⟩ := hu
  obtain ⟨n, rfl⟩ := Int.eq_ofNat_of_zero_le h0
  have e : 2 ^ (64 - k) * 2 ^ k = 18446744073709551616 := by rw [← Nat.pow_add, Nat.sub_add_cancel (by omega)]
  have h1 : n * 2 ^ k < 2 ^ (64 - k) * 2 ^ k := by
    rw [e]
    have : ((n * 2 ^ k : Nat) : Int) ≤ 18446744073709551615 := by rw [Int.natCast_mul]; exact h
    omega
  have h2 : n < 2 ^ (64 - k) := Nat.lt_of_mul_lt_mul_right h1
  have h3 : (n + 1) * 2 ^ k ≤ 2 ^ (64 - k) * 2 ^ k := Nat.mul_le_mul_right _ h2
  rw [e, Nat.add_mul] at h3
  have h4 : (n : Int) * ((2 ^ k : Nat) : Int) = ((n * 2 ^ k : Nat) : Int) := (Int.natCast_mul _ _).symm
  rw [h4]; omega
theorem round_mono (a b u : Int) (hu : 1 ≤ u) (h : a ≤ b) : a / u * u ≤ b / u * u :=
  Int.mul_le_mul_of_nonneg_right (Int.ediv_le_ediv (by omega) h) (by omega)
theorem round_bd (n u : Int) (hu : 1 ≤ u) (hn : 0 ≤ n) : 0 ≤ n / u ∧ 0 ≤ n / u * u ∧ n / u * u ≤ n := by
  have h := Int.ediv_nonneg hn (by omega : 0 ≤ u)
  exact ⟨h, Int.mul_nonneg h (by omega), Int.ediv_mul_le n (by omega)⟩
set_option maxHeartbeats 1000000 in
theorem walk (a : Int) (w0 : (Lit.int .u64 a).wf = true) (b : Int) (w1 : (Lit.int .u64 b).wf = true) (u : Int) (w2 : (Lit.int .u64 u).wf = true) (w : World) :
    Calls Try.prog 3 #[.int .u64 a, .int .u64 b, .int .u64 u] w fun e w' => e = .returned (.bool true) ∧ Below w.heap.size w w' := by
  obtain ⟨a0, a1⟩ := bounds_u64 w0
  obtain ⟨b0, b1⟩ := bounds_u64 w1
  obtain ⟨u0, u1⟩ := bounds_u64 w2
  clear w0 w1 w2
  by_cases hp : isPow u
  · obtain ⟨p1, p2⟩ := isPow_pos hp
    have hDa := fun w => num_Down_yes a u w a0 a1 hp
    have hDb := fun w => num_Down_yes b u w b0 b1 hp
    by_cases oa : a + (u - 1) ≤ 18446744073709551615
    · have hUa := fun w => num_Up_yes a u w a0 hp oa
      by_cases ob : b + (u - 1) ≤ 18446744073709551615
      · have hUb := fun w => num_Up_yes b u w b0 hp ob
        have m1 : a ≤ b → a / u * u ≤ b / u * u := round_mono a b u p1
        have m2 : a ≤ b → (a + (u - 1)) / u * u ≤ (b + (u - 1)) / u * u := fun h => round_mono _ _ u p1 (by omega)
        obtain ⟨c1, c2, c3⟩ := round_bd (a + (u - 1)) u p1 (by omega)
        have c4 := mult_room _ u c1 hp (by omega)
        have hU2 := fun w => num_Up_yes ((a + (u - 1)) / u * u) u w c2 hp c4
        have hD2 := fun w => num_Down_yes ((a + (u - 1)) / u * u) u w c2 (by omega) hp
        rw [mult_up _ u p1] at hU2
        rw [mult_down _ u p1] at hD2
        clear c1 c3 c4 oa ob
        generalize (a + (u - 1)) / u * u = x at *
        generalize (b + (u - 1)) / u * u = y at *
        generalize a / u * u = p at *
        generalize b / u * u = q at *
        clear hp
        by_cases hab : a ≤ b
        · have m1' := m1 hab
          have m2' := m2 hab
          clear m1 m2
          go_enter Try.func3, Try.ntmps3
          go_wp2_with fail
          refine (hUa _).mono ?_
          rintro e w' ⟨rfl, rfl⟩
          go_wp2_with fail
          refine (hUb _).mono ?_
          rintro e w' ⟨rfl, rfl⟩
          go_wp2_with fail
          refine (hDa _).mono ?_
          rintro e w' ⟨rfl, rfl⟩
          go_wp2_with fail
          refine (hDb _).mono ?_
          rintro e w' ⟨rfl, rfl⟩
          go_wp2_with fail
          refine (hU2 _).mono ?_
          rintro e w' ⟨rfl, rfl⟩
          go_wp2_with fail
          refine (hD2 _).mono ?_
          rintro e w' ⟨rfl, rfl⟩
          go_wp2_with fail
          refine (alive _).mono ?_
          rintro e w3 ⟨rfl, hb3⟩
          go_wp2
          go_ret
          exact ⟨rfl, hb3⟩
        · clear m1 m2
          go_enter Try.func3, Try.ntmps3
          go_wp2_with fail
          refine (hUa _).mono ?_
          rintro e w' ⟨rfl, rfl⟩
          go_wp2_with fail
          refine (hUb _).mono ?_
          rintro e w' ⟨rfl, rfl⟩
          go_wp2_with fail
          refine (hDa _).mono ?_
          rintro e w' ⟨rfl, rfl⟩
          go_wp2_with fail
          refine (hDb _).mono ?_
          rintro e w' ⟨rfl, rfl⟩
          go_wp2_with fail
          refine (hU2 _).mono ?_
          rintro e w' ⟨rfl, rfl⟩
          go_wp2_with fail
          refine (hD2 _).mono ?_
          rintro e w' ⟨rfl, rfl⟩
          go_wp2_with fail
          refine (alive _).mono ?_
          rintro e w3 ⟨rfl, hb3⟩
          go_wp2
          go_ret
          exact ⟨rfl, hb3⟩
      · have hUb := fun w => num_Up_over b u w b0 b1 hp (by omega)
        clear hp oa ob
        generalize (a + (u - 1)) / u * u = x at *
        generalize a / u * u = p at *
        generalize b / u * u = q at *
        go_enter Try.func3, Try.ntmps3
        go_wp2_with fail
        refine (hUa _).mono ?_
        rintro e w' ⟨rfl, rfl⟩
        go_wp2_with fail
        refine (hUb _).mono ?_
        rintro e w' ⟨rfl, rfl⟩
        go_wp2_with fail
        refine (hDa _).mono ?_
        rintro e w' ⟨rfl, rfl⟩
        go_wp2_with fail
        refine (hDb _).mono ?_
        rintro e w' ⟨rfl, rfl⟩
        go_wp2_with fail
        refine (alive _).mono ?_
        rintro e w3 ⟨rfl, hb3⟩
        go_wp2
        go_ret
        exact ⟨rfl, hb3⟩
    · have hUa := fun w => num_Up_over a u w a0 a1 hp (by omega)
      by_cases ob : b + (u - 1) ≤ 18446744073709551615
      · have hUb := fun w => num_Up_yes b u w b0 hp ob
        clear hp oa ob
        generalize (b + (u - 1)) / u * u = x at *
        generalize a / u * u = p at *
        generalize b / u * u = q at *
        go_enter Try.func3, Try.ntmps3
        go_wp2_with fail
        refine (hUa _).mono ?_
        rintro e w' ⟨rfl, rfl⟩
        go_wp2_with fail
        refine (hUb _).mono ?_
        rintro e w' ⟨rfl, rfl⟩
        go_wp2_with fail
        refine (hDa _).mono ?_
        rintro e w' ⟨rfl, rfl⟩
        go_wp2_with fail
        refine (hDb _).mono ?_
        rintro e w' ⟨rfl, rfl⟩
        go_wp2_with fail
        refine (alive _).mono ?_
        rintro e w3 ⟨rfl, hb3⟩
        go_wp2
        go_ret
        exact ⟨rfl, hb3⟩
      · have hUb := fun w => num_Up_over b u w b0 b1 hp (by omega)
        clear hp oa ob
        generalize a / u * u = p at *
        generalize b / u * u = q at *
        go_enter Try.func3, Try.ntmps3
        go_wp2_with fail
        refine (hUa _).mono ?_
        rintro e w' ⟨rfl, rfl⟩
        go_wp2_with fail
        refine (hUb _).mono ?_
        rintro e w' ⟨rfl, rfl⟩
        go_wp2_with fail
        refine (hDa _).mono ?_
        rintro e w' ⟨rfl, rfl⟩
        go_wp2_with fail
        refine (hDb _).mono ?_
        rintro e w' ⟨rfl, rfl⟩
        go_wp2_with fail
        refine (alive _).mono ?_
        rintro e w3 ⟨rfl, hb3⟩
        go_wp2
        go_ret
        exact ⟨rfl, hb3⟩
  · have hUa := fun w => num_Up_no a u w u0 u1 hp
    have hUb := fun w => num_Up_no b u w u0 u1 hp
    have hDa := fun w => num_Down_no a u w u0 u1 hp
    have hDb := fun w => num_Down_no b u w u0 u1 hp
    clear hp
    go_enter Try.func3, Try.ntmps3
    go_wp2_with fail
    refine (hUa _).mono ?_
    rintro e w' ⟨rfl, rfl⟩
    go_wp2_with fail
    refine (hUb _).mono ?_
    rintro e w' ⟨rfl, rfl⟩
    go_wp2_with fail
    refine (hDa _).mono ?_
    rintro e w' ⟨rfl, rfl⟩
    go_wp2_with fail
    refine (hDb _).mono ?_
    rintro e w' ⟨rfl, rfl⟩
    go_wp2_with fail
    refine (alive _).mono ?_
    rintro e w3 ⟨rfl, hb3⟩
    go_wp2
    go_ret
    exact ⟨rfl, hb3⟩
theorem own : ownKnob Try.prog.godebug = none := by kernel_rfl
theorem laidOut : laidOutB Try.prog = true := by kernel_rfl
set_option maxRecDepth 100000 in
theorem lifted (os : Os) (started : os.Started) (H : Type) (enc : TypeId × Value → H) :
    ReturnsInHanded {} Try.checked os 3 .any (Rows.numTwiceSpec.pre6 enc Try.prog Try.f3 Rows.numTwiceRow.domain false) (Rows.numTwiceSpec.post enc Try.prog Try.f3 false true false false) := by
  refine returnsInHanded_of_change (C := Try.checked) own started (by kernel_rfl) Try.func3
    (ChangeSpec.witness6 (enc := enc) (C := Try.checked) false ⟨#[], #[.int .u64 0, .int .u64 0, .int .u64 0], []⟩ 8 (by kernel_rfl) (by kernel_rfl) (by kernel_rfl) (by kernel_rfl)) ?_
  intro W base args ds gs before hval0 hW hcnd _
  have hval : ∀ (j : Nat) t v, Try.f3.params[j]? = some t → args[j]? = some v → Value.okWide Try.prog W .any base t v := hval0
  have hW' := hW
  obtain ⟨p, q, hA0, hV, rfl, hfz, hnd⟩ := hW
  have hA : DataW.TrodAll enc Try.prog W 0 (fun _ => true) true Try.f3.params.toList args.toList ds p := hA0
  rw [Try.params3] at hA hval
  obtain ⟨v0, vs0, d0, ds0, p0, q0, hargs, rfl, rfl, h0, r0⟩ := trodAll_cons hA
  obtain ⟨v1, vs1, d1, ds1, p1, q1, rfl, rfl, rfl, h1, r1⟩ := trodAll_cons r0
  obtain ⟨v2, vs2, d2, ds2, p2, q2, rfl, rfl, rfl, h2, r2⟩ := trodAll_cons r1
  obtain ⟨rfl, rfl, rfl⟩ := trodAll_nil r2
  obtain rfl : args = #[v0, v1, v2] := by cases args; simp_all
  obtain ⟨rfl, rfl⟩ := trodVars_none hV
  have k0 := h0
  have lt0 : ∀ x ∈ p0, x.block < W.heap.size := by obtain ⟨m, hm⟩ := k0; exact DataW.trod_lt m _ _ _ hm
  have k1 := h1
  have lt1 : ∀ x ∈ p1, x.block < W.heap.size := by obtain ⟨m, hm⟩ := k1; exact DataW.trod_lt m _ _ _ hm
  have k2 := h2
  have lt2 : ∀ x ∈ p2, x.block < W.heap.size := by obtain ⟨m, hm⟩ := k2; exact DataW.trod_lt m _ _ _ hm
  obtain ⟨a0, rfl, rfl, rfl, w0⟩ := open_int Try.underlying22 (hval 0 22 v0 rfl rfl) h0
  obtain ⟨a1, rfl, rfl, rfl, w1⟩ := open_int Try.underlying22 (hval 1 22 v1 rfl rfl) h1
  obtain ⟨a2, rfl, rfl, rfl, w2⟩ := open_int Try.underlying22 (hval 2 22 v2 rfl rfl) h2
  clear hA0 hval0
  refine (walk a0 w0 a1 w1 a2 w2 W).mono fun e W' ⟨he, bel⟩ => ?_
  subst he
  exact ⟨_, rfl, _, _, _, [], _, [], hW', trodAll_mk1 (shut_bool Try.underlying4 _), (trodAll_cons_mk (Below.trod laidOut (by kernel_rfl) (of_decide_eq_true (by kernel_rfl)) k0 bel lt0) (trodAll_cons_mk (Below.trod laidOut (by kernel_rfl) (of_decide_eq_true (by kernel_rfl)) k1 bel lt1) (trodAll_cons_mk (Below.trod laidOut (by kernel_rfl) (of_decide_eq_true (by kernel_rfl)) k2 bel lt2) trodAll_mk0))), rfl, bel.frame _, fun h => by cases h⟩

theorem over : Rows.numTwiceRow.holds Try.pinned (OpenSpec.ofChange Rows.numTwiceSpec) :=
  OpenClaim.holds_of_wide 3 Try.f3 rfl rfl rfl rfl rfl rfl rfl ⟨rfl, rfl, rfl, rfl, rfl⟩ rfl rfl rfl rfl rfl (by kernel_rfl) Try.func3 (by kernel_rfl)
    (of_decide_eq_true (by kernel_rfl)) (by unfold Func.isWrapper; first | (rw [if_pos (by decide +kernel)]; kernel_rfl) | (rw [if_neg (by decide +kernel)]; exact ⟨rfl, rfl⟩))
    (fun os started H enc _ => lifted os started H enc)
end LNumTwice
theorem NumTwice_proved : Rows.NumTwiceSaid := LNumTwice.over
end Go.Proofs.Ytbpajkoaeopnfab
