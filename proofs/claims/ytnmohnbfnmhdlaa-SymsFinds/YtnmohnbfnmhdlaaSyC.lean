
/-
  Layer 10 (syms): Exported, hold, fits, has, and the reference's Had.
-/
import Derived.Test.YtnmohnbfnmhdlaaSyA
import Derived.BigQuiet
import Derived.Deep.MidRow
set_option linter.unusedVariables false
namespace Go.Proofs.Ytnmohnbfnmhdlaa
open Go.RowKit Go.PlainAid
theorem bel1 (w : World) (o : Obj) : Below w.heap.size w (w.alloc o) := Below.alloc (Below.refl _ _) (Nat.le_refl _) o
theorem bel2 (w : World) (o o' : Obj) : Below w.heap.size w ((w.alloc o).alloc o') := Below.alloc (bel1 w o) (by simp) o'
set_option maxHeartbeats 1000000 in
theorem syms_Exported (s : Sy) (w : World) :
    Calls Try.prog 25 #[.agg #[.string ⟨s.name.toArray⟩, .string ⟨s.ver.toArray⟩, .bool s.hidden, .int .i64 s.bind, .bool s.defined, .int .u64 s.value, .int .u64 s.size]] w fun e w' => e = .returned (.bool (had s)) ∧ Below w.heap.size w w' := by
  obtain ⟨nm, vr, hd, bd, df, vl, sz⟩ := s
  simp only [had]
  cases df
  · go_enter Try.func25, Try.ntmps25
    go_wp2
    go_ret
    exact ⟨rfl, bel1 _ _⟩
  · go_enter Try.func25, Try.ntmps25
    go_wp2
    go_ret
    exact ⟨by simp, bel1 _ _⟩
set_option maxHeartbeats 1000000 in
theorem ref10_Had (s : Sy) (w : World) :
    Calls Try.prog 26 #[.agg #[.string ⟨s.name.toArray⟩, .string ⟨s.ver.toArray⟩, .bool s.hidden, .int .i64 s.bind, .bool s.defined, .int .u64 s.value, .int .u64 s.size]] w fun e w' => e = .returned (.bool (had s)) ∧ Below w.heap.size w w' := by
  obtain ⟨nm, vr, hd, bd, df, vl, sz⟩ := s
  simp only [had]
  cases df
  · go_enter Try.func26, Try.ntmps26
    go_wp2
    go_ret
    exact ⟨rfl, bel1 _ _⟩
  · go_enter Try.func26, Try.ntmps26
    go_wp2
    go_ret
    exact ⟨by simp, bel1 _ _⟩
theorem results_cell1 {P : Program} {fn : Func} {p : Tmp} {ty : TypeId} (h : fn.results = #[.cell p ty]) (tmps : Array Value) (w : World) (g : Nat) (t : TypeId) (cs : Array Value) (fr : Nat × Nat) (d : TypeDesc)
    (hp : tmps.getD p undef = .pointer (some ⟨g, 0, none⟩)) (hg : w.heap[g]? = some (.cells cs t fr))
    (hu : P.underlying ty = some d) (hd : (match d with | .struct _ | .array _ _ => true | _ => false) = true) (hi : (P.info? ty).map (·.size) = some cs.size) :
    (results fn tmps).run P w = .ok (.agg cs) w := by
  have hp' : tmps[p]?.getD undef = .pointer (some ⟨g, 0, none⟩) := by simpa using hp
  simp [results, h, hp', asAddr, run_loadVar_row w g t ty cs fr d hg hu hd hi]
set_option maxHeartbeats 1000000 in
theorem syms_hold (i : Int) (s : Sy) (w : World) :
    Calls Try.prog 58 #[.int .i64 i, .agg #[.string ⟨s.name.toArray⟩, .string ⟨s.ver.toArray⟩, .bool s.hidden, .int .i64 s.bind, .bool s.defined, .int .u64 s.value, .int .u64 s.size]] w fun e w' => e = .returned (.agg #[.int .i64 i, .string ⟨s.ver.toArray⟩, .bool s.hidden]) ∧ Below w.heap.size w w' := by
  go_enter Try.func58, Try.ntmps58
  go_wp2
  have hg : ((w.alloc (.cells #[.string ⟨s.name.toArray⟩, .string ⟨s.ver.toArray⟩, .bool s.hidden, .int .i64 s.bind, .bool s.defined, .int .u64 s.value, .int .u64 s.size] 60)).alloc (.cells #[.int .i64 i, .string ⟨s.ver.toArray⟩, .bool s.hidden] 128)).heap[w.heap.size + 1]? = some (.cells #[.int .i64 i, .string ⟨s.ver.toArray⟩, .bool s.hidden] 128) := by
    have k := (MapKept.heap_alloc (w.alloc (.cells #[.string ⟨s.name.toArray⟩, .string ⟨s.ver.toArray⟩, .bool s.hidden, .int .i64 s.bind, .bool s.defined, .int .u64 s.value, .int .u64 s.size] 60)) (.cells #[.int .i64 i, .string ⟨s.ver.toArray⟩, .bool s.hidden] 128)).1
    have e : ∀ (o : Obj), (w.alloc o).heap.size = w.heap.size + 1 := fun o => by simp
    rwa [e] at k
  refine bodyPost_ret (results_cell1 rfl _ _ (w.heap.size + 1) _ _ _ _ rfl hg Try.underlying128 rfl (by kernel_rfl)) rfl ?_
  exact ⟨rfl, bel2 _ _ _⟩
set_option maxHeartbeats 1000000 in
theorem syms_fits (i : Int) (hd : Bool) (sv ver : List UInt8) (vs : Bool) (w : World) :
    Calls Try.prog 59 #[.agg #[.int .i64 i, .string ⟨sv.toArray⟩, .bool hd], .bool vs, .string ⟨ver.toArray⟩] w fun e w' => e = .returned (.bool (fitB vs hd sv ver)) ∧ Below w.heap.size w w' := by
  cases ver with
  | nil =>
    go_enter Try.func59, Try.ntmps59
    go_wp2
    go_ret
    exact ⟨by simp [fitB], bel1 _ _⟩
  | cons c t =>
    cases vs
    · go_enter Try.func59, Try.ntmps59
      go_wp2
      go_ret
      exact ⟨by simp [fitB], bel1 _ _⟩
    · go_enter Try.func59, Try.ntmps59
      go_wp2
      go_ret
      exact ⟨by simp [fitB], bel1 _ _⟩
set_option maxHeartbeats 1000000 in
theorem syms_has (s : Sy) (a : Nat) (w : World) (ha : (a : Int) ≤ 18446744073709551615) (hs : OkSy s) :
    Calls Try.prog 60 #[.agg #[.string ⟨s.name.toArray⟩, .string ⟨s.ver.toArray⟩, .bool s.hidden, .int .i64 s.bind, .bool s.defined, .int .u64 s.value, .int .u64 s.size], .int .u64 a] w fun e w' => e = .returned (.bool (decide (s.value ≤ a) && decide (a - s.value < max s.size 1))) ∧ Below w.heap.size w w' := by
  have h1 := hs.val
  have h2 := hs.size
  obtain ⟨nm, vr, hd, bd, df, vl, sz⟩ := s
  clear hs
  simp only at h1 h2
  by_cases hv : vl ≤ a
  · have hvI : (vl : Int) ≤ (a : Int) := by omega
    by_cases hz : 1 ≤ sz
    · have hzI : (1 : Int) ≤ (sz : Int) := by omega
      go_enter Try.func60, Try.ntmps60
      go_wp2
      go_ret
      refine ⟨?_, bel1 _ _⟩
      show Ending.returned (Value.bool (decide ((a : Int) - vl < sz))) = _
      congr 2
      simp only [hv, decide_true, Bool.true_and]
      rw [decide_eq_decide]
      omega
    · have hzI : ¬ (1 : Int) ≤ (sz : Int) := by omega
      go_enter Try.func60, Try.ntmps60
      go_wp2
      go_ret
      refine ⟨?_, bel1 _ _⟩
      show Ending.returned (Value.bool (decide ((a : Int) - vl < 1))) = _
      congr 2
      try simp only [hv, decide_true, Bool.true_and]
      rw [decide_eq_decide]
      omega
  · have hvI : ¬ (vl : Int) ≤ (a : Int) := by omega
    go_enter Try.func60, Try.ntmps60
    go_wp2
    go_ret
    exact ⟨rfl, bel1 _ _⟩
end Go.Proofs.Ytnmohnbfnmhdlaa
