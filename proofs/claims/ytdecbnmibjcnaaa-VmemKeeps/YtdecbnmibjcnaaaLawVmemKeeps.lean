
/-
  VmemKeeps returns true for every budget, every row of calls and every call behind them, and what came in reads afterwards as it read before: no condition.
-/
import Derived.Test.YtdecbnmibjcnaaaRows
import Derived.Test.YtdecbnmibjcnaaaVmKeeps
set_option linter.unusedVariables false
namespace Go.Proofs.Ytdecbnmibjcnaaa
namespace LVmemKeeps
open Go.ChangeShapes Go.WideShapes Go.ChangeAt Go.RowKit Go.PlainAid
open Go.ChangeMaps (open_string shut_string)
theorem opAgg_of {H : Type} {enc : TypeId × Value → H} {W : World} {cs : Array Value} {d : DataW H} {p : List MemPlace}
    (h : DataW.Trod enc Try.prog W 0 (fun _ => true) true 46 (.agg cs) d p) : ∃ (x : OpN) (vd : Value), cs = x.cells vd ∧ (x.data.length ≤ 2048 → x.ok) ∧ Src W (fun _ => False) vd x.data := by
  obtain ⟨fuel, hf⟩ := h
  obtain ⟨x, vd, e, h1, h2⟩ := op_of hf
  refine ⟨x, vd, ?_, h1, h2⟩
  have e2 : cs.toList = (x.cells vd).toList := e
  exact Array.toList_inj.1 e2
set_option maxHeartbeats 2000000 in
set_option maxRecDepth 20000 in
theorem walk_no (w : World) (b : Int) (hb : b < 1 ∨ 1024 < b) (a : Option Addr) (len cap : Nat) (h : IsOps w a len cap) (x : OpN) (vd : Value) (hxok : x.data.length ≤ 2048 → x.ok) (hsrc : Src w (fun _ => False) vd x.data) :
    Calls Try.prog 5 #[.int .i64 b, .slice a len cap, .agg (x.cells vd)] w fun e w' => e = .returned (.bool true) ∧ Below w.heap.size w w' := by
  have B7 := Bx7.start w x vd hsrc
  have hBig := law_big _ a len cap (h.stay B7.bl)
  obtain ⟨hlc, hcm, _⟩ := h
  have hcap : cap ≤ 9223372036854775807 := by unfold maxLen at hcm; omega
  have hNew := vm_New_no (w.alloc (.cells (x.cells vd) 46)) b hb
  obtain ⟨sa, sc, rfl, sa1, sa2, _⟩ := id hsrc
  unfold OpN.cells at *
  obtain ⟨c0, c1, c2, c3, c4, c5, c6⟩ := id B7.s7
  have HB7 := hide B7
  clear B7 hsrc hb hxok
  go_enter Try.func5, Try.ntmps5
  go_wp2_with fail
  generalize w.alloc (.cells #[.int .i64 x.kind, .int .i64 x.room, .int .u64 x.off, .int .u64 x.size, .int .i64 x.prot, .int .u64 x.hint, .slice sa x.data.length sc] 46) = w0 at *
  refine hBig.mono ?_
  rintro e w' ⟨⟨bb, rfl, hBB⟩, hw⟩
  rw [← hw]
  clear hw hBig
  rcases hBB with rfl | ⟨rfl, hops⟩
  · go_wp2
    go_ret
    exact ⟨rfl, HB7.out.bl⟩
  clear hops
  by_cases hbig : 2048 < x.data.length
  · have hbI : (2048 : Int) < (x.data.length : Int) := by omega
    clear hbig
    go_wp2
    go_ret
    exact ⟨rfl, HB7.out.bl⟩
  have hbI : ¬ (2048 : Int) < (x.data.length : Int) := by omega
  clear hbig
  go_wp2_with fail
  refine hNew.mono ?_
  rintro e w' ⟨rfl, hw⟩
  rw [← hw]
  clear hw hNew
  go_wp2_with (go_at_call 17; refine (alive _).mono ?_; rintro e w9 ⟨rfl, hb9⟩)
  go_ret
  exact ⟨rfl, HB7.out.bl.trans (hb9.mono HB7.out.bl.size)⟩
theorem walk (w : World) (a0 : Int) (w0 : (Lit.int .i64 a0).wf = true) (s1 : Option Addr) (len1 cap1 : Nat) (h : IsOps w s1 len1 cap1) (x : OpN) (vd : Value) (hx : x.data.length ≤ 2048 → x.ok) (hs : Src w (fun _ => False) vd x.data) :
    Calls Try.prog 5 #[.int .i64 a0, .slice s1 len1 cap1, .agg (x.cells vd)] w fun e w' => e = .returned (.bool true) ∧ Below w.heap.size w w' := by
  by_cases hb : a0 < 1 ∨ 1024 < a0
  · exact walk_no w a0 hb s1 len1 cap1 h x vd hx hs
  · obtain ⟨b, rfl⟩ : ∃ b : Nat, a0 = b := ⟨a0.toNat, by omega⟩
    exact keeps_ok w b (by omega) (by omega) s1 len1 cap1 h x vd hx hs
theorem own : ownKnob Try.prog.godebug = none := by kernel_rfl
theorem laidOut : laidOutB Try.prog = true := by kernel_rfl
set_option maxRecDepth 100000 in
theorem lifted (os : Os) (started : os.Started) (H : Type) (enc : TypeId × Value → H) :
    ReturnsInHanded {} Try.checked os 5 .any (Rows.vmemKeepsSpec.pre6 enc Try.prog Try.f5 Rows.vmemKeepsRow.domain false) (Rows.vmemKeepsSpec.post enc Try.prog Try.f5 false true false false) := by
  refine returnsInHanded_of_change (C := Try.checked) own started (by kernel_rfl) Try.func5
    (ChangeSpec.witness6 (enc := enc) (C := Try.checked) false ⟨#[], #[.int .i64 0, .slice none 0 0, .agg #[.int .i64 0, .int .i64 0, .int .u64 0, .int .u64 0, .int .i64 0, .int .u64 0, .slice none 0 0]], []⟩ 8 (by kernel_rfl) (by kernel_rfl) (by kernel_rfl) (by kernel_rfl)) ?_
  intro W base args ds gs before hval0 hW hcnd _
  have hval : ∀ (j : Nat) t v, Try.f5.params[j]? = some t → args[j]? = some v → Value.okWide Try.prog W .any base t v := hval0
  have hW' := hW
  obtain ⟨p, q, hA0, hV, rfl, hfz, hnd⟩ := hW
  have hA : DataW.TrodAll enc Try.prog W 0 (fun _ => true) true Try.f5.params.toList args.toList ds p := hA0
  rw [Try.params5] at hA hval
  obtain ⟨v0, vs0, d0, ds0, p0, q0, hargs, rfl, rfl, h0, r0⟩ := trodAll_cons hA
  obtain ⟨v1, vs1, d1, ds1, p1, q1, rfl, rfl, rfl, h1, r1⟩ := trodAll_cons r0
  obtain ⟨v2, vs2, d2, ds2, p2, q2, rfl, rfl, rfl, h2, r2⟩ := trodAll_cons r1
  obtain ⟨rfl, rfl, rfl⟩ := trodAll_nil r2
  obtain rfl : args = #[v0, v1, v2] := by cases args; simp_all
  obtain ⟨rfl, rfl⟩ := trodVars_none hV
  have k0 := h0
  have lt0 : ∀ x ∈ p0, x.block < W.heap.size := by obtain ⟨m, hm⟩ := k0; exact DataW.trod_lt m _ _ _ hm
  have k1 := h1
  have lt1 : ∀ x ∈ p1, x.block < W.heap.size := by obtain ⟨m, hm⟩ := k1; exact DataW.trod_lt m _ _ _ hm
  have k2 := h2
  have lt2 : ∀ x ∈ p2, x.block < W.heap.size := by obtain ⟨m, hm⟩ := k2; exact DataW.trod_lt m _ _ _ hm
  obtain ⟨a0, rfl, rfl, rfl, w0⟩ := open_int Try.underlying3 (hval 0 3 v0 rfl rfl) h0
  obtain ⟨s1, len1, cap1, rfl⟩ := okWide_slice Try.underlying36 (hval 1 36 v1 rfl rfl)
  have w1 := isOps_of h1
  obtain ⟨cs2, rfl, _⟩ := okWide_struct Try.underlying46 (hval 2 46 v2 rfl rfl)
  obtain ⟨x2, vd2, rfl, o2, s2⟩ := opAgg_of h2
  clear hA0 hval0
  refine (walk W a0 w0 s1 len1 cap1 w1 x2 vd2 o2 s2).mono fun e W' ⟨he, bel⟩ => ?_
  subst he
  exact ⟨_, rfl, _, _, _, [], _, [], hW', trodAll_mk1 (shut_bool Try.underlying4 _), (trodAll_cons_mk (Below.trod laidOut (by kernel_rfl) (of_decide_eq_true (by kernel_rfl)) k0 bel lt0) (trodAll_cons_mk (Below.trod laidOut (by kernel_rfl) (of_decide_eq_true (by kernel_rfl)) k1 bel lt1) (trodAll_cons_mk (Below.trod laidOut (by kernel_rfl) (of_decide_eq_true (by kernel_rfl)) k2 bel lt2) trodAll_mk0))), rfl, bel.frame _, fun h => by cases h⟩

theorem over : Rows.vmemKeepsRow.holds Try.pinned (OpenSpec.ofChange Rows.vmemKeepsSpec) :=
  OpenClaim.holds_of_wide 5 Try.f5 rfl rfl rfl rfl rfl rfl rfl ⟨rfl, rfl, rfl, rfl, rfl⟩ rfl rfl rfl rfl rfl (by kernel_rfl) Try.func5 (by kernel_rfl)
    (of_decide_eq_true (by kernel_rfl)) (by unfold Func.isWrapper; first | (rw [if_pos (by decide +kernel)]; kernel_rfl) | (rw [if_neg (by decide +kernel)]; exact ⟨rfl, rfl⟩))
    (fun os started H enc _ => lifted os started H enc)
end LVmemKeeps
theorem VmemKeeps_proved : Rows.VmemKeepsSaid := LVmemKeeps.over
end Go.Proofs.Ytdecbnmibjcnaaa
