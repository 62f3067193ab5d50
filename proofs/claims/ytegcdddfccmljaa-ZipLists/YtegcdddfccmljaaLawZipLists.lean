
/-
  ZipLists returns true for every row of bytes, and the row reads afterwards as it read before: no condition.
-/
import Derived.Test.YtegcdddfccmljaaRows
import Derived.Test.YtegcdddfccmljaaZpO
import Derived.WalkKit
import Derived.ProofKit
import Derived.OpenShut
import Derived.ShutString
import Derived.ChangeOld
import Derived.Below
set_option linter.unusedVariables false
namespace Go.Proofs.Ytegcdddfccmljaa
namespace LZipLists
open Go.ChangeShapes Go.WideShapes Go.ChangeAt Go.RowKit
set_option maxHeartbeats 4000000 in
set_option maxRecDepth 20000 in
theorem core (w : World) (v : Value) (l : List UInt8) (h : Arg w v l) (hl : l.length ≤ 263144) :
    Calls Try.prog 3 #[v] w fun e w' => e = .returned (.bool true) ∧ Below w.heap.size w w' := by
  have HA := hide h
  have hLs := zip_List w v l h
  obtain ⟨a, cap, rfl, _⟩ := h.isSlice
  have HRL := hide (fun W hW => ref_List W (.slice a l.length cap) l hW hl)
  have hRO := fun es f => readZ_ok (l := l) (es := es) (f := f)
  obtain ⟨n, hn⟩ : ∃ n, l.length = n := ⟨_, rfl⟩
  have hnI : ¬ (263144 : Int) < (n : Int) := by omega
  generalize readZ l = O at *
  rw [hn] at hLs HRL HA hl ⊢
  have HRO := hide hRO
  clear h hn hRO
  go_enter Try.func3, Try.ntmps3
  go_wp2_with fail
  refine hLs.mono ?_
  rintro e w1 ⟨hE, hb1⟩
  have HB1 := hide hb1
  have hRR := HRL.out w1 (HA.out.below hb1 rfl)
  clear hLs hb1 HRL
  cases O with
  | none =>
    have hE' : e = _ := hE
    subst hE'
    clear hE
    go_wp2_with fail
    refine hRR.mono ?_
    rintro e w2 ⟨hE, hb2⟩
    have hE' : e = _ := hE
    subst hE'
    have HB2 : Hid (Below w.heap.size w w2) := HB1.out.trans (hb2.mono HB1.out.size)
    have hAl := alive07 w2
    clear hE hRR hb2
    go_wp2
    go_loopw [8] (fun v8 wr => wr = w2 ∧ v8 = .int .i64 0) (fun _ _ => 0)
    case atStart => exact ⟨rfl, rfl⟩
    case round =>
      obtain ⟨rfl, rfl⟩ := hrel
      go_wp2_with (go_at_call 9; refine hAl.mono ?_; rintro e w3 ⟨rfl, hb3⟩)
      go_ret
      exact ⟨rfl, HB2.out.trans (hb3.mono HB2.out.size)⟩
  | some y =>
    obtain ⟨es, f⟩ := y
    obtain ⟨hok, hlen⟩ := HRO.out es f rfl
    obtain ⟨v1, rfl, hown⟩ := hE
    have HO1 := hide hown
    obtain ⟨a1, c1, rfl⟩ := hown.none
    clear hown HRO
    go_wp2_with fail
    refine hRR.mono ?_
    rintro e w2 ⟨hE, hb2⟩
    obtain ⟨v2, rfl, hown2⟩ := hE
    have HO2 := hide hown2
    have HO1' := hide (HO1.out.stay hb2)
    have HB2 : Hid (Below w.heap.size w w2) := HB1.out.trans (hb2.mono HB1.out.size)
    obtain ⟨a2, c2, rfl⟩ := hown2.none
    have hAl := alive07 w2
    clear hRR hb2 hown2 HO1 HA
    have hne : ((es.length : Int) != (es.length : Int)) = false := by simp
    go_wp2
    go_loopw [8] (fun v8 wr => (∃ k : Nat, wr = w2.drewN k) ∧ ∃ i : Nat, i ≤ es.length ∧ v8 = .int .i64 i) (fun v8 _ => es.length - (intOf v8).toNat)
    case atStart => exact ⟨⟨0, rfl⟩, 0, by omega, rfl⟩
    case round =>
      obtain ⟨⟨k, rfl⟩, i, hi, rfl⟩ := hrel
      by_cases hlt : i < es.length
      · have hltI : (i : Int) < (es.length : Int) := by omega
        obtain ⟨g1, d1, e1, p1, p2, _, hc1⟩ := HO1'.out.cells (by omega)
        obtain ⟨g2, d2, e2, p3, p4, _, hc2⟩ := HO2.out.cells (by omega)
        injection e1 with e11 e12 e13
        injection e2 with e21 e22 e23
        subst e11 e13 e21 e23
        have q1 : c1 ≤ 9223372036854775807 := by unfold maxLen at p2; omega
        have q2 : c2 ≤ 9223372036854775807 := by unfold maxLen at p4; omega
        obtain ⟨x0, x1, x2, x3, x4⟩ := hc1 i hlt
        obtain ⟨y0, y1, y2, y3, y4⟩ := hc2 i hlt
        clear hc1 hc2 HO1' HO2 hok
        generalize es[i] = e at *
        obtain ⟨nm, me, si, st, po⟩ := e
        simp only at x0 x1 x2 x3 x4 y0 y1 y2 y3 y4
        have b0 : (nm == nm) = true := by simp
        have b1 : ((me : Int) != (me : Int)) = false := by simp
        have b2 : ((si : Int) != (si : Int)) = false := by simp
        have b3 : ((st : Int) != (st : Int)) = false := by simp
        have b4 : ((po : Int) != (po : Int)) = false := by simp
        go_wp2_with fail
        go_quiet (fail)
        go_wp2
        go_roundw
        case rel => exact ⟨⟨_, rfl⟩, i + 1, by omega, by go_num⟩
        case measure => simp [intOf]; omega
      · have hltI : ¬ (i : Int) < (es.length : Int) := by omega
        have hAl2 := alive07 (w2.drewN k)
        go_wp2_with (go_at_call 9; refine hAl2.mono ?_; rintro e w3 ⟨rfl, hb3⟩)
        go_ret
        exact ⟨rfl, (⟨HB2.out.os, HB2.out.tape, HB2.out.output, HB2.out.size, HB2.out.block⟩ : Below w.heap.size w (w2.drewN k)).trans (hb3.mono HB2.out.size)⟩
theorem walk (w : World) (s0 : Option Addr) (len0 cap0 : Nat) (z0 : List Int) (h : IsRow .u8 w s0 len0 cap0 z0) :
    Calls Try.prog 3 #[.slice s0 len0 cap0] w fun e w' => e = .returned (.bool true) ∧ Below w.heap.size w w' := by
  by_cases hl : len0 ≤ 263144
  · obtain ⟨e, ha⟩ := h.arg (by omega)
    have k := core w _ _ ha (by omega)
    exact k
  · have hl2 : (263144 : Int) < (len0 : Int) := by omega
    have HBR : Hid (Below w.heap.size w w) := Below.refl _ _
    have hlm : len0 ≤ 9223372036854775807 := by
      rcases h with ⟨_, rfl, _⟩ | ⟨_, _, h1, h2, _⟩
      · omega
      · unfold maxLen at h2; omega
    clear h
    go_enter Try.func3, Try.ntmps3
    go_wp2
    go_ret
    exact ⟨rfl, HBR.out⟩
theorem own : ownKnob Try.prog.godebug = none := by kernel_rfl
theorem laidOut : laidOutB Try.prog = true := by kernel_rfl
set_option maxRecDepth 100000 in
theorem lifted (os : Os) (started : os.Started) (H : Type) (enc : TypeId × Value → H) :
    ReturnsInHanded {} Try.checked os 3 .any (Rows.zipListsSpec.pre6 enc Try.prog Try.f3 Rows.zipListsRow.domain false) (Rows.zipListsSpec.post enc Try.prog Try.f3 false true false false) := by
  refine returnsInHanded_of_change (C := Try.checked) own started (by kernel_rfl) Try.func3
    (ChangeSpec.witness6 (enc := enc) (C := Try.checked) false ⟨#[], #[.slice none 0 0], []⟩ 8 (by kernel_rfl) (by kernel_rfl) (by kernel_rfl) (by kernel_rfl)) ?_
  intro W base args ds gs before hval0 hW hcnd _
  have hval : ∀ (j : Nat) t v, Try.f3.params[j]? = some t → args[j]? = some v → Value.okWide Try.prog W .any base t v := hval0
  have hW' := hW
  obtain ⟨p, q, hA0, hV, rfl, hfz, hnd⟩ := hW
  have hA : DataW.TrodAll enc Try.prog W 0 (fun _ => true) true Try.f3.params.toList args.toList ds p := hA0
  rw [Try.params3] at hA hval
  obtain ⟨v0, vs0, d0, ds0, p0, q0, hargs, rfl, rfl, h0, r0⟩ := trodAll_cons hA
  obtain ⟨rfl, rfl, rfl⟩ := trodAll_nil r0
  obtain rfl : args = #[v0] := by cases args; simp_all
  obtain ⟨rfl, rfl⟩ := trodVars_none hV
  have k0 := h0
  have lt0 : ∀ x ∈ p0, x.block < W.heap.size := by obtain ⟨m, hm⟩ := k0; exact DataW.trod_lt m _ _ _ hm
  obtain ⟨s0, len0, cap0, rfl⟩ := okWide_slice Try.underlying22 (hval 0 22 v0 rfl rfl)
  obtain ⟨z0, w0⟩ : ∃ zs, IsRow .u8 W s0 len0 cap0 zs := by
    obtain ⟨fuel, hf⟩ := h0
    rcases open_ints Try.underlying22 Try.underlying5 (by kernel_rfl) hf with ⟨hcs, _⟩ | ⟨x, l, c, zs, hcs, _, hl, hm, hz, _, hcell, hwz⟩
    · simp [Value.cells] at hcs
      obtain ⟨rfl, rfl, rfl⟩ := hcs
      exact ⟨[], .inl ⟨rfl, rfl, rfl, rfl⟩⟩
    · simp [Value.cells] at hcs
      obtain ⟨rfl, rfl, rfl⟩ := hcs
      exact ⟨zs, .inr ⟨_, rfl, hl, hm, by simpa using hz, hcell, hwz⟩⟩
  clear hA0 hval0
  refine (walk W s0 len0 cap0 z0 w0).mono fun e W' ⟨he, bel⟩ => ?_
  subst he
  exact ⟨_, rfl, _, _, _, [], _, [], hW', trodAll_mk1 (shut_bool Try.underlying4 _), (trodAll_cons_mk (Below.trod laidOut (by kernel_rfl) (of_decide_eq_true (by kernel_rfl)) k0 bel lt0) trodAll_mk0), rfl, bel.frame _, fun h => by cases h⟩

theorem over : Rows.zipListsRow.holds Try.pinned (OpenSpec.ofChange Rows.zipListsSpec) :=
  OpenClaim.holds_of_wide 3 Try.f3 rfl rfl rfl rfl rfl rfl rfl ⟨rfl, rfl, rfl, rfl, rfl⟩ rfl rfl rfl rfl rfl (by kernel_rfl) Try.func3 (by kernel_rfl)
    (of_decide_eq_true (by kernel_rfl)) (by unfold Func.isWrapper; first | (rw [if_pos (by decide +kernel)]; kernel_rfl) | (rw [if_neg (by decide +kernel)]; exact ⟨rfl, rfl⟩))
    (fun os started H enc _ => lifted os started H enc)
end LZipLists
theorem ZipLists_proved : Rows.ZipListsSaid := LZipLists.over
end Go.Proofs.Ytegcdddfccmljaa
