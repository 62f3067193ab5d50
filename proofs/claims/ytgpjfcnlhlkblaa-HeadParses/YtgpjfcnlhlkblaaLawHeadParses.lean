
/-
  HeadParses returns true for every row of bytes, and the row reads afterwards as it read before: no condition.
-/
import Derived.Test.YtgpjfcnlhlkblaaRows
import Derived.Test.YtgpjfcnlhlkblaaHdX
import Derived.WalkKit
import Derived.ProofKit
import Derived.OpenShut
import Derived.ShutString
import Derived.ChangeOld
import Derived.Below
set_option linter.unusedVariables false
namespace Go.Proofs.Ytgpjfcnlhlkblaa
namespace LHeadParses
open Go.ChangeShapes Go.WideShapes Go.ChangeAt Go.RowKit Go.PlainAid Go.Sort
set_option maxHeartbeats 4000000 in
set_option maxRecDepth 20000 in
theorem core (w : World) (v : Value) (l : List UInt8) (h : Arg w v l) (hl : l.length ≤ 262144) :
    Calls Try.prog 4 #[v] w fun e w' => e = .returned (.bool true) ∧ Below w.heap.size w w' := by
  have HA := hide h
  have hP := head_Parse w v l h (by omega)
  have HR := hide (fun W hW => ref8_Parse W v l hW (by omega))
  have HPL := hide (pL_len l)
  obtain ⟨a, cap, rfl, _⟩ := h.isSlice
  generalize parseZ l = O at *
  obtain ⟨n, hn⟩ : ∃ n, l.length = n := ⟨_, rfl⟩
  rw [hn] at hl hP HR HA ⊢
  have hnI : ¬ (262144 : Int) < (n : Int) := by omega
  clear h hn
  go_enter Try.func4, Try.ntmps4
  go_wp2_with fail
  refine hP.mono ?_
  rintro e w2 ⟨hE, hb2⟩
  obtain ⟨v2, rfl, hA2⟩ := parse_get hE HPL.out
  have HB2 := hide hb2
  have HAb := hide (HA.out.below' hb2)
  obtain ⟨a2, c2, rfl⟩ := hA2.form
  have HV2 := hide hA2
  clear hP hb2 hE hA2 HA
  generalize hpm : pM O = m at *
  generalize hpd : pD O = d at *
  generalize hpr : pR O = r at *
  generalize hpe : pE O = q at *
  generalize hpl : pL O = ls at *
  have HM := hide (And.intro hpm (And.intro hpd (And.intro hpr (And.intro hpe hpl))))
  clear hpm hpd hpr hpe hpl
  have HC : Hid (Below w2.heap.size w2 (w2.alloc (.cells (hdCells m (.slice a2 ls.length c2) d r).toArray 37))) := (Below.refl _ _).alloc (Nat.le_refl _) _
  have HG : Hid ((w2.alloc (.cells (hdCells m (.slice a2 ls.length c2) d r).toArray 37)).heap[w2.heap.size]? = some (.cells (hdCells m (.slice a2 ls.length c2) d r).toArray 37 (0, 0))) := heap_alloc_new _ _
  have HB3 : Hid (Below w.heap.size w (w2.alloc (.cells (hdCells m (.slice a2 ls.length c2) d r).toArray 37))) := HB2.out.alloc HB2.out.size _
  have HV3 := hide (HV2.out.below HC.out)
  have hP2 := HR.out (w2.alloc (.cells (hdCells m (.slice a2 ls.length c2) d r).toArray 37)) (HAb.out.below' HC.out)
  simp only [hdCells] at *
  go_wp2_with fail
  generalize w2.alloc _ = w5 at *
  refine hP2.mono ?_
  rintro e w6 ⟨hE, hb6⟩
  obtain ⟨o1, o2, o3, o4, o5⟩ := HM.out
  obtain ⟨v6, rfl, hA6⟩ := parse_get hE (by rw [o5]; exact HPL.out)
  rw [o1, o2, o3, o4]
  rw [o5] at hA6
  have HB6 : Hid (Below w.heap.size w w6) := HB3.out.trans (hb6.mono HB3.out.size)
  have HG6 := hide (block_stay HG.out hb6)
  have HV5 := hide (HV3.out.below hb6)
  obtain ⟨a6, c6, rfl⟩ := hA6.form
  have HV6 := hide hA6
  clear hP2 hb6 hE hA6 HB3 HG o1 o2 o3 o4 o5 HM HR HC HAb HV2 HV3
  have HD : Hid (Below w6.heap.size w6 (w6.alloc (.cells (hdCells m (.slice a6 ls.length c6) d r).toArray 37))) := (Below.refl _ _).alloc (Nat.le_refl _) _
  have HB7 : Hid (Below w.heap.size w (w6.alloc (.cells (hdCells m (.slice a6 ls.length c6) d r).toArray 37))) := HB6.out.alloc HB6.out.size _
  have HG7 := hide (block_stay HG6.out HD.out)
  have HK7 : Hid ((w6.alloc (.cells (hdCells m (.slice a6 ls.length c6) d r).toArray 37)).heap[w6.heap.size]? = some (.cells (hdCells m (.slice a6 ls.length c6) d r).toArray 37 (0, 0))) := heap_alloc_new _ _
  have hV2 := HV5.out.below HD.out
  have hV6 := HV6.out.below HD.out
  have hS := ref8_Same (w6.alloc (.cells (hdCells m (.slice a6 ls.length c6) d r).toArray 37)) m _ _ d r ls hV2 hV6
  have hqq : ((q : Int) == (q : Int)) = true := by simp
  have x0 := cells_of_block HG7.out 0 _ rfl
  have x1 := cells_of_block HG7.out 1 _ rfl
  have x2 := cells_of_block HG7.out 2 _ rfl
  have x3 := cells_of_block HG7.out 3 _ rfl
  have x4 := cells_of_block HG7.out 4 _ rfl
  have x5 := cells_of_block HG7.out 5 _ rfl
  have x6 := cells_of_block HG7.out 6 _ rfl
  have x7 := cells_of_block HG7.out 7 _ rfl
  have x8 := cells_of_block HG7.out 8 _ rfl
  have x9 := cells_of_block HG7.out 9 _ rfl
  have x10 := cells_of_block HG7.out 10 _ rfl
  have x11 := cells_of_block HG7.out 11 _ rfl
  have x12 := cells_of_block HG7.out 12 _ rfl
  have x13 := cells_of_block HG7.out 13 _ rfl
  have x14 := cells_of_block HG7.out 14 _ rfl
  have x15 := cells_of_block HG7.out 15 _ rfl
  have y0 := cells_of_block HK7.out 0 _ rfl
  have y1 := cells_of_block HK7.out 1 _ rfl
  have y2 := cells_of_block HK7.out 2 _ rfl
  have y3 := cells_of_block HK7.out 3 _ rfl
  have y4 := cells_of_block HK7.out 4 _ rfl
  have y5 := cells_of_block HK7.out 5 _ rfl
  have y6 := cells_of_block HK7.out 6 _ rfl
  have y7 := cells_of_block HK7.out 7 _ rfl
  have y8 := cells_of_block HK7.out 8 _ rfl
  have y9 := cells_of_block HK7.out 9 _ rfl
  have y10 := cells_of_block HK7.out 10 _ rfl
  have y11 := cells_of_block HK7.out 11 _ rfl
  have y12 := cells_of_block HK7.out 12 _ rfl
  have y13 := cells_of_block HK7.out 13 _ rfl
  have y14 := cells_of_block HK7.out 14 _ rfl
  have y15 := cells_of_block HK7.out 15 _ rfl
  simp only [hdCells] at *
  as_aux_lemma =>
    go_wp2_with fail
    refine hS.mono ?_
    rintro e w8 ⟨rfl, hb8⟩
    have HB8 : Hid (Below w.heap.size w w8) := HB7.out.trans (hb8.mono HB7.out.size)
    have hAl := alive08 w8
    clear hS hb8 x0 y0 x1 y1 x2 y2 x3 y3 x4 y4 x5 y5 x6 y6 x7 y7 x8 y8 x9 y9 x10 y10 x11 y11 x12 y12 x13 y13 x14 y14 x15 y15 hV2 hV6
    go_wp2_with fail
    refine hAl.mono ?_
    rintro e w9 ⟨rfl, hb9⟩
    have HB9 : Hid (Below w.heap.size w w9) := HB8.out.trans (hb9.mono HB8.out.size)
    clear hAl hb9
    go_wp2
    go_ret
    exact ⟨rfl, HB9.out⟩
theorem walk (w : World) (s0 : Option Addr) (len0 cap0 : Nat) (z0 : List Int) (h : IsRow .u8 w s0 len0 cap0 z0) :
    Calls Try.prog 4 #[.slice s0 len0 cap0] w fun e w' => e = .returned (.bool true) ∧ Below w.heap.size w w' := by
  by_cases hl : len0 ≤ 262144
  · obtain ⟨e, ha⟩ := h.arg (by omega)
    have k := core w _ _ ha (by omega)
    exact k
  · have hl2 : (262144 : Int) < (len0 : Int) := by omega
    have HBR : Hid (Below w.heap.size w w) := Below.refl _ _
    have hlm : len0 ≤ 9223372036854775807 := by
      rcases h with ⟨_, rfl, _⟩ | ⟨_, _, h1, h2, _⟩
      · omega
      · unfold maxLen at h2; omega
    clear h
    go_enter Try.func4, Try.ntmps4
    go_wp2
    go_ret
    exact ⟨rfl, HBR.out⟩
theorem own : ownKnob Try.prog.godebug = none := by kernel_rfl
theorem laidOut : laidOutB Try.prog = true := by kernel_rfl
set_option maxRecDepth 100000 in
theorem lifted (os : Os) (started : os.Started) (H : Type) (enc : TypeId × Value → H) :
    ReturnsInHanded {} Try.checked os 4 .any (Rows.headParsesSpec.pre6 enc Try.prog Try.f4 Rows.headParsesRow.domain false) (Rows.headParsesSpec.post enc Try.prog Try.f4 false true false false) := by
  refine returnsInHanded_of_change (C := Try.checked) own started (by kernel_rfl) Try.func4
    (ChangeSpec.witness6 (enc := enc) (C := Try.checked) false ⟨#[], #[.slice none 0 0], []⟩ 8 (by kernel_rfl) (by kernel_rfl) (by kernel_rfl) (by kernel_rfl)) ?_
  intro W base args ds gs before hval0 hW hcnd _
  have hval : ∀ (j : Nat) t v, Try.f4.params[j]? = some t → args[j]? = some v → Value.okWide Try.prog W .any base t v := hval0
  have hW' := hW
  obtain ⟨p, q, hA0, hV, rfl, hfz, hnd⟩ := hW
  have hA : DataW.TrodAll enc Try.prog W 0 (fun _ => true) true Try.f4.params.toList args.toList ds p := hA0
  rw [Try.params4] at hA hval
  obtain ⟨v0, vs0, d0, ds0, p0, q0, hargs, rfl, rfl, h0, r0⟩ := trodAll_cons hA
  obtain ⟨rfl, rfl, rfl⟩ := trodAll_nil r0
  obtain rfl : args = #[v0] := by cases args; simp_all
  obtain ⟨rfl, rfl⟩ := trodVars_none hV
  have k0 := h0
  have lt0 : ∀ x ∈ p0, x.block < W.heap.size := by obtain ⟨m, hm⟩ := k0; exact DataW.trod_lt m _ _ _ hm
  obtain ⟨s0, len0, cap0, rfl⟩ := okWide_slice Try.underlying22 (hval 0 22 v0 rfl rfl)
  obtain ⟨z0, w0⟩ : ∃ zs, IsRow .u8 W s0 len0 cap0 zs := by
    obtain ⟨fuel, hf⟩ := h0
    rcases open_ints Try.underlying22 Try.underlying5 (by kernel_rfl) hf with ⟨hcs, _⟩ | ⟨x, l, c, zs, hcs, _, hl, hm, hz, _, hcell, hwz⟩
    · simp [Value.cells] at hcs
      obtain ⟨rfl, rfl, rfl⟩ := hcs
      exact ⟨[], .inl ⟨rfl, rfl, rfl, rfl⟩⟩
    · simp [Value.cells] at hcs
      obtain ⟨rfl, rfl, rfl⟩ := hcs
      exact ⟨zs, .inr ⟨_, rfl, hl, hm, by simpa using hz, hcell, hwz⟩⟩
  clear hA0 hval0
  refine (walk W s0 len0 cap0 z0 w0).mono fun e W' ⟨he, bel⟩ => ?_
  subst he
  exact ⟨_, rfl, _, _, _, [], _, [], hW', trodAll_mk1 (shut_bool Try.underlying4 _), (trodAll_cons_mk (Below.trod laidOut (by kernel_rfl) (of_decide_eq_true (by kernel_rfl)) k0 bel lt0) trodAll_mk0), rfl, bel.frame _, fun h => by cases h⟩

theorem over : Rows.headParsesRow.holds Try.pinned (OpenSpec.ofChange Rows.headParsesSpec) :=
  OpenClaim.holds_of_wide 4 Try.f4 rfl rfl rfl rfl rfl rfl rfl ⟨rfl, rfl, rfl, rfl, rfl⟩ rfl rfl rfl rfl rfl (by kernel_rfl) Try.func4 (by kernel_rfl)
    (of_decide_eq_true (by kernel_rfl)) (by unfold Func.isWrapper; first | (rw [if_pos (by decide +kernel)]; kernel_rfl) | (rw [if_neg (by decide +kernel)]; exact ⟨rfl, rfl⟩))
    (fun os started H enc _ => lifted os started H enc)
end LHeadParses
theorem HeadParses_proved : Rows.HeadParsesSaid := LHeadParses.over
end Go.Proofs.Ytgpjfcnlhlkblaa
