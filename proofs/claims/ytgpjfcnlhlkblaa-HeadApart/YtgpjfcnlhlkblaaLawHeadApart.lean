
/-
  HeadApart returns true for every row of bytes, and the row reads afterwards as it read before: no condition.
-/
import Derived.Test.YtgpjfcnlhlkblaaRows
import Derived.Test.YtgpjfcnlhlkblaaHdP
import Derived.WalkKit
import Derived.ProofKit
import Derived.OpenShut
import Derived.ShutString
import Derived.ChangeOld
import Derived.Below
set_option linter.unusedVariables false
namespace Go.Proofs.Ytgpjfcnlhlkblaa
namespace LHeadApart
open Go.ChangeShapes Go.WideShapes Go.ChangeAt Go.RowKit Go.PlainAid Go.Sort
set_option maxHeartbeats 4000000 in
set_option maxRecDepth 20000 in
theorem core (w : World) (v : Value) (l : List UInt8) (h : Arg w v l) (hl : l.length ≤ 262144) :
    Calls Try.prog 6 #[v] w fun e w' => e = .returned (.bool true) ∧ Below w.heap.size w w' := by
  have HA := hide h
  have hP := head_Parse w v l h (by omega)
  have HPO := hide (fun hd => parse_ok (l := l) (h := hd))
  have HPE := hide (fun k => parse_err (l := l) (k := k))
  obtain ⟨a, cap, rfl, _⟩ := h.isSlice
  generalize parseZ l = O at *
  obtain ⟨n, hn⟩ : ∃ n, l.length = n := ⟨_, rfl⟩
  rw [hn] at hl hP HPO HA ⊢
  have hnI : ¬ (262144 : Int) < (n : Int) := by omega
  clear h hn
  go_enter Try.func6, Try.ntmps6
  go_wp2_with fail
  refine hP.mono ?_
  rintro e w1 ⟨hE, hb1⟩
  have HB1 := hide hb1
  clear hP hb1
  cases O with
  | error k =>
    have hE' : e = _ := hE
    subst hE'
    have HB2 : Hid (Below w.heap.size w (w1.alloc (.cells zeroHd.toArray 37))) := HB1.out.alloc HB1.out.size _
    have hAl := alive08 (w1.alloc (.cells zeroHd.toArray 37))
    have hk : ((k : Int) != 0) = true := by
      have := HPE.out k rfl
      simp; omega
    clear hE HPO HPE
    simp only [zeroHd, hdCells, noPh] at *
    go_wp2_with fail
    refine hAl.mono ?_
    rintro e w3 ⟨rfl, hb3⟩
    have HB3 : Hid (Below w.heap.size w w3) := HB2.out.trans (hb3.mono HB2.out.size)
    clear hAl hb3
    go_wp2
    go_ret
    exact ⟨rfl, HB3.out⟩
  | ok hd =>
    obtain ⟨hok, hph, hlen⟩ := HPO.out hd rfl
    obtain ⟨v1, rfl, hown⟩ := hE
    have hA1 := hown.arg (by omega)
    obtain ⟨a1, c1, rfl⟩ := hA1.form
    obtain ⟨m, ls, d, r⟩ := hd
    simp only at hok hph hlen hown hA1
    unfold loadsOk at hok
    rw [Bool.and_eq_true] at hok
    have hne : 0 < ls.length := by
      cases ls with
      | nil => simp at hok
      | cons p t => simp
    have HL : Hid (loadsFrom n true 0 (ls.drop 0) = true) := hok.1
    have HPH := hide hph
    have HA1 := hide hA1
    clear HPO HPE hok hph hown hA1
    have HC : Hid (Below w1.heap.size w1 (w1.alloc (.cells (hdCells m (.slice a1 ls.length c1) d r).toArray 37))) := (Below.refl _ _).alloc (Nat.le_refl _) _
    have HG2 : Hid ((w1.alloc (.cells (hdCells m (.slice a1 ls.length c1) d r).toArray 37)).heap[w1.heap.size]? = some (.cells (hdCells m (.slice a1 ls.length c1) d r).toArray 37 (0, 0))) := heap_alloc_new _ _
    have HA2 := hide (HA1.out.below HC.out)
    have HB2 : Hid (Below w.heap.size w (w1.alloc (.cells (hdCells m (.slice a1 ls.length c1) d r).toArray 37))) := HB1.out.trans (HC.out.mono HB1.out.size)
    simp only [hdCells] at *
    go_wp2
    generalize w1.alloc _ = w2 at *
    generalize w1.heap.size = q at *
    clear HC HA1 HB1
    go_loopw [5, 6, 7] (fun v5 v6 _ wr => ∃ (i E : Nat) (b : Bool), i ≤ ls.length ∧ v6 = .int .i64 i ∧ v5 = .int .u64 E ∧ E ≤ 16384 ∧ Hid (Below w2.heap.size w2 wr) ∧ Hid (loadsFrom n b E (ls.drop i) = true) ∧ Hid (∀ j, i = j + 1 → ∃ p, ls[j]? = some p ∧ E = endN p ∧ endN p % 256 = 0)) (fun _ v6 _ _ => ls.length - (intOf v6).toNat)
    case atStart => exact ⟨0, 0, true, by omega, rfl, rfl, by omega, Below.refl _ _, HL, fun j h => by omega⟩
    case round =>
      obtain ⟨i, E, b, hi, rfl, rfl, hE, HW, HF, HLast⟩ := hrel
      have HGr := hide (block_stay HG2.out HW.out)
      by_cases hlt : i < ls.length
      · have hltI : (i : Int) < (ls.length : Int) := by omega
        obtain ⟨g, rfl, hc1, hc2, hg, y0, y1, y2, y3, y4, y5, y6⟩ := (HA2.out.below HW.out).at i hlt
        have hokp := HPH.out ls[i] (List.getElem_mem hlt)
        have hget : ls[i]? = some ls[i] := List.getElem?_eq_getElem hlt
        have hF := HF.out
        rw [List.drop_eq_getElem_cons hlt, loadsFrom] at hF
        split at hF
        rotate_left
        · cases hF
        rename_i hcond
        obtain ⟨hpo, hva, _⟩ := hcond
        obtain ⟨f1, f2, f3, f4, f5, ⟨x, y, f6, f7, f8⟩, f9⟩ := part_facts hpo hva hl
        have HEn := hide (fun W => head_End W ls[i] hokp)
        obtain ⟨EN, hEN⟩ : ∃ EN, endN ls[i] = EN := ⟨_, rfl⟩
        rw [hEN] at f5 f6 f9 HEn
        have HF2 : Hid (loadsFrom n false EN (ls.drop (i + 1)) = true) := by rw [Hid, ← hEN]; exact hF
        have HL2 : Hid (∀ j, i + 1 = j + 1 → ∃ p, ls[j]? = some p ∧ EN = endN p ∧ endN p % 256 = 0) := fun j hj => ⟨ls[i], by rw [← hget]; congr 1; omega, hEN.symm, by rw [hEN]; exact f5⟩
        have hms := hokp.memsz
        clear HF hF HLast hEN hpo hokp hget
        generalize ls[i] = p at *
        obtain ⟨ty, fl, off, va, fs, ms, al⟩ := p
        simp only [Ph.cells] at *
        have z1 := cells_of_block HGr.out 1 _ rfl
        have HB3 : Hid (Below w2.heap.size w2 (wr.alloc (.cells #[.int .u32 ty, .int .u32 fl, .int .u64 off, .int .u64 va, .int .u64 fs, .int .u64 ms, .int .u64 al] 32))) := HW.out.alloc HW.out.size _
        have ec : ∀ k u, (Ph.cells ⟨ty, fl, off, va, fs, ms, al⟩)[k]? = some u → (wr.alloc (.cells #[.int .u32 ty, .int .u32 fl, .int .u64 off, .int .u64 va, .int .u64 fs, .int .u64 ms, .int .u64 al] 32)).cell? ⟨wr.heap.size, k, none⟩ = some u := fun k u hu => by
          rw [World.cell?_alloc_at _ _ _ _ (by simp)]; simpa [Ph.cells] using hu
        have HEC := hide ec
        have d1 : decide (va < E) = false := decide_eq_false hva
        have d2 : ((va : Int).tmod 256 != 0) = false := by rw [Int.tmod_eq_emod_of_nonneg (by omega)]; simp; omega
        have d3 : ((EN : Int).tmod 256 != 0) = false := by rw [Int.tmod_eq_emod_of_nonneg (by omega)]; simp; omega
        have d2' : ((va : Int) % 256 != 0) = false := by simp; omega
        have d3' : ((EN : Int) % 256 != 0) = false := by simp; omega
        have wx : IntKind.u64.wrap ((EN : Int) - (va : Int)) = (x : Int) := by rw [IntKind.wrap_u64]; omega
        have wy : IntKind.u64.wrap ((x : Int) - (ms : Int)) = (y : Int) := by rw [IntKind.wrap_u64]; omega
        have d4 : decide (x < ms) = false := decide_eq_false (by omega)
        have d5 : decide (256 ≤ y) = false := decide_eq_false (by omega)
        have d5' : decide ((256 : Int) ≤ (y : Int)) = false := decide_eq_false (by omega)
        have HN := hide (And.intro f2 (And.intro f3 f4))
        clear f1 f2 f3 f4 f5 f6 f7 f8 hms hva ec
        go_wp2_with fail
        try simp only [List.append_eq, List.cons_append, List.nil_append]
        refine wp_region_quiet_below (by kernel_rfl) (by kernel_rfl) ?_
        have e0 := cell_regrown (HEC.out 0 _ rfl)
        have e1 := cell_regrown (HEC.out 1 _ rfl)
        have e2 := cell_regrown (HEC.out 2 _ rfl)
        have e3 := cell_regrown (HEC.out 3 _ rfl)
        have e4 := cell_regrown (HEC.out 4 _ rfl)
        have e5 := cell_regrown (HEC.out 5 _ rfl)
        have e6 := cell_regrown (HEC.out 6 _ rfl)
        repeat (go_big_quiet_step (exact Calls.regrown_of (HEn.out _)))
        refine wpQuiet_nil ?_
        intro _ hwq
        obtain ⟨⟨dq, osq⟩, hwq2⟩ := hwq
        subst hwq2
        have HB4 : Hid (Below w2.heap.size w2 (grow (redrawn (wr.alloc (.cells #[.int .u32 ty, .int .u32 fl, .int .u64 off, .int .u64 va, .int .u64 fs, .int .u64 ms, .int .u64 al] 32)) dq) osq)) := HB3.out.trans ((below_regrown _ dq osq).mono HB3.out.size)
        have u0 := e0 dq osq
        have u1 := e1 dq osq
        have u2 := e2 dq osq
        have u3 := e3 dq osq
        have u4 := e4 dq osq
        have u5 := e5 dq osq
        have u6 := e6 dq osq
        clear e0 e1 e2 e3 e4 e5 e6 HEC HB3 d1 d2 d3 d2' d3' wx wy d4 d5 d5'
        generalize grow _ _ = w3 at *
        obtain ⟨f2, f3, f4⟩ := HN.out
        have k1 : decide (n < off) = false := decide_eq_false (by omega)
        have k2 : decide ((n : Int) - (off : Int) < (fs : Int)) = false := decide_eq_false (by omega)
        have k3 : decide (ms < fs) = false := decide_eq_false (by omega)
        have k4 : (off : Int) ≤ (n : Int) := by omega
        have hEn := HEn.out w3
        clear f2 f3 f4 HN
        go_wp2_with fail
        refine hEn.mono ?_
        rintro e w4 ⟨rfl, hb4⟩
        have HB5 : Hid (Below w2.heap.size w2 w4) := HB4.out.trans (hb4.mono HB4.out.size)
        clear hEn hb4 k1 k2 k3 k4 u0 u1 u2 u3 u4 u5 u6
        go_wp2
        go_roundw
        case rel => exact ⟨i + 1, EN, false, by omega, by go_num, rfl, by omega, HB5, HF2, HL2⟩
        case measure => simp [intOf]; omega
      · have hltI : ¬ (i : Int) < (ls.length : Int) := by omega
        have he : i = ls.length := by omega
        subst he
        obtain ⟨p, hp1, hp2, hp3⟩ := HLast.out (ls.length - 1) (by omega)
        have hsp := ls_last ls (ls.length - 1) p (by omega) hp1
        have hS := head_Span wr m _ d r ls (HA2.out.below HW.out) HPH.out
        have HSP := hide (fun W hW => head_Span W m (.slice a1 ls.length c1) d r ls hW HPH.out)
        generalize spanN ls = sp at *
        have s1 : ((E : Int) == (sp : Int) * 256) = true := by simp; omega
        have s2 : sp ≤ 64 := by omega
        have s3 : decide ((sp : Int) ≤ 64) = true := decide_eq_true (by omega)
        have s4 : (sp : Int) ≤ 64 := by omega
        have hne1 : (0 : Int) < (ls.length : Int) := by omega
        have hne2 : decide ((0 : Int) < (ls.length : Int)) = true := decide_eq_true hne1
        have z0 := cells_of_block HGr.out 0 _ rfl
        have z1 := cells_of_block HGr.out 1 _ rfl
        have z2 := cells_of_block HGr.out 2 _ rfl
        have z3 := cells_of_block HGr.out 3 _ rfl
        have z4 := cells_of_block HGr.out 4 _ rfl
        have z5 := cells_of_block HGr.out 5 _ rfl
        have z6 := cells_of_block HGr.out 6 _ rfl
        have z7 := cells_of_block HGr.out 7 _ rfl
        have z8 := cells_of_block HGr.out 8 _ rfl
        have z9 := cells_of_block HGr.out 9 _ rfl
        have z10 := cells_of_block HGr.out 10 _ rfl
        have z11 := cells_of_block HGr.out 11 _ rfl
        have z12 := cells_of_block HGr.out 12 _ rfl
        have z13 := cells_of_block HGr.out 13 _ rfl
        have z14 := cells_of_block HGr.out 14 _ rfl
        have z15 := cells_of_block HGr.out 15 _ rfl
        clear hp1 hp2 hp3 hsp HLast HF
        simp only [hdCells] at hS HSP
        go_wp2_with fail
        refine hS.mono ?_
        rintro e w3 ⟨rfl, hb3⟩
        have HB3 : Hid (Below w2.heap.size w2 w3) := HW.out.trans (hb3.mono HW.out.size)
        have HG3 := hide (block_stay HGr.out hb3)
        have hS2 := HSP.out w3 (HA2.out.below HB3.out)
        clear z0 z1 z2 z3 z4 z5 z6 z7 z8 z9 z10 z11 z12 z13 z14 z15 hS hb3
        have z0 := cells_of_block HG3.out 0 _ rfl
        have z1 := cells_of_block HG3.out 1 _ rfl
        have z2 := cells_of_block HG3.out 2 _ rfl
        have z3 := cells_of_block HG3.out 3 _ rfl
        have z4 := cells_of_block HG3.out 4 _ rfl
        have z5 := cells_of_block HG3.out 5 _ rfl
        have z6 := cells_of_block HG3.out 6 _ rfl
        have z7 := cells_of_block HG3.out 7 _ rfl
        have z8 := cells_of_block HG3.out 8 _ rfl
        have z9 := cells_of_block HG3.out 9 _ rfl
        have z10 := cells_of_block HG3.out 10 _ rfl
        have z11 := cells_of_block HG3.out 11 _ rfl
        have z12 := cells_of_block HG3.out 12 _ rfl
        have z13 := cells_of_block HG3.out 13 _ rfl
        have z14 := cells_of_block HG3.out 14 _ rfl
        have z15 := cells_of_block HG3.out 15 _ rfl
        go_wp2_with fail
        refine hS2.mono ?_
        rintro e w4 ⟨rfl, hb4⟩
        have HB4 : Hid (Below w2.heap.size w2 w4) := HB3.out.trans (hb4.mono HB3.out.size)
        have hAl := alive08 w4
        clear z0 z1 z2 z3 z4 z5 z6 z7 z8 z9 z10 z11 z12 z13 z14 z15 hS2 hb4
        go_wp2_with fail
        refine hAl.mono ?_
        rintro e w5 ⟨rfl, hb5⟩
        have HB5 : Hid (Below w2.heap.size w2 w5) := HB4.out.trans (hb5.mono HB4.out.size)
        clear hAl hb5
        go_wp2
        go_ret
        exact ⟨rfl, HB2.out.trans (HB5.out.mono HB2.out.size)⟩
theorem walk (w : World) (s0 : Option Addr) (len0 cap0 : Nat) (z0 : List Int) (h : IsRow .u8 w s0 len0 cap0 z0) :
    Calls Try.prog 6 #[.slice s0 len0 cap0] w fun e w' => e = .returned (.bool true) ∧ Below w.heap.size w w' := by
  by_cases hl : len0 ≤ 262144
  · obtain ⟨e, ha⟩ := h.arg (by omega)
    have k := core w _ _ ha (by omega)
    exact k
  · have hl2 : (262144 : Int) < (len0 : Int) := by omega
    have HBR : Hid (Below w.heap.size w w) := Below.refl _ _
    have hlm : len0 ≤ 9223372036854775807 := by
      rcases h with ⟨_, rfl, _⟩ | ⟨_, _, h1, h2, _⟩
      · omega
      · unfold maxLen at h2; omega
    clear h
    go_enter Try.func6, Try.ntmps6
    go_wp2
    go_ret
    exact ⟨rfl, HBR.out⟩
theorem own : ownKnob Try.prog.godebug = none := by kernel_rfl
theorem laidOut : laidOutB Try.prog = true := by kernel_rfl
set_option maxRecDepth 100000 in
theorem lifted (os : Os) (started : os.Started) (H : Type) (enc : TypeId × Value → H) :
    ReturnsInHanded {} Try.checked os 6 .any (Rows.headApartSpec.pre6 enc Try.prog Try.f6 Rows.headApartRow.domain false) (Rows.headApartSpec.post enc Try.prog Try.f6 false true false false) := by
  refine returnsInHanded_of_change (C := Try.checked) own started (by kernel_rfl) Try.func6
    (ChangeSpec.witness6 (enc := enc) (C := Try.checked) false ⟨#[], #[.slice none 0 0], []⟩ 8 (by kernel_rfl) (by kernel_rfl) (by kernel_rfl) (by kernel_rfl)) ?_
  intro W base args ds gs before hval0 hW hcnd _
  have hval : ∀ (j : Nat) t v, Try.f6.params[j]? = some t → args[j]? = some v → Value.okWide Try.prog W .any base t v := hval0
  have hW' := hW
  obtain ⟨p, q, hA0, hV, rfl, hfz, hnd⟩ := hW
  have hA : DataW.TrodAll enc Try.prog W 0 (fun _ => true) true Try.f6.params.toList args.toList ds p := hA0
  rw [Try.params6] at hA hval
  obtain ⟨v0, vs0, d0, ds0, p0, q0, hargs, rfl, rfl, h0, r0⟩ := trodAll_cons hA
  obtain ⟨rfl, rfl, rfl⟩ := trodAll_nil r0
  obtain rfl : args = #[v0] := by cases args; simp_all
  obtain ⟨rfl, rfl⟩ := trodVars_none hV
  have k0 := h0
  have lt0 : ∀ x ∈ p0, x.block < W.heap.size := by obtain ⟨m, hm⟩ := k0; exact DataW.trod_lt m _ _ _ hm
  obtain ⟨s0, len0, cap0, rfl⟩ := okWide_slice Try.underlying22 (hval 0 22 v0 rfl rfl)
  obtain ⟨z0, w0⟩ : ∃ zs, IsRow .u8 W s0 len0 cap0 zs := by
    obtain ⟨fuel, hf⟩ := h0
    rcases open_ints Try.underlying22 Try.underlying5 (by kernel_rfl) hf with ⟨hcs, _⟩ | ⟨x, l, c, zs, hcs, _, hl, hm, hz, _, hcell, hwz⟩
    · simp [Value.cells] at hcs
      obtain ⟨rfl, rfl, rfl⟩ := hcs
      exact ⟨[], .inl ⟨rfl, rfl, rfl, rfl⟩⟩
    · simp [Value.cells] at hcs
      obtain ⟨rfl, rfl, rfl⟩ := hcs
      exact ⟨zs, .inr ⟨_, rfl, hl, hm, by simpa using hz, hcell, hwz⟩⟩
  clear hA0 hval0
  refine (walk W s0 len0 cap0 z0 w0).mono fun e W' ⟨he, bel⟩ => ?_
  subst he
  exact ⟨_, rfl, _, _, _, [], _, [], hW', trodAll_mk1 (shut_bool Try.underlying4 _), (trodAll_cons_mk (Below.trod laidOut (by kernel_rfl) (of_decide_eq_true (by kernel_rfl)) k0 bel lt0) trodAll_mk0), rfl, bel.frame _, fun h => by cases h⟩

theorem over : Rows.headApartRow.holds Try.pinned (OpenSpec.ofChange Rows.headApartSpec) :=
  OpenClaim.holds_of_wide 6 Try.f6 rfl rfl rfl rfl rfl rfl rfl ⟨rfl, rfl, rfl, rfl, rfl⟩ rfl rfl rfl rfl rfl (by kernel_rfl) Try.func6 (by kernel_rfl)
    (of_decide_eq_true (by kernel_rfl)) (by unfold Func.isWrapper; first | (rw [if_pos (by decide +kernel)]; kernel_rfl) | (rw [if_neg (by decide +kernel)]; exact ⟨rfl, rfl⟩))
    (fun os started H enc _ => lifted os started H enc)
end LHeadApart
theorem HeadApart_proved : Rows.HeadApartSaid := LHeadApart.over
end Go.Proofs.Ytgpjfcnlhlkblaa
