
/-
  HeadPlaces returns true for every row of bytes, every place and every size, and the row reads afterwards as it read before: no condition.
-/
import Derived.Test.YtgpjfcnlhlkblaaRows
import Derived.Test.YtgpjfcnlhlkblaaHdX
import Derived.WalkKit
import Derived.ProofKit
import Derived.OpenShut
import Derived.ShutString
import Derived.ChangeOld
import Derived.Below
set_option linter.unusedVariables false
namespace Go.Proofs.Ytgpjfcnlhlkblaa
namespace LHeadPlaces
open Go.ChangeShapes Go.WideShapes Go.ChangeAt Go.RowKit Go.PlainAid Go.Sort
set_option maxHeartbeats 8000000 in
set_option maxRecDepth 20000 in
theorem core (w : World) (v : Value) (l : List UInt8) (h : Arg w v l) (hl : l.length ≤ 262144) (x s : Nat) (hx : x < 18446744073709551616) (hs : s < 18446744073709551616) :
    Calls Try.prog 5 #[v, .int .u64 x, .int .u64 s] w fun e w' => e = .returned (.bool true) ∧ Below w.heap.size w w' := by
  have HA := hide h
  have hP := ref8_Parse w v l h (by omega)
  have HPO := hide (fun hd => parse_ok (l := l) (h := hd))
  have HPE := hide (fun k => parse_err (l := l) (k := k))
  have HPS := hide (fun hd (e : parseZ l = .ok hd) => parse_small e hl)
  obtain ⟨a, cap, rfl, _⟩ := h.isSlice
  generalize parseZ l = O at *
  obtain ⟨n, hn⟩ : ∃ n, l.length = n := ⟨_, rfl⟩
  have HN := hide hn
  rw [hn] at hl hP HPO HA ⊢
  have hnI : ¬ (262144 : Int) < (n : Int) := by omega
  clear h hn
  go_enter Try.func5, Try.ntmps5
  go_wp2_with fail
  refine hP.mono ?_
  rintro e w1 ⟨hE, hb1⟩
  have HB1 := hide hb1
  have HA1 := hide (HA.out.below' hb1)
  clear hP hb1 HA
  cases O with
  | error k =>
    have hE' : e = _ := hE
    subst hE'
    have hk : ((k : Int) != 0) = true := by
      have := HPE.out k rfl
      simp; omega
    have HB2 : Hid (Below w.heap.size w (w1.alloc (.cells zeroHd.toArray 37))) := HB1.out.alloc HB1.out.size _
    have hAl := alive08 (w1.alloc (.cells zeroHd.toArray 37))
    clear hE HPO HPE HPS
    simp only [zeroHd, hdCells, noPh] at *
    go_wp2_with fail
    refine hAl.mono ?_
    rintro e w3 ⟨rfl, hb3⟩
    have HB3 : Hid (Below w.heap.size w w3) := HB2.out.trans (hb3.mono HB2.out.size)
    clear hAl hb3
    go_wp2
    go_ret
    exact ⟨rfl, HB3.out⟩
  | ok hd =>
    as_aux_lemma =>
      obtain ⟨_, hph, hlen⟩ := HPO.out hd rfl
      have hsm := HPS.out hd rfl
      obtain ⟨v1, rfl, hown⟩ := hE
      have hA1 := hown.arg (by omega)
      obtain ⟨a1, c1, rfl⟩ := hA1.form
      obtain ⟨m, ls, d, r⟩ := hd
      simp only at hph hlen hown hA1 hsm
      have HPH := hide hph
      have HS1 : Hid (∀ p ∈ ls, p.off + p.filesz ≤ 1000000) := fun p hp => (hsm p hp).1
      have HS2 : Hid (∀ p ∈ ls, p.vaddr + p.memsz ≤ 1000000) := fun p hp => by have := (hsm p hp).2; omega
      have HLE := hide hA1
      clear HPO HPE HPS hph hsm hown hA1
      have HC : Hid (Below w1.heap.size w1 (w1.alloc (.cells (hdCells m (.slice a1 ls.length c1) d r).toArray 37))) := (Below.refl _ _).alloc (Nat.le_refl _) _
      have HG2 : Hid ((w1.alloc (.cells (hdCells m (.slice a1 ls.length c1) d r).toArray 37)).heap[w1.heap.size]? = some (.cells (hdCells m (.slice a1 ls.length c1) d r).toArray 37 (0, 0))) := heap_alloc_new _ _
      have HA2 := hide (HLE.out.below HC.out)
      have HAb := hide (HA1.out.below' HC.out)
      have HB2 : Hid (Below w.heap.size w (w1.alloc (.cells (hdCells m (.slice a1 ls.length c1) d r).toArray 37))) := HB1.out.trans (HC.out.mono HB1.out.size)
      have hO1 := head_Off (w1.alloc (.cells (hdCells m (.slice a1 ls.length c1) d r).toArray 37)) m _ d r ls HA2.out HPH.out x s hx hs
      have HO2 := hide (fun W hW => ref8_Off W m (.slice a1 ls.length c1) d r ls hW HPH.out HS1.out x s hx hs)
      have HP1 := hide (fun W hb hW => head_Part W (.slice a n cap) l hb m (.slice a1 ls.length c1) d r ls hW HPH.out x s hx hs)
      have HP2 := hide (fun W hb hW => ref8_Part W (.slice a n cap) l hb m (.slice a1 ls.length c1) d r ls hW HPH.out HS1.out x s hx hs)
      have HI1 := hide (fun W hW => head_Inside W m (.slice a1 ls.length c1) d r ls hW HPH.out x s hx hs)
      have HI2 := hide (fun W hW => ref8_Inside W m (.slice a1 ls.length c1) d r ls hW HPH.out x s hx hs)
      have HN1 := hide (fun W hW => head_Span W m (.slice a1 ls.length c1) d r ls hW HPH.out)
      have HN2 := hide (fun W hW => ref8_Span W m (.slice a1 ls.length c1) d r ls hW HS2.out)
      obtain ⟨oo, hoo⟩ : ∃ oo, offN ls x s = oo := ⟨_, rfl⟩
      obtain ⟨pp, hpp⟩ : ∃ pp, partZ l ls x s = pp := ⟨_, rfl⟩
      have hpl : (partZ l ls x s).1.length ≤ 262144 := by
        unfold partZ
        split
        · rename_i hc
          rw [win_len _ _ _ hc.2]
          have := HN.out
          omega
        · simp
      simp only [hoo] at hO1 HO2
      simp only [hpp] at HP1 HP2 hpl
      generalize insideB ls x s = ib at *
      generalize spanN ls = sp at *
      obtain ⟨o, ob⟩ := oo
      obtain ⟨X, pb⟩ := pp
      have HXL := hide hpl
      clear hoo hpp hpl
      simp only [offV] at *
      simp only [hdCells] at *
      go_wp2_with (refine load_row rfl _ _ rfl w1.heap.size _ (load_hd HG2.out rfl) rfl ?_)
      generalize w1.alloc _ = w2 at *
      generalize w1.heap.size = q at *
      clear HC HLE HB1 HA1
      refine hO1.mono ?_
      rintro e w3 ⟨rfl, hb3⟩
      have HW3 := hide hb3
      have HG3 := hide (block_stay HG2.out hb3)
      have hO2 := HO2.out w3 (HA2.out.below hb3)
      clear hO1 hb3 HO2
      go_wp2_with (refine load_row rfl _ _ rfl q _ (load_hd HG3.out rfl) rfl ?_)
      refine hO2.mono ?_
      rintro e w4 ⟨rfl, hb4⟩
      as_aux_lemma =>
        have HW4 : Hid (Below w2.heap.size w2 w4) := HW3.out.trans (hb4.mono HW3.out.size)
        have HG4 := hide (block_stay HG3.out hb4)
        have hP1 := HP1.out w4 (HAb.out.below' HW4.out) (HA2.out.below HW4.out)
        clear hO2 hb4 HP1 HW3 HG3
        go_wp2_with (refine load_row rfl _ _ rfl q _ (load_hd HG4.out rfl) rfl ?_)
        refine hP1.mono ?_
        rintro e w5 ⟨⟨vx, rfl, hox⟩, hb5⟩
        as_aux_lemma =>
          have HW5 : Hid (Below w2.heap.size w2 w5) := HW4.out.trans (hb5.mono HW4.out.size)
          have HG5 := hide (block_stay HG4.out hb5)
          have HX5 := hide (hox.arg (by have := HXL.out; omega))
          have hP2 := HP2.out w5 (HAb.out.below' HW5.out) (HA2.out.below HW5.out)
          obtain ⟨ax, cx, rfl, _⟩ := HX5.out.isSlice
          clear hP1 hb5 HP2 HW4 HG4 hox
          go_wp2_with (refine load_row rfl _ _ rfl q _ (load_hd HG5.out rfl) rfl ?_)
          refine hP2.mono ?_
          rintro e w6 ⟨⟨vy, rfl, hoy⟩, hb6⟩
          as_aux_lemma =>
            have HW6 : Hid (Below w2.heap.size w2 w6) := HW5.out.trans (hb6.mono HW5.out.size)
            have HGr := hide (block_stay HG5.out hb6)
            have HX6 := hide (HX5.out.below' hb6)
            have HY6 := hide (hoy.arg (by have := HXL.out; omega))
            obtain ⟨ay, cy, rfl, _⟩ := HY6.out.isSlice
            clear hP2 hb6 HW5 HG5 hoy HX5
            have cvx := fun d os => (HX6.out.below' (below_regrown w6 d os)).text
            have cvy := fun d os => (HY6.out.below' (below_regrown w6 d os)).text
            have JI1 := hide (fun d os => HI1.out (grow (redrawn w6 d) os) ((HA2.out.below HW6.out).below (below_regrown w6 d os)))
            have JI2 := hide (fun d os => HI2.out (grow (redrawn w6 d) os) ((HA2.out.below HW6.out).below (below_regrown w6 d os)))
            have JN1 := hide (fun d os => HN1.out (grow (redrawn w6 d) os) ((HA2.out.below HW6.out).below (below_regrown w6 d os)))
            have JN2 := hide (fun d os => HN2.out (grow (redrawn w6 d) os) ((HA2.out.below HW6.out).below (below_regrown w6 d os)))
            have bo : ((o : Int) != (o : Int)) = false := by simp
            have bb : (ob != ob) = false := by simp
            have bp : (pb != pb) = false := by simp
            have bi : (ib != ib) = false := by simp
            have bs : ((sp : Int) != (sp : Int)) = false := by simp
            have bx : (X == X) = true := by simp
            generalize X.length = nX at *
            clear HI1 HI2 HN1 HN2 HX6 HY6
            go_wp2_with fail
            try simp only [List.append_eq, List.cons_append, List.nil_append]
            refine wp_region_quiet_below (by kernel_rfl) (by kernel_rfl) ?_
            have u0 := cell_regrown (cells_of_block HGr.out 0 _ rfl)
            have u1 := cell_regrown (cells_of_block HGr.out 1 _ rfl)
            have u2 := cell_regrown (cells_of_block HGr.out 2 _ rfl)
            have u3 := cell_regrown (cells_of_block HGr.out 3 _ rfl)
            have u4 := cell_regrown (cells_of_block HGr.out 4 _ rfl)
            have u5 := cell_regrown (cells_of_block HGr.out 5 _ rfl)
            have u6 := cell_regrown (cells_of_block HGr.out 6 _ rfl)
            have u7 := cell_regrown (cells_of_block HGr.out 7 _ rfl)
            have u8 := cell_regrown (cells_of_block HGr.out 8 _ rfl)
            have u9 := cell_regrown (cells_of_block HGr.out 9 _ rfl)
            have u10 := cell_regrown (cells_of_block HGr.out 10 _ rfl)
            have u11 := cell_regrown (cells_of_block HGr.out 11 _ rfl)
            have u12 := cell_regrown (cells_of_block HGr.out 12 _ rfl)
            have u13 := cell_regrown (cells_of_block HGr.out 13 _ rfl)
            have u14 := cell_regrown (cells_of_block HGr.out 14 _ rfl)
            have u15 := cell_regrown (cells_of_block HGr.out 15 _ rfl)
            iterate 10 (try (go_big_quiet_step (first | exact Calls.regrown_of (JI1.out _ _) | exact Calls.regrown_of (JI2.out _ _) | exact Calls.regrown_of (JN1.out _ _) | exact Calls.regrown_of (JN2.out _ _))))
            as_aux_lemma =>
              iterate 10 (try (go_big_quiet_step (first | exact Calls.regrown_of (JI1.out _ _) | exact Calls.regrown_of (JI2.out _ _) | exact Calls.regrown_of (JN1.out _ _) | exact Calls.regrown_of (JN2.out _ _))))
              as_aux_lemma =>
                iterate 10 (try (go_big_quiet_step (first | exact Calls.regrown_of (JI1.out _ _) | exact Calls.regrown_of (JI2.out _ _) | exact Calls.regrown_of (JN1.out _ _) | exact Calls.regrown_of (JN2.out _ _))))
                as_aux_lemma =>
                  iterate 10 (try (go_big_quiet_step (first | exact Calls.regrown_of (JI1.out _ _) | exact Calls.regrown_of (JI2.out _ _) | exact Calls.regrown_of (JN1.out _ _) | exact Calls.regrown_of (JN2.out _ _))))
                  refine wpQuiet_nil ?_
                  as_aux_lemma =>
                    intro _ hwq
                    obtain ⟨⟨dq, osq⟩, hwq2⟩ := hwq
                    subst hwq2
                    have HW7 : Hid (Below w2.heap.size w2 (grow (redrawn w6 dq) osq)) := HW6.out.trans ((below_regrown _ dq osq).mono HW6.out.size)
                    have HG7 := hide (block_stay HGr.out (below_regrown _ dq osq))
                    clear u0 u1 u2 u3 u4 u5 u6 u7 u8 u9 u10 u11 u12 u13 u14 u15 cvx cvy JI1 JI2 JN1 JN2 HGr HW6
                    generalize grow _ _ = w7 at *
                    go_wp2
                    go_loopw [17] (fun vi wr => ∃ i : Nat, i ≤ ls.length ∧ vi = .int .i64 i ∧ Hid (Below w7.heap.size w7 wr)) (fun vi _ => ls.length - (intOf vi).toNat)
                    case atStart => exact ⟨0, by omega, rfl, Below.refl _ _⟩
                    case round =>
                      obtain ⟨i, hi, rfl, HW⟩ := hrel
                      have HGr := hide (block_stay HG7.out HW.out)
                      have g1 := cells_of_block HGr.out 1 _ rfl
                      have HWr : Hid (Below w2.heap.size w2 wr) := HW7.out.trans (HW.out.mono HW7.out.size)
                      by_cases hlt : i < ls.length
                      · have hltI : (i : Int) < (ls.length : Int) := by omega
                        obtain ⟨g, rfl, hc1, hc2, hg, y0, y1, y2, y3, y4, y5, y6⟩ := (HA2.out.below HWr.out).at i hlt
                        have hokp := HPH.out ls[i] (List.getElem_mem hlt)
                        have hsm := HS2.out ls[i] (List.getElem_mem hlt)
                        have HE1 := hide (fun W => head_End W ls[i] hokp)
                        have HE2 := hide (fun W => ref8_End W ls[i] hsm)
                        generalize ls[i] = p at *
                        generalize endN p = E at *
                        obtain ⟨ty, fl, off, va, fs, ms, al⟩ := p
                        simp only [Ph.cells] at y0 y1 y2 y3 y4 y5 y6 HE1 HE2
                        have be : ((E : Int) != (E : Int)) = false := by simp
                        clear hokp hsm
                        go_wp2_with fail
                        try simp only [List.append_eq, List.cons_append, List.nil_append]
                        refine wp_region_quiet_below (by kernel_rfl) (by kernel_rfl) ?_
                        have e1 := cell_regrown g1
                        have x0 := cell_regrown y0
                        have x1 := cell_regrown y1
                        have x2 := cell_regrown y2
                        have x3 := cell_regrown y3
                        have x4 := cell_regrown y4
                        have x5 := cell_regrown y5
                        have x6 := cell_regrown y6
                        repeat (go_big_quiet_step (first | exact Calls.regrown_of (HE1.out _) | exact Calls.regrown_of (HE2.out _)))
                        refine wpQuiet_nil ?_
                        intro _ hwq
                        obtain ⟨⟨dq, osq⟩, hwq2⟩ := hwq
                        subst hwq2
                        have HB4 : Hid (Below w7.heap.size w7 (grow (redrawn wr dq) osq)) := HW.out.trans ((below_regrown _ dq osq).mono HW.out.size)
                        clear e1 x0 x1 x2 x3 x4 x5 x6 g1 y0 y1 y2 y3 y4 y5 y6
                        generalize grow _ _ = w8 at *
                        go_wp2
                        go_roundw
                        case rel => exact ⟨i + 1, by omega, by go_num, HB4⟩
                        case measure => simp [intOf]; omega
                      · have hltI : ¬ (i : Int) < (ls.length : Int) := by omega
                        have hAl := alive08 wr
                        go_wp2_with fail
                        refine hAl.mono ?_
                        rintro e w8 ⟨rfl, hb8⟩
                        have HB8 : Hid (Below w2.heap.size w2 w8) := HWr.out.trans (hb8.mono HWr.out.size)
                        clear hAl hb8
                        go_wp2
                        go_ret
                        exact ⟨rfl, HB2.out.trans (HB8.out.mono HB2.out.size)⟩
theorem walk (w : World) (s0 : Option Addr) (len0 cap0 : Nat) (z0 : List Int) (h : IsRow .u8 w s0 len0 cap0 z0) (a1 : Int) (w1 : (Lit.int .u64 a1).wf = true) (a2 : Int) (w2 : (Lit.int .u64 a2).wf = true) :
    Calls Try.prog 5 #[.slice s0 len0 cap0, .int .u64 a1, .int .u64 a2] w fun e w' => e = .returned (.bool true) ∧ Below w.heap.size w w' := by
  have hw1 := wf_u64 w1
  have hw2 := wf_u64 w2
  by_cases hl : len0 ≤ 262144
  · obtain ⟨e, ha⟩ := h.arg (by omega)
    obtain ⟨x, rfl⟩ : ∃ x : Nat, a1 = (x : Int) := ⟨a1.toNat, by omega⟩
    obtain ⟨s, rfl⟩ : ∃ s : Nat, a2 = (s : Int) := ⟨a2.toNat, by omega⟩
    have k := core w _ _ ha (by omega) x s (by omega) (by omega)
    exact k
  · have hl2 : (262144 : Int) < (len0 : Int) := by omega
    have HBR : Hid (Below w.heap.size w w) := Below.refl _ _
    have hlm : len0 ≤ 9223372036854775807 := by
      rcases h with ⟨_, rfl, _⟩ | ⟨_, _, h1, h2, _⟩
      · omega
      · unfold maxLen at h2; omega
    clear h
    go_enter Try.func5, Try.ntmps5
    go_wp2
    go_ret
    exact ⟨rfl, HBR.out⟩
theorem own : ownKnob Try.prog.godebug = none := by kernel_rfl
theorem laidOut : laidOutB Try.prog = true := by kernel_rfl
set_option maxRecDepth 100000 in
theorem lifted (os : Os) (started : os.Started) (H : Type) (enc : TypeId × Value → H) :
    ReturnsInHanded {} Try.checked os 5 .any (Rows.headPlacesSpec.pre6 enc Try.prog Try.f5 Rows.headPlacesRow.domain false) (Rows.headPlacesSpec.post enc Try.prog Try.f5 false true false false) := by
  refine returnsInHanded_of_change (C := Try.checked) own started (by kernel_rfl) Try.func5
    (ChangeSpec.witness6 (enc := enc) (C := Try.checked) false ⟨#[], #[.slice none 0 0, .int .u64 0, .int .u64 0], []⟩ 8 (by kernel_rfl) (by kernel_rfl) (by kernel_rfl) (by kernel_rfl)) ?_
  intro W base args ds gs before hval0 hW hcnd _
  have hval : ∀ (j : Nat) t v, Try.f5.params[j]? = some t → args[j]? = some v → Value.okWide Try.prog W .any base t v := hval0
  have hW' := hW
  obtain ⟨p, q, hA0, hV, rfl, hfz, hnd⟩ := hW
  have hA : DataW.TrodAll enc Try.prog W 0 (fun _ => true) true Try.f5.params.toList args.toList ds p := hA0
  rw [Try.params5] at hA hval
  obtain ⟨v0, vs0, d0, ds0, p0, q0, hargs, rfl, rfl, h0, r0⟩ := trodAll_cons hA
  obtain ⟨v1, vs1, d1, ds1, p1, q1, rfl, rfl, rfl, h1, r1⟩ := trodAll_cons r0
  obtain ⟨v2, vs2, d2, ds2, p2, q2, rfl, rfl, rfl, h2, r2⟩ := trodAll_cons r1
  obtain ⟨rfl, rfl, rfl⟩ := trodAll_nil r2
  obtain rfl : args = #[v0, v1, v2] := by cases args; simp_all
  obtain ⟨rfl, rfl⟩ := trodVars_none hV
  have k0 := h0
  have lt0 : ∀ x ∈ p0, x.block < W.heap.size := by obtain ⟨m, hm⟩ := k0; exact DataW.trod_lt m _ _ _ hm
  have k1 := h1
  have lt1 : ∀ x ∈ p1, x.block < W.heap.size := by obtain ⟨m, hm⟩ := k1; exact DataW.trod_lt m _ _ _ hm
  have k2 := h2
  have lt2 : ∀ x ∈ p2, x.block < W.heap.size := by obtain ⟨m, hm⟩ := k2; exact DataW.trod_lt m _ _ _ hm
  obtain ⟨s0, len0, cap0, rfl⟩ := okWide_slice Try.underlying22 (hval 0 22 v0 rfl rfl)
  obtain ⟨z0, w0⟩ : ∃ zs, IsRow .u8 W s0 len0 cap0 zs := by
    obtain ⟨fuel, hf⟩ := h0
    rcases open_ints Try.underlying22 Try.underlying5 (by kernel_rfl) hf with ⟨hcs, _⟩ | ⟨x, l, c, zs, hcs, _, hl, hm, hz, _, hcell, hwz⟩
    · simp [Value.cells] at hcs
      obtain ⟨rfl, rfl, rfl⟩ := hcs
      exact ⟨[], .inl ⟨rfl, rfl, rfl, rfl⟩⟩
    · simp [Value.cells] at hcs
      obtain ⟨rfl, rfl, rfl⟩ := hcs
      exact ⟨zs, .inr ⟨_, rfl, hl, hm, by simpa using hz, hcell, hwz⟩⟩
  obtain ⟨a1, rfl, rfl, rfl, w1⟩ := open_int Try.underlying30 (hval 1 30 v1 rfl rfl) h1
  obtain ⟨a2, rfl, rfl, rfl, w2⟩ := open_int Try.underlying30 (hval 2 30 v2 rfl rfl) h2
  clear hA0 hval0
  refine (walk W s0 len0 cap0 z0 w0 a1 w1 a2 w2).mono fun e W' ⟨he, bel⟩ => ?_
  subst he
  exact ⟨_, rfl, _, _, _, [], _, [], hW', trodAll_mk1 (shut_bool Try.underlying4 _), (trodAll_cons_mk (Below.trod laidOut (by kernel_rfl) (of_decide_eq_true (by kernel_rfl)) k0 bel lt0) (trodAll_cons_mk (Below.trod laidOut (by kernel_rfl) (of_decide_eq_true (by kernel_rfl)) k1 bel lt1) (trodAll_cons_mk (Below.trod laidOut (by kernel_rfl) (of_decide_eq_true (by kernel_rfl)) k2 bel lt2) trodAll_mk0))), rfl, bel.frame _, fun h => by cases h⟩

theorem over : Rows.headPlacesRow.holds Try.pinned (OpenSpec.ofChange Rows.headPlacesSpec) :=
  OpenClaim.holds_of_wide 5 Try.f5 rfl rfl rfl rfl rfl rfl rfl ⟨rfl, rfl, rfl, rfl, rfl⟩ rfl rfl rfl rfl rfl (by kernel_rfl) Try.func5 (by kernel_rfl)
    (of_decide_eq_true (by kernel_rfl)) (by unfold Func.isWrapper; first | (rw [if_pos (by decide +kernel)]; kernel_rfl) | (rw [if_neg (by decide +kernel)]; exact ⟨rfl, rfl⟩))
    (fun os started H enc _ => lifted os started H enc)
end LHeadPlaces
theorem HeadPlaces_proved : Rows.HeadPlacesSaid := LHeadPlaces.over
end Go.Proofs.Ytgpjfcnlhlkblaa
