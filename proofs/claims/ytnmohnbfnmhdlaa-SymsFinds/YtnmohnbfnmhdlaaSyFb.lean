
/-
  Layer 10 (syms): the reference's Near.
-/
import Derived.Test.YtnmohnbfnmhdlaaSyF
set_option linter.unusedVariables false
namespace Go.Proofs.Ytnmohnbfnmhdlaa
open Go.RowKit Go.PlainAid Go.Sort
theorem has_eq (q : Nat) (s : Sy) (z : Nat) (hz : z = if s.size = 0 then 1 else s.size) : hasS q s = (had s && (decide (s.value ≤ q) && decide (q - s.value < z))) := by
  rw [hasS, Bool.and_assoc]
  have e : max s.size 1 = z := by rw [hz]; split <;> omega
  rw [e]
set_option maxHeartbeats 4000000 in
set_option maxRecDepth 20000 in
theorem ref10_Near (w : World) (a : Option Addr) (cap : Nat) (l : List Sy) (h : SymsAt w a l) (hl : l.length ≤ cap) (hc : cap ≤ maxLen) (q : Nat) (hq : (q : Int) ≤ 18446744073709551615) :
    Calls Try.prog 24 #[.slice a l.length cap, .int .u64 q] w fun e w' => ∃ n : Int, e = .returned (.int .i64 n) ∧ Hid (IsNear l q 0 l.length n) ∧ Below w.heap.size w w' := by
  obtain ⟨n, hN⟩ : ∃ n, l.length = n := ⟨_, rfl⟩
  have HN := hide hN
  have HS := hide h
  have hcap : cap ≤ 9223372036854775807 := by unfold maxLen at hc; omega
  rw [hN] at hl ⊢
  clear hN h hc
  go_enter Try.func24, Try.ntmps24
  go_wp2
  go_loopw [5, 6] (fun vr vi wr => ∃ (i : Nat) (r : Int), vi = .int .i64 ((i : Int) - 1) ∧ vr = .int .i64 r ∧ i ≤ n ∧ Hid (Below w.heap.size w wr) ∧ Hid (IsNear l q i l.length r))
    (fun _ vi _ => (intOf vi + 1).toNat)
  case atStart => exact ⟨n, -1, rfl, rfl, by omega, Below.refl _ _, by rw [HN.out]; exact IsNear.start _ _ _⟩
  case round =>
    obtain ⟨i', r, rfl, rfl, hi, HB, HA⟩ := hrel
    by_cases hlt : 0 < i'
    · obtain ⟨i, rfl⟩ : ∃ i, i' = i + 1 := ⟨i' - 1, by omega⟩
      have ei : (((i + 1 : Nat) : Int) - 1) = (i : Int) := by omega
      rw [ei]
      have hltI : (i : Int) < (n : Int) := by omega
      have hi0 : (0 : Int) ≤ (i : Int) := by omega
      have hil : i < l.length := by rw [HN.out]; omega
      clear ei hlt
      obtain ⟨y, o, rfl, hs, hok⟩ := (HS.out.below HB.out).at i hil
      have HC5 := hide (fun m (hm : m < l.length) => (show ∃ v, wr.cell? ⟨y, o + m * 7 + 5, none⟩ = some (.int .u64 (v : Nat)) ∧ v = l[m].value ∧ (v : Int) ≤ 18446744073709551615 from by
        obtain ⟨y', o', e, k, k2⟩ := (HS.out.below HB.out).at m hm
        cases e
        exact ⟨_, k.c5, rfl, k2.val⟩))
      obtain ⟨c0, c1, c2, c3, c4, c5, c6⟩ := hs
      obtain ⟨s, hse⟩ : ∃ s, l[i] = s := ⟨_, rfl⟩
      have HSE := hide hse
      rw [hse] at c0 c1 c2 c3 c4 c5 c6 hok
      clear hse
      have HE := hide (fun W => ref10_Had s W)
      have hv := hok.val
      have hz := hok.size
      have HEC := hide (new_cells wr s)
      have HB0 : Hid (Below w.heap.size w (wr.alloc (.cells #[.string ⟨s.name.toArray⟩, .string ⟨s.ver.toArray⟩, .bool s.hidden, .int .i64 s.bind, .bool s.defined, .int .u64 s.value, .int .u64 s.size] 60))) := HB.out.trans ((bel1 wr _).mono HB.out.size)
      have hsub : s.value ≤ q → IntKind.u64.wrap ((q : Int) - (s.value : Int)) = (q : Int) - (s.value : Int) := fun h => by rw [IntKind.wrap_u64]; omega
      obtain ⟨b1, hb1⟩ : ∃ b1, had s = b1 := ⟨_, rfl⟩
      rw [hb1] at HE
      have HB1 := hide hb1
      clear hb1 hok
      by_cases hz0 : s.size = 0
      · have hzb : ((s.size : Int) == 0) = true := by rw [hz0]; rfl
        have HAS := hide (has_eq q s 1 (by rw [if_pos hz0]))
        have HZ0 := hide hz0
        clear hz0
        cases b1
        · clear hsub
          go_wp2_with fail
          try simp only [List.append_eq, List.cons_append, List.nil_append]
          refine wp_region_quiet_below (by kernel_rfl) (by kernel_rfl) ?_
          obtain ⟨x0, x1, x2, x3, x4, x5, x6⟩ := HEC.out.zero
          have e0 := cell_regrown x0
          have e1 := cell_regrown x1
          have e2 := cell_regrown x2
          have e3 := cell_regrown x3
          have e4 := cell_regrown x4
          have e5 := cell_regrown x5
          have e6 := cell_regrown x6
          clear x0 x1 x2 x3 x4 x5 x6
          repeat (go_big_quiet_step (exact Calls.regrown_of (HE.out _)))
          refine wpQuiet_nil ?_
          intro _ hwq
          obtain ⟨⟨dq, osq⟩, hwq2⟩ := hwq
          subst hwq2
          have HB2 : Hid (Below w.heap.size w (grow (redrawn (wr.alloc (.cells #[.string ⟨s.name.toArray⟩, .string ⟨s.ver.toArray⟩, .bool s.hidden, .int .i64 s.bind, .bool s.defined, .int .u64 s.value, .int .u64 s.size] 60)) dq) osq)) := HB0.out.trans ((below_regrown _ dq osq).mono HB0.out.size)
          clear e0 e1 e2 e3 e4 e5 e6 HEC c0 c1 c2 c3 c4 c5 c6
          generalize grow _ _ = w2 at *
          go_wp2
          go_roundw
          case rel => exact ⟨i, _, by go_num, rfl, by omega, HB2, HA.out.skipB hil (.inl (by rw [HSE.out, HAS.out, HB1.out]; rfl))⟩
          case measure => simp [intOf]
        · by_cases hvq : s.value ≤ q
          · have hw1 := hsub hvq
            have d1 : decide ((s.value : Int) ≤ (q : Int)) = true := by simpa using hvq
            have d2 : decide (s.value ≤ q) = true := by simpa using hvq
            have HVQ := hide hvq
            clear hsub hvq
            by_cases hsz : (q : Int) - (s.value : Int) < 1
            · have d3 : decide ((q : Int) - (s.value : Int) < 1) = true := by simpa using hsz
              have HHAS : Hid (hasS q l[i] = true) := by rw [Hid, HSE.out, HAS.out, HB1.out]; simp only [HVQ.out, decide_true, Bool.true_and, decide_eq_true_eq]; have := HVQ.out; omega
              rcases HA.out.idx with hr | ⟨m, hm, hr⟩
              · have HR := hide hr
                have d4 : decide (r < 0) = true := by rw [hr]; rfl
                have d5 : (r < 0) = True := by rw [hr]; simp
                clear hr hsz
                go_wp2_with fail
                try simp only [List.append_eq, List.cons_append, List.nil_append]
                refine wp_region_quiet_below (by kernel_rfl) (by kernel_rfl) ?_
                obtain ⟨x0, x1, x2, x3, x4, x5, x6⟩ := HEC.out.zero
                have e0 := cell_regrown x0
                have e1 := cell_regrown x1
                have e2 := cell_regrown x2
                have e3 := cell_regrown x3
                have e4 := cell_regrown x4
                have e5 := cell_regrown x5
                have e6 := cell_regrown x6
                clear x0 x1 x2 x3 x4 x5 x6
                repeat (go_big_quiet_step (exact Calls.regrown_of (HE.out _)))
                refine wpQuiet_nil ?_
                intro _ hwq
                obtain ⟨⟨dq, osq⟩, hwq2⟩ := hwq
                subst hwq2
                have HB2 : Hid (Below w.heap.size w (grow (redrawn (wr.alloc (.cells #[.string ⟨s.name.toArray⟩, .string ⟨s.ver.toArray⟩, .bool s.hidden, .int .i64 s.bind, .bool s.defined, .int .u64 s.value, .int .u64 s.size] 60)) dq) osq)) := HB0.out.trans ((below_regrown _ dq osq).mono HB0.out.size)
                clear e0 e1 e2 e3 e4 e5 e6 HEC c0 c1 c2 c3 c4 c5 c6
                generalize grow _ _ = w2 at *
                go_wp2
                go_roundw
                case rel => exact ⟨i, _, by go_num, rfl, by omega, HB2, HA.out.takeB hil HHAS.out (.inl HR.out)⟩
                case measure => simp [intOf]
              · subst hr
                obtain ⟨vm, cm, hvm, hvl⟩ := HC5.out m hm
                have HVM := hide hvm
                have hmn : (m : Int) < (n : Int) := by have := HN.out; omega
                have hm0 : (0 : Int) ≤ (m : Int) := by omega
                have d4 : decide ((m : Int) < 0) = false := by simp
                have d5 : ((m : Int) < 0) = False := by simp
                have hmy : y < wr.heap.size := World.block_lt_of_cell? _ _ cm
                have HCM : Hid ((wr.alloc (.cells #[.string ⟨s.name.toArray⟩, .string ⟨s.ver.toArray⟩, .bool s.hidden, .int .i64 s.bind, .bool s.defined, .int .u64 s.value, .int .u64 s.size] 60)).cell? ⟨y, o + m * 7 + 5, none⟩ = some (.int .u64 (vm : Nat))) := by rw [Hid, (bel1 wr _).cell (p := ⟨y, o + m * 7 + 5, none⟩) hmy]; exact cm
                clear cm hvm hsz
                go_wp2_with fail
                try simp only [List.append_eq, List.cons_append, List.nil_append]
                refine wp_region_quiet_below (by kernel_rfl) (by kernel_rfl) ?_
                obtain ⟨x0, x1, x2, x3, x4, x5, x6⟩ := HEC.out.zero
                have e0 := cell_regrown x0
                have e1 := cell_regrown x1
                have e2 := cell_regrown x2
                have e3 := cell_regrown x3
                have e4 := cell_regrown x4
                have e5 := cell_regrown x5
                have e6 := cell_regrown x6
                have em := cell_regrown HCM.out
                clear x0 x1 x2 x3 x4 x5 x6
                repeat (go_big_quiet_step (exact Calls.regrown_of (HE.out _)))
                refine wpQuiet_nil ?_
                intro _ hwq
                obtain ⟨⟨dq, osq⟩, hwq2⟩ := hwq
                subst hwq2
                have HB2 : Hid (Below w.heap.size w (grow (redrawn (wr.alloc (.cells #[.string ⟨s.name.toArray⟩, .string ⟨s.ver.toArray⟩, .bool s.hidden, .int .i64 s.bind, .bool s.defined, .int .u64 s.value, .int .u64 s.size] 60)) dq) osq)) := HB0.out.trans ((below_regrown _ dq osq).mono HB0.out.size)
                clear e0 e1 e2 e3 e4 e5 e6 em HCM HEC c0 c1 c2 c3 c4 c5 c6
                generalize grow _ _ = w2 at *
                by_cases hgt : vm ≤ s.value
                · have hgtI : (vm : Int) ≤ (s.value : Int) := by omega
                  have HGT := hide hgt
                  clear hgt
                  go_wp2
                  go_roundw
                  case rel => exact ⟨i, _, by go_num, rfl, by omega, HB2, HA.out.takeB hil HHAS.out (.inr ⟨m, hm, rfl, by rw [← HVM.out, HSE.out]; exact HGT.out⟩)⟩
                  case measure => simp [intOf]
                · have hgtI : ¬ (vm : Int) ≤ (s.value : Int) := by omega
                  have HGT := hide hgt
                  clear hgt
                  go_wp2
                  go_roundw
                  case rel => exact ⟨i, _, by go_num, rfl, by omega, HB2, HA.out.skipB hil (.inr ⟨m, hm, rfl, by rw [← HVM.out, HSE.out]; have := HGT.out; omega⟩)⟩
                  case measure => simp [intOf]
            · have d3 : decide ((q : Int) - (s.value : Int) < 1) = false := by simpa using hsz
              have HHAS : Hid (hasS q l[i] = false) := by rw [Hid, HSE.out, HAS.out, HB1.out]; simp only [HVQ.out, decide_true, Bool.true_and, decide_eq_false_iff_not]; have := HVQ.out; omega
              clear hsz
              go_wp2_with fail
              try simp only [List.append_eq, List.cons_append, List.nil_append]
              refine wp_region_quiet_below (by kernel_rfl) (by kernel_rfl) ?_
              obtain ⟨x0, x1, x2, x3, x4, x5, x6⟩ := HEC.out.zero
              have e0 := cell_regrown x0
              have e1 := cell_regrown x1
              have e2 := cell_regrown x2
              have e3 := cell_regrown x3
              have e4 := cell_regrown x4
              have e5 := cell_regrown x5
              have e6 := cell_regrown x6
              clear x0 x1 x2 x3 x4 x5 x6
              repeat (go_big_quiet_step (exact Calls.regrown_of (HE.out _)))
              refine wpQuiet_nil ?_
              intro _ hwq
              obtain ⟨⟨dq, osq⟩, hwq2⟩ := hwq
              subst hwq2
              have HB2 : Hid (Below w.heap.size w (grow (redrawn (wr.alloc (.cells #[.string ⟨s.name.toArray⟩, .string ⟨s.ver.toArray⟩, .bool s.hidden, .int .i64 s.bind, .bool s.defined, .int .u64 s.value, .int .u64 s.size] 60)) dq) osq)) := HB0.out.trans ((below_regrown _ dq osq).mono HB0.out.size)
              clear e0 e1 e2 e3 e4 e5 e6 HEC c0 c1 c2 c3 c4 c5 c6
              generalize grow _ _ = w2 at *
              go_wp2
              go_roundw
              case rel => exact ⟨i, _, by go_num, rfl, by omega, HB2, HA.out.skipB hil (.inl HHAS.out)⟩
              case measure => simp [intOf]
          · have d1 : decide ((s.value : Int) ≤ (q : Int)) = false := by simpa using hvq
            have d2 : decide (s.value ≤ q) = false := by simpa using hvq
            have HVQ := hide hvq
            clear hsub hvq
            go_wp2_with fail
            try simp only [List.append_eq, List.cons_append, List.nil_append]
            refine wp_region_quiet_below (by kernel_rfl) (by kernel_rfl) ?_
            obtain ⟨x0, x1, x2, x3, x4, x5, x6⟩ := HEC.out.zero
            have e0 := cell_regrown x0
            have e1 := cell_regrown x1
            have e2 := cell_regrown x2
            have e3 := cell_regrown x3
            have e4 := cell_regrown x4
            have e5 := cell_regrown x5
            have e6 := cell_regrown x6
            clear x0 x1 x2 x3 x4 x5 x6
            repeat (go_big_quiet_step (exact Calls.regrown_of (HE.out _)))
            refine wpQuiet_nil ?_
            intro _ hwq
            obtain ⟨⟨dq, osq⟩, hwq2⟩ := hwq
            subst hwq2
            have HB2 : Hid (Below w.heap.size w (grow (redrawn (wr.alloc (.cells #[.string ⟨s.name.toArray⟩, .string ⟨s.ver.toArray⟩, .bool s.hidden, .int .i64 s.bind, .bool s.defined, .int .u64 s.value, .int .u64 s.size] 60)) dq) osq)) := HB0.out.trans ((below_regrown _ dq osq).mono HB0.out.size)
            clear e0 e1 e2 e3 e4 e5 e6 HEC c0 c1 c2 c3 c4 c5 c6
            generalize grow _ _ = w2 at *
            go_wp2
            go_roundw
            case rel => exact ⟨i, _, by go_num, rfl, by omega, HB2, HA.out.skipB hil (.inl (by rw [HSE.out, HAS.out, HB1.out]; simp [HVQ.out]))⟩
            case measure => simp [intOf]
      · have hzb : ((s.size : Int) == 0) = false := by rw [beq_eq_false_iff_ne]; omega
        have HAS := hide (has_eq q s s.size (by rw [if_neg hz0]))
        have HZ0 := hide hz0
        clear hz0
        cases b1
        · clear hsub
          go_wp2_with fail
          try simp only [List.append_eq, List.cons_append, List.nil_append]
          refine wp_region_quiet_below (by kernel_rfl) (by kernel_rfl) ?_
          obtain ⟨x0, x1, x2, x3, x4, x5, x6⟩ := HEC.out.zero
          have e0 := cell_regrown x0
          have e1 := cell_regrown x1
          have e2 := cell_regrown x2
          have e3 := cell_regrown x3
          have e4 := cell_regrown x4
          have e5 := cell_regrown x5
          have e6 := cell_regrown x6
          clear x0 x1 x2 x3 x4 x5 x6
          repeat (go_big_quiet_step (exact Calls.regrown_of (HE.out _)))
          refine wpQuiet_nil ?_
          intro _ hwq
          obtain ⟨⟨dq, osq⟩, hwq2⟩ := hwq
          subst hwq2
          have HB2 : Hid (Below w.heap.size w (grow (redrawn (wr.alloc (.cells #[.string ⟨s.name.toArray⟩, .string ⟨s.ver.toArray⟩, .bool s.hidden, .int .i64 s.bind, .bool s.defined, .int .u64 s.value, .int .u64 s.size] 60)) dq) osq)) := HB0.out.trans ((below_regrown _ dq osq).mono HB0.out.size)
          clear e0 e1 e2 e3 e4 e5 e6 HEC c0 c1 c2 c3 c4 c5 c6
          generalize grow _ _ = w2 at *
          go_wp2
          go_roundw
          case rel => exact ⟨i, _, by go_num, rfl, by omega, HB2, HA.out.skipB hil (.inl (by rw [HSE.out, HAS.out, HB1.out]; rfl))⟩
          case measure => simp [intOf]
        · by_cases hvq : s.value ≤ q
          · have hw1 := hsub hvq
            have d1 : decide ((s.value : Int) ≤ (q : Int)) = true := by simpa using hvq
            have d2 : decide (s.value ≤ q) = true := by simpa using hvq
            have HVQ := hide hvq
            clear hsub hvq
            by_cases hsz : (q : Int) - (s.value : Int) < (s.size : Int)
            · have d3 : decide ((q : Int) - (s.value : Int) < (s.size : Int)) = true := by simpa using hsz
              have HHAS : Hid (hasS q l[i] = true) := by rw [Hid, HSE.out, HAS.out, HB1.out]; simp only [HVQ.out, decide_true, Bool.true_and, decide_eq_true_eq]; have := HVQ.out; omega
              rcases HA.out.idx with hr | ⟨m, hm, hr⟩
              · have HR := hide hr
                have d4 : decide (r < 0) = true := by rw [hr]; rfl
                have d5 : (r < 0) = True := by rw [hr]; simp
                clear hr hsz
                go_wp2_with fail
                try simp only [List.append_eq, List.cons_append, List.nil_append]
                refine wp_region_quiet_below (by kernel_rfl) (by kernel_rfl) ?_
                obtain ⟨x0, x1, x2, x3, x4, x5, x6⟩ := HEC.out.zero
                have e0 := cell_regrown x0
                have e1 := cell_regrown x1
                have e2 := cell_regrown x2
                have e3 := cell_regrown x3
                have e4 := cell_regrown x4
                have e5 := cell_regrown x5
                have e6 := cell_regrown x6
                clear x0 x1 x2 x3 x4 x5 x6
                repeat (go_big_quiet_step (exact Calls.regrown_of (HE.out _)))
                refine wpQuiet_nil ?_
                intro _ hwq
                obtain ⟨⟨dq, osq⟩, hwq2⟩ := hwq
                subst hwq2
                have HB2 : Hid (Below w.heap.size w (grow (redrawn (wr.alloc (.cells #[.string ⟨s.name.toArray⟩, .string ⟨s.ver.toArray⟩, .bool s.hidden, .int .i64 s.bind, .bool s.defined, .int .u64 s.value, .int .u64 s.size] 60)) dq) osq)) := HB0.out.trans ((below_regrown _ dq osq).mono HB0.out.size)
                clear e0 e1 e2 e3 e4 e5 e6 HEC c0 c1 c2 c3 c4 c5 c6
                generalize grow _ _ = w2 at *
                go_wp2
                go_roundw
                case rel => exact ⟨i, _, by go_num, rfl, by omega, HB2, HA.out.takeB hil HHAS.out (.inl HR.out)⟩
                case measure => simp [intOf]
              · subst hr
                obtain ⟨vm, cm, hvm, hvl⟩ := HC5.out m hm
                have HVM := hide hvm
                have hmn : (m : Int) < (n : Int) := by have := HN.out; omega
                have hm0 : (0 : Int) ≤ (m : Int) := by omega
                have d4 : decide ((m : Int) < 0) = false := by simp
                have d5 : ((m : Int) < 0) = False := by simp
                have hmy : y < wr.heap.size := World.block_lt_of_cell? _ _ cm
                have HCM : Hid ((wr.alloc (.cells #[.string ⟨s.name.toArray⟩, .string ⟨s.ver.toArray⟩, .bool s.hidden, .int .i64 s.bind, .bool s.defined, .int .u64 s.value, .int .u64 s.size] 60)).cell? ⟨y, o + m * 7 + 5, none⟩ = some (.int .u64 (vm : Nat))) := by rw [Hid, (bel1 wr _).cell (p := ⟨y, o + m * 7 + 5, none⟩) hmy]; exact cm
                clear cm hvm hsz
                go_wp2_with fail
                try simp only [List.append_eq, List.cons_append, List.nil_append]
                refine wp_region_quiet_below (by kernel_rfl) (by kernel_rfl) ?_
                obtain ⟨x0, x1, x2, x3, x4, x5, x6⟩ := HEC.out.zero
                have e0 := cell_regrown x0
                have e1 := cell_regrown x1
                have e2 := cell_regrown x2
                have e3 := cell_regrown x3
                have e4 := cell_regrown x4
                have e5 := cell_regrown x5
                have e6 := cell_regrown x6
                have em := cell_regrown HCM.out
                clear x0 x1 x2 x3 x4 x5 x6
                repeat (go_big_quiet_step (exact Calls.regrown_of (HE.out _)))
                refine wpQuiet_nil ?_
                intro _ hwq
                obtain ⟨⟨dq, osq⟩, hwq2⟩ := hwq
                subst hwq2
                have HB2 : Hid (Below w.heap.size w (grow (redrawn (wr.alloc (.cells #[.string ⟨s.name.toArray⟩, .string ⟨s.ver.toArray⟩, .bool s.hidden, .int .i64 s.bind, .bool s.defined, .int .u64 s.value, .int .u64 s.size] 60)) dq) osq)) := HB0.out.trans ((below_regrown _ dq osq).mono HB0.out.size)
                clear e0 e1 e2 e3 e4 e5 e6 em HCM HEC c0 c1 c2 c3 c4 c5 c6
                generalize grow _ _ = w2 at *
                by_cases hgt : vm ≤ s.value
                · have hgtI : (vm : Int) ≤ (s.value : Int) := by omega
                  have HGT := hide hgt
                  clear hgt
                  go_wp2
                  go_roundw
                  case rel => exact ⟨i, _, by go_num, rfl, by omega, HB2, HA.out.takeB hil HHAS.out (.inr ⟨m, hm, rfl, by rw [← HVM.out, HSE.out]; exact HGT.out⟩)⟩
                  case measure => simp [intOf]
                · have hgtI : ¬ (vm : Int) ≤ (s.value : Int) := by omega
                  have HGT := hide hgt
                  clear hgt
                  go_wp2
                  go_roundw
                  case rel => exact ⟨i, _, by go_num, rfl, by omega, HB2, HA.out.skipB hil (.inr ⟨m, hm, rfl, by rw [← HVM.out, HSE.out]; have := HGT.out; omega⟩)⟩
                  case measure => simp [intOf]
            · have d3 : decide ((q : Int) - (s.value : Int) < (s.size : Int)) = false := by simpa using hsz
              have HHAS : Hid (hasS q l[i] = false) := by rw [Hid, HSE.out, HAS.out, HB1.out]; simp only [HVQ.out, decide_true, Bool.true_and, decide_eq_false_iff_not]; have := HVQ.out; omega
              clear hsz
              go_wp2_with fail
              try simp only [List.append_eq, List.cons_append, List.nil_append]
              refine wp_region_quiet_below (by kernel_rfl) (by kernel_rfl) ?_
              obtain ⟨x0, x1, x2, x3, x4, x5, x6⟩ := HEC.out.zero
              have e0 := cell_regrown x0
              have e1 := cell_regrown x1
              have e2 := cell_regrown x2
              have e3 := cell_regrown x3
              have e4 := cell_regrown x4
              have e5 := cell_regrown x5
              have e6 := cell_regrown x6
              clear x0 x1 x2 x3 x4 x5 x6
              repeat (go_big_quiet_step (exact Calls.regrown_of (HE.out _)))
              refine wpQuiet_nil ?_
              intro _ hwq
              obtain ⟨⟨dq, osq⟩, hwq2⟩ := hwq
              subst hwq2
              have HB2 : Hid (Below w.heap.size w (grow (redrawn (wr.alloc (.cells #[.string ⟨s.name.toArray⟩, .string ⟨s.ver.toArray⟩, .bool s.hidden, .int .i64 s.bind, .bool s.defined, .int .u64 s.value, .int .u64 s.size] 60)) dq) osq)) := HB0.out.trans ((below_regrown _ dq osq).mono HB0.out.size)
              clear e0 e1 e2 e3 e4 e5 e6 HEC c0 c1 c2 c3 c4 c5 c6
              generalize grow _ _ = w2 at *
              go_wp2
              go_roundw
              case rel => exact ⟨i, _, by go_num, rfl, by omega, HB2, HA.out.skipB hil (.inl HHAS.out)⟩
              case measure => simp [intOf]
          · have d1 : decide ((s.value : Int) ≤ (q : Int)) = false := by simpa using hvq
            have d2 : decide (s.value ≤ q) = false := by simpa using hvq
            have HVQ := hide hvq
            clear hsub hvq
            go_wp2_with fail
            try simp only [List.append_eq, List.cons_append, List.nil_append]
            refine wp_region_quiet_below (by kernel_rfl) (by kernel_rfl) ?_
            obtain ⟨x0, x1, x2, x3, x4, x5, x6⟩ := HEC.out.zero
            have e0 := cell_regrown x0
            have e1 := cell_regrown x1
            have e2 := cell_regrown x2
            have e3 := cell_regrown x3
            have e4 := cell_regrown x4
            have e5 := cell_regrown x5
            have e6 := cell_regrown x6
            clear x0 x1 x2 x3 x4 x5 x6
            repeat (go_big_quiet_step (exact Calls.regrown_of (HE.out _)))
            refine wpQuiet_nil ?_
            intro _ hwq
            obtain ⟨⟨dq, osq⟩, hwq2⟩ := hwq
            subst hwq2
            have HB2 : Hid (Below w.heap.size w (grow (redrawn (wr.alloc (.cells #[.string ⟨s.name.toArray⟩, .string ⟨s.ver.toArray⟩, .bool s.hidden, .int .i64 s.bind, .bool s.defined, .int .u64 s.value, .int .u64 s.size] 60)) dq) osq)) := HB0.out.trans ((below_regrown _ dq osq).mono HB0.out.size)
            clear e0 e1 e2 e3 e4 e5 e6 HEC c0 c1 c2 c3 c4 c5 c6
            generalize grow _ _ = w2 at *
            go_wp2
            go_roundw
            case rel => exact ⟨i, _, by go_num, rfl, by omega, HB2, HA.out.skipB hil (.inl (by rw [HSE.out, HAS.out, HB1.out]; simp [HVQ.out]))⟩
            case measure => simp [intOf]
    · have he : i' = 0 := by omega
      subst he
      have HA2 := HA.out
      rw [HN.out] at HA2
      have HA3 := hide HA2
      clear HA2
      go_wp2
      go_ret
      exact ⟨_, rfl, HA3, HB.out⟩
/-- The one that is near. -/
noncomputable def nearV (l : List Sy) (q : Nat) : Int := Classical.epsilon fun n => IsNear l q 0 l.length n
theorem nearV_is {l : List Sy} {q : Nat} {n : Int} (h : IsNear l q 0 l.length n) : n = nearV l q := h.one (Classical.epsilon_spec (p := fun n => IsNear l q 0 l.length n) ⟨n, h⟩)
theorem syms_NearV (w : World) (a : Option Addr) (cap : Nat) (l : List Sy) (h : SymsAt w a l) (hl : l.length ≤ cap) (hc : cap ≤ maxLen) (q : Nat) (hq : (q : Int) ≤ 18446744073709551615) :
    Calls Try.prog 23 #[.slice a l.length cap, .int .u64 q] w fun e w' => e = .returned (.int .i64 (nearV l q)) ∧ Below w.heap.size w w' :=
  (syms_Near w a cap l h hl hc q hq).mono fun e w' ⟨n, he, hn, hb⟩ => ⟨by rw [he, nearV_is hn.out], hb⟩
theorem ref10_NearV (w : World) (a : Option Addr) (cap : Nat) (l : List Sy) (h : SymsAt w a l) (hl : l.length ≤ cap) (hc : cap ≤ maxLen) (q : Nat) (hq : (q : Int) ≤ 18446744073709551615) :
    Calls Try.prog 24 #[.slice a l.length cap, .int .u64 q] w fun e w' => e = .returned (.int .i64 (nearV l q)) ∧ Below w.heap.size w w' :=
  (ref10_Near w a cap l h hl hc q hq).mono fun e w' ⟨n, he, hn, hb⟩ => ⟨by rw [he, nearV_is hn.out], hb⟩
end Go.Proofs.Ytnmohnbfnmhdlaa
