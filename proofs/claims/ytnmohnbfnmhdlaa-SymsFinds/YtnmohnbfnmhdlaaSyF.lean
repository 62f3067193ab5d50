
/-
  Layer 10 (syms): Near, the program's and the reference's.
-/
import Derived.Test.YtnmohnbfnmhdlaaSyD
import Derived.Lib.QuietBelow
set_option linter.unusedVariables false
namespace Go.Proofs.Ytnmohnbfnmhdlaa
open Go.RowKit Go.PlainAid Go.Sort
theorem q_same {P : Program} {f : FuncId} {args : Array Value} {w : World} {d : Nat} {os : Array Obj} {v : Value}
    (h : Calls P f args (grow (redrawn w d) os) fun e w' => e = .returned v ∧ (grow (redrawn w d) os) = w') : Calls P f args (grow (redrawn w d) os) fun e w'' => e = .returned v ∧ ∃ p : Regrown, w'' = grow (redrawn w p.d) p.os :=
  h.mono fun _ _ ⟨he, hb⟩ => ⟨he, ⟨d, os⟩, hb.symm⟩
set_option maxHeartbeats 4000000 in
set_option maxRecDepth 20000 in
theorem syms_Near (w : World) (a : Option Addr) (cap : Nat) (l : List Sy) (h : SymsAt w a l) (hl : l.length ≤ cap) (hc : cap ≤ maxLen) (q : Nat) (hq : (q : Int) ≤ 18446744073709551615) :
    Calls Try.prog 23 #[.slice a l.length cap, .int .u64 q] w fun e w' => ∃ n : Int, e = .returned (.int .i64 n) ∧ Hid (IsNear l q 0 l.length n) ∧ Below w.heap.size w w' := by
  obtain ⟨n, hN⟩ : ∃ n, l.length = n := ⟨_, rfl⟩
  have HN := hide hN
  have HS := hide h
  have hcap : cap ≤ 9223372036854775807 := by unfold maxLen at hc; omega
  rw [hN] at hl ⊢
  clear hN h hc
  go_enter Try.func23, Try.ntmps23
  go_wp2
  go_loopw [5, 10] (fun vr vi wr => ∃ (i : Nat) (r : Int), vi = .int .i64 i ∧ vr = .int .i64 r ∧ i ≤ n ∧ Hid (Below w.heap.size w wr) ∧ Hid (IsNear l q 0 i r))
    (fun _ vi _ => n - (intOf vi).toNat)
  case atStart => exact ⟨0, -1, rfl, rfl, by omega, Below.refl _ _, IsNear.start _ _ _⟩
  case round =>
    obtain ⟨i, r, rfl, rfl, hi, HB, HA⟩ := hrel
    by_cases hlt : i < n
    · have hltI : (i : Int) < (n : Int) := by omega
      have hil : i < l.length := by rw [HN.out]; exact hlt
      obtain ⟨y, o, rfl, hs, hok⟩ := (HS.out.below HB.out).at i hil
      have HC5 := hide (fun m (hm : m < l.length) => (show ∃ v, wr.cell? ⟨y, o + m * 7 + 5, none⟩ = some (.int .u64 (v : Nat)) ∧ v = l[m].value ∧ (v : Int) ≤ 18446744073709551615 from by
        obtain ⟨y', o', e, k, k2⟩ := (HS.out.below HB.out).at m hm
        cases e
        exact ⟨_, k.c5, rfl, k2.val⟩))
      obtain ⟨c0, c1, c2, c3, c4, c5, c6⟩ := hs
      obtain ⟨s, hse⟩ : ∃ s, l[i] = s := ⟨_, rfl⟩
      have HSE := hide hse
      rw [hse] at c0 c1 c2 c3 c4 c5 c6 hok
      clear hse
      have HE := hide (fun W => syms_Exported s W)
      have HH := hide (fun W => syms_has s q W hq hok)
      have hv := hok.val
      have HAS : Hid (hasS q s = (had s && (decide (s.value ≤ q) && decide (q - s.value < max s.size 1)))) := by rw [Hid, hasS, Bool.and_assoc]
      generalize (decide (s.value ≤ q) && decide (q - s.value < max s.size 1)) = b2 at *
      generalize hb1e : had s = b1 at *
      have HEC := hide (new_cells wr s)
      have HB0 : Hid (Below w.heap.size w (wr.alloc (.cells #[.string ⟨s.name.toArray⟩, .string ⟨s.ver.toArray⟩, .bool s.hidden, .int .i64 s.bind, .bool s.defined, .int .u64 s.value, .int .u64 s.size] 60))) := HB.out.trans ((bel1 wr _).mono HB.out.size)
      clear hb1e hok
      -- which way
      have hway : (b1 = false) ∨ (b1 = true ∧ b2 = false) ∨ (b1 = true ∧ b2 = true ∧ r = -1) ∨ (b1 = true ∧ b2 = true ∧ ∃ m : Nat, ∃ hm : m < l.length, r = (m : Int)) := by
        cases b1
        · exact .inl rfl
        · cases b2
          · exact .inr (.inl ⟨rfl, rfl⟩)
          · rcases HA.out.idx with h | ⟨m, hm, h⟩
            · exact .inr (.inr (.inl ⟨rfl, rfl, h⟩))
            · exact .inr (.inr (.inr ⟨rfl, rfl, m, hm, h⟩))
      rcases hway with rfl | ⟨rfl, rfl⟩ | ⟨rfl, rfl, rfl⟩ | ⟨rfl, rfl, m, hm, rfl⟩
      · go_wp2_with fail
        try simp only [List.append_eq, List.cons_append, List.nil_append]
        refine wp_region_quiet_below (by kernel_rfl) (by kernel_rfl) ?_
        obtain ⟨x0, x1, x2, x3, x4, x5, x6⟩ := HEC.out.zero
        have e0 := cell_regrown x0
        have e1 := cell_regrown x1
        have e2 := cell_regrown x2
        have e3 := cell_regrown x3
        have e4 := cell_regrown x4
        have e5 := cell_regrown x5
        have e6 := cell_regrown x6
        clear x0 x1 x2 x3 x4 x5 x6
        repeat (go_big_quiet_step (first | exact Calls.regrown_of (HE.out _) | exact Calls.regrown_of (HH.out _)))
        refine wpQuiet_nil ?_
        intro _ hwq
        obtain ⟨⟨dq, osq⟩, hwq2⟩ := hwq
        subst hwq2
        have HB2 : Hid (Below w.heap.size w (grow (redrawn (wr.alloc (.cells #[.string ⟨s.name.toArray⟩, .string ⟨s.ver.toArray⟩, .bool s.hidden, .int .i64 s.bind, .bool s.defined, .int .u64 s.value, .int .u64 s.size] 60)) dq) osq)) := HB0.out.trans ((below_regrown _ dq osq).mono HB0.out.size)
        clear e0 e1 e2 e3 e4 e5 e6 HEC c0 c1 c2 c3 c4 c5 c6
        generalize grow _ _ = w2 at *
        go_wp2
        go_roundw
        case rel => exact ⟨i + 1, _, by go_num, rfl, by omega, HB2, HA.out.skip hil (.inl (by rw [HSE.out, HAS.out]; rfl))⟩
        case measure => simp [intOf]; omega
      · go_wp2_with fail
        try simp only [List.append_eq, List.cons_append, List.nil_append]
        refine wp_region_quiet_below (by kernel_rfl) (by kernel_rfl) ?_
        obtain ⟨x0, x1, x2, x3, x4, x5, x6⟩ := HEC.out.zero
        have e0 := cell_regrown x0
        have e1 := cell_regrown x1
        have e2 := cell_regrown x2
        have e3 := cell_regrown x3
        have e4 := cell_regrown x4
        have e5 := cell_regrown x5
        have e6 := cell_regrown x6
        clear x0 x1 x2 x3 x4 x5 x6
        repeat (go_big_quiet_step (first | exact Calls.regrown_of (HE.out _) | exact Calls.regrown_of (HH.out _)))
        refine wpQuiet_nil ?_
        intro _ hwq
        obtain ⟨⟨dq, osq⟩, hwq2⟩ := hwq
        subst hwq2
        have HB2 : Hid (Below w.heap.size w (grow (redrawn (wr.alloc (.cells #[.string ⟨s.name.toArray⟩, .string ⟨s.ver.toArray⟩, .bool s.hidden, .int .i64 s.bind, .bool s.defined, .int .u64 s.value, .int .u64 s.size] 60)) dq) osq)) := HB0.out.trans ((below_regrown _ dq osq).mono HB0.out.size)
        clear e0 e1 e2 e3 e4 e5 e6 HEC c0 c1 c2 c3 c4 c5 c6
        generalize grow _ _ = w2 at *
        go_wp2
        go_roundw
        case rel => exact ⟨i + 1, _, by go_num, rfl, by omega, HB2, HA.out.skip hil (.inl (by rw [HSE.out, HAS.out]; rfl))⟩
        case measure => simp [intOf]; omega
      · go_wp2_with fail
        try simp only [List.append_eq, List.cons_append, List.nil_append]
        refine wp_region_quiet_below (by kernel_rfl) (by kernel_rfl) ?_
        obtain ⟨x0, x1, x2, x3, x4, x5, x6⟩ := HEC.out.zero
        have e0 := cell_regrown x0
        have e1 := cell_regrown x1
        have e2 := cell_regrown x2
        have e3 := cell_regrown x3
        have e4 := cell_regrown x4
        have e5 := cell_regrown x5
        have e6 := cell_regrown x6
        clear x0 x1 x2 x3 x4 x5 x6
        repeat (go_big_quiet_step (first | exact Calls.regrown_of (HE.out _) | exact Calls.regrown_of (HH.out _)))
        refine wpQuiet_nil ?_
        intro _ hwq
        obtain ⟨⟨dq, osq⟩, hwq2⟩ := hwq
        subst hwq2
        have HB2 : Hid (Below w.heap.size w (grow (redrawn (wr.alloc (.cells #[.string ⟨s.name.toArray⟩, .string ⟨s.ver.toArray⟩, .bool s.hidden, .int .i64 s.bind, .bool s.defined, .int .u64 s.value, .int .u64 s.size] 60)) dq) osq)) := HB0.out.trans ((below_regrown _ dq osq).mono HB0.out.size)
        clear e0 e1 e2 e3 e4 e5 e6 HEC c0 c1 c2 c3 c4 c5 c6
        generalize grow _ _ = w2 at *
        go_wp2
        go_roundw
        case rel => exact ⟨i + 1, _, by go_num, rfl, by omega, HB2, HA.out.take hil (by rw [HSE.out, HAS.out]; rfl) (.inl rfl)⟩
        case measure => simp [intOf]; omega
      · obtain ⟨vm, cm, hvm, hvl⟩ := HC5.out m hm
        have HVM := hide hvm
        have hmb : ((m : Int) == -1) = false := by rw [beq_eq_false_iff_ne]; omega
        have hmn : (m : Int) < (n : Int) := by have := HN.out; omega
        have hm0 : (0 : Int) ≤ (m : Int) := by omega
        have hmy : y < wr.heap.size := World.block_lt_of_cell? _ _ cm
        have HCM : Hid ((wr.alloc (.cells #[.string ⟨s.name.toArray⟩, .string ⟨s.ver.toArray⟩, .bool s.hidden, .int .i64 s.bind, .bool s.defined, .int .u64 s.value, .int .u64 s.size] 60)).cell? ⟨y, o + m * 7 + 5, none⟩ = some (.int .u64 (vm : Nat))) := by
          rw [Hid, (bel1 wr _).cell (p := ⟨y, o + m * 7 + 5, none⟩) hmy]; exact cm
        clear cm hvm
        go_wp2_with fail
        try simp only [List.append_eq, List.cons_append, List.nil_append]
        refine wp_region_quiet_below (by kernel_rfl) (by kernel_rfl) ?_
        obtain ⟨x0, x1, x2, x3, x4, x5, x6⟩ := HEC.out.zero
        have e0 := cell_regrown x0
        have e1 := cell_regrown x1
        have e2 := cell_regrown x2
        have e3 := cell_regrown x3
        have e4 := cell_regrown x4
        have e5 := cell_regrown x5
        have e6 := cell_regrown x6
        have em := cell_regrown HCM.out
        clear x0 x1 x2 x3 x4 x5 x6
        repeat (go_big_quiet_step (first | exact Calls.regrown_of (HE.out _) | exact Calls.regrown_of (HH.out _)))
        refine wpQuiet_nil ?_
        intro _ hwq
        obtain ⟨⟨dq, osq⟩, hwq2⟩ := hwq
        subst hwq2
        have HB2 : Hid (Below w.heap.size w (grow (redrawn (wr.alloc (.cells #[.string ⟨s.name.toArray⟩, .string ⟨s.ver.toArray⟩, .bool s.hidden, .int .i64 s.bind, .bool s.defined, .int .u64 s.value, .int .u64 s.size] 60)) dq) osq)) := HB0.out.trans ((below_regrown _ dq osq).mono HB0.out.size)
        clear e0 e1 e2 e3 e4 e5 e6 em HCM HEC c0 c1 c2 c3 c4 c5 c6
        generalize grow _ _ = w2 at *
        by_cases hgt : vm < s.value
        · have hgtI : (vm : Int) < (s.value : Int) := by omega
          have HGT := hide hgt
          clear hgt
          go_wp2
          go_roundw
          case rel => exact ⟨i + 1, _, by go_num, rfl, by omega, HB2, HA.out.take hil (by rw [HSE.out, HAS.out]; rfl) (.inr ⟨m, hm, rfl, by rw [← HVM.out, HSE.out]; exact HGT.out⟩)⟩
          case measure => simp [intOf]; omega
        · have hgtI : ¬ (vm : Int) < (s.value : Int) := by omega
          have HGT := hide hgt
          clear hgt
          go_wp2
          go_roundw
          case rel => exact ⟨i + 1, _, by go_num, rfl, by omega, HB2, HA.out.skip hil (.inr ⟨m, hm, rfl, by rw [← HVM.out, HSE.out]; have := HGT.out; omega⟩)⟩
          case measure => simp [intOf]; omega
    · have hltI : ¬ (i : Int) < (n : Int) := by omega
      have he : i = n := by omega
      subst he
      go_wp2
      go_ret
      exact ⟨_, rfl, HA, HB.out⟩
end Go.Proofs.Ytnmohnbfnmhdlaa
