
/-
  The pages that bytes touch.
-/
import Derived.Test.YtdecbnmibjcnaaaVmD
set_option linter.unusedVariables false
namespace Go.Proofs.Ytdecbnmibjcnaaa
open Go.RowKit Go.PlainAid Go.Sort
theorem q_Inside (x s y r : Int) (W : World) (d : Nat) (os : Array Obj) (h1 : 0 ≤ x) (h2 : x ≤ 18446744073709551615) (h3 : 0 ≤ y) (s0 : 0 ≤ s) (r0 : 0 ≤ r) (r1 : r ≤ 18446744073709551615) (v : Bool) (hv : inB x s y r = v) :
    Calls Try.prog 52 #[.int .u64 x, .int .u64 s, .int .u64 y, .int .u64 r] (grow (redrawn W d) os) fun e w'' => e = .returned (.bool v) ∧ ∃ p : Regrown, w'' = grow (redrawn W p.d) p.os :=
  (num_Inside x s y r (grow (redrawn W d) os) (by omega) (by omega) (by omega) (by omega) (by omega) (by omega)).mono fun _ _ ⟨he, hw⟩ => ⟨by rw [he, hv], ⟨d, os⟩, hw.symm⟩
theorem q_Pages (n : Nat) (W : World) (d : Nat) (os : Array Obj) (h1 : (n : Int) ≤ 18446744073709551000) :
    Calls Try.prog 54 #[.int .u64 n] (grow (redrawn W d) os) fun e w'' => e = .returned (.int .u64 (((n + 255) / 256 : Nat) : Int)) ∧ ∃ p : Regrown, w'' = grow (redrawn W p.d) p.os :=
  (num_Pages n (grow (redrawn W d) os) h1).mono fun _ _ ⟨he, hw⟩ => ⟨he, ⟨d, os⟩, hw.symm⟩
theorem hit_at' {l : List Rm} {a n b : Nat} (hb : begun l a = b + 1) (hi : b < l.length) : hit l a n = if a + n ≤ l[b].fin then some l[b] else none := by
  unfold hit; rw [if_neg (by omega), hb, Nat.add_sub_cancel, List.getElem?_eq_getElem hi]
set_option maxHeartbeats 4000000 in
theorem vm_touched (w : World) (S : Nat) (v : Value) (sp : Sp) (h : SpAt w S v sp) (hk : sp.ok) (a n : Nat) (ha : (a : Int) ≤ 18446744073709551615) (hn : (n : Int) ≤ 18446744073709551615) :
    Calls Try.prog 44 #[.pointer (some ⟨S, 0, none⟩), .int .u64 a, .int .u64 n] w fun e w' => e = .returned (touV sp.rooms a n) ∧ Below w.heap.size w w' := by
  have hBe := vm_begun w S v sp h hk a
  rcases h.told with ⟨rfl, hr⟩ | ⟨g, cap, ht⟩
  · have HV : Hid (touV sp.rooms a n = .tuple #[.slice none 0 0, .bool false]) := touV_none (hit_begun0 (by rw [hr]; rfl))
    rw [show begun sp.rooms a = 0 by rw [hr]; rfl] at hBe
    go_enter Try.func44, Try.ntmps44
    go_wp2_with (go_at_call 48; refine hBe.mono ?_; rintro e w1 ⟨rfl, hb⟩)
    go_ret2
    exact ⟨by rw [HV.out]; rfl, hb⟩
  · by_cases hb0 : begun sp.rooms a = 0
    · have HV : Hid (touV sp.rooms a n = .tuple #[.slice none 0 0, .bool false]) := touV_none (hit_begun0 hb0)
      rw [hb0] at hBe
      clear ht hb0
      go_enter Try.func44, Try.ntmps44
      go_wp2_with (go_at_call 48; refine hBe.mono ?_; rintro e w1 ⟨rfl, hb⟩)
      go_ret2
      exact ⟨by rw [HV.out]; rfl, hb⟩
    · obtain ⟨b, hb⟩ : ∃ b, begun sp.rooms a = b + 1 := ⟨begun sp.rooms a - 1, by omega⟩
      have hble := begun_le sp.rooms a
      have hbl : b < sp.rooms.length := by omega
      have hlo := begun_lo sp.rooms a b (by omega) hbl
      have hhit := hit_at' (l := sp.rooms) (a := a) (n := n) hb hbl
      rw [hb] at hBe
      have hro := hk.each _ (List.getElem_mem hbl)
      obtain ⟨hc1, hlt, rfl, hglt, hn0, hcap1, hat0, hat1⟩ := id ht
      have hcap : cap ≤ 9223372036854775807 := by unfold maxLen at hcap1; omega
      have HT : Hid _ := ht
      have hr1 := hro.low
      have hr2 := hro.page
      have hr3 := hro.top
      have hr4 := hro.one
      have hr5 := hro.most
      have hr6 := hro.cap0
      have hr7 := hro.cap1
      have hr8 : sp.rooms[b].cap ≤ 9223372036854775807 := by unfold maxLen at hr7; omega
      have hfi : sp.rooms[b].fin = sp.rooms[b].pos + sp.rooms[b].pages.length * 256 := rfl
      have hxi : (b : Int) < (sp.rooms.length : Int) := by omega
      have he0 : ∀ w1, Below w.heap.size w w1 → w1.cell? ⟨g, b * 2, none⟩ = some (.int .u64 sp.rooms[b].pos) := fun w1 hb => (ht.stay hb).at0 b hbl
      have he1 : ∀ w1, Below w.heap.size w w1 → w1.cell? ⟨g, b * 2 + 1, none⟩ = some (.slice (some ⟨sp.rooms[b].blk, 0, none⟩) sp.rooms[b].pages.length sp.rooms[b].cap) := fun w1 hb => (ht.stay hb).at1 b hbl
      have hc1' : ∀ w1, Below w.heap.size w w1 → w1.cell? ⟨S, 1, none⟩ = some (.slice (some ⟨g, 0, none⟩) sp.rooms.length cap) := fun w1 hb => (ht.stay hb).c1
      have hg' : ∀ w1, Below w.heap.size w w1 → g < w1.heap.size := fun w1 hb => (ht.stay hb).glt
      clear hat0 hat1 ht h hk hro hb hb0 hble
      generalize hR : sp.rooms[b] = r at *
      clear hR
      by_cases hin : a + n ≤ r.fin
      · rw [if_pos hin] at hhit
        by_cases hz : n = 0
        · subst hz
          have HV : Hid _ := touV_zero hhit
          have hinB : inB (a : Int) ((0 : Nat) : Int) (r.pos : Int) ((r.pages.length * 256 : Nat) : Int) = true := by unfold inB; simp; omega
          have hm : r.pages.length ≤ 64 := hr5
          clear hhit hin hfi
          generalize r.pages.length = m at *
          generalize r.pos = p at *
          generalize r.blk = bl at *
          generalize r.cap = cp at *
          go_enter Try.func44, Try.ntmps44
          go_wp2_with (go_at_call 48; refine hBe.mono ?_; rintro e w1 ⟨rfl, hb⟩; have e0 := he0 w1 hb; have e1 := he1 w1 hb; have e2 := hc1' w1 hb; have e3 := hg' w1 hb; clear hBe he0 he1 hc1' hg')
          try simp only [List.append_eq, List.cons_append, List.nil_append]
          refine wp_region_quiet_below (by kernel_rfl) (by kernel_rfl) ?_
          have c0 := q_cell2 w1 #[.int .u64 p, .slice (some ⟨bl, 0, none⟩) m cp] 85 0 _ rfl
          have c1 := q_cell2 w1 #[.int .u64 p, .slice (some ⟨bl, 0, none⟩) m cp] 85 1 _ rfl
          repeat (go_big_quiet_step (first | exact Calls.regrown_of (vm_size p _ m cp _ hm) | exact q_Inside _ _ _ _ _ _ _ (by omega) (by omega) (by omega) (by omega) (by omega) (by omega) _ hinB))
          refine wpQuiet_nil ?_
          intro _ hw'
          obtain ⟨⟨dq, osq⟩, hw''⟩ := hw'
          subst hw''
          clear c0 c1
          go_wp2
          go_ret2
          exact ⟨by rw [HV.out]; rfl, (hb.alloc hb.size _).trans ((below_regrown _ dq osq).mono (by simpa using Nat.le_succ_of_le hb.size))⟩
        · have HV : Hid _ := touV_some hhit hz
          unfold Rm.seg Rm.lo Rm.hi at HV
          have hinB : inB (a : Int) (n : Int) (r.pos : Int) ((r.pages.length * 256 : Nat) : Int) = true := by unfold inB; simp; omega
          have hm : r.pages.length ≤ 64 := hr5
          have hzI : ((n : Int) == 0) = false := by rw [beq_eq_false_iff_ne]; omega
          obtain ⟨q, hq⟩ : ∃ q, a = r.pos + q := ⟨a - r.pos, by omega⟩
          rw [show a - r.pos = q by omega] at HV
          have hqn : q + n ≤ r.pages.length * 256 := by omega
          clear hhit hin
          generalize r.pages.length = m at *
          generalize r.pos = p at *
          generalize r.blk = bl at *
          generalize r.cap = cp at *
          have hlo2 : q / 256 ≤ (q + n + 255) / 256 := by omega
          have hhi2 : (q + n + 255) / 256 ≤ cp := by omega
          have hne : ¬ cp = q / 256 := by omega
          have hPg := q_Pages (q + n)
          generalize hL : q / 256 = lo at *
          have hLI : (q : Int) / 256 = (lo : Int) := by omega
          generalize (q + n + 255) / 256 = hi at *
          have hq2 : (a : Int) - (p : Int) = (q : Int) := by omega
          have hq3 : (q : Int) + (n : Int) ≤ 18446744073709551000 := by omega
          clear hL hq hfi hqn
          simp only [Int.natCast_add] at hPg
          go_enter Try.func44, Try.ntmps44
          go_wp2_with (go_at_call 48; refine hBe.mono ?_; rintro e w1 ⟨rfl, hb⟩; have e0 := he0 w1 hb; have e1 := he1 w1 hb; have e2 := hc1' w1 hb; have e3 := hg' w1 hb; clear hBe he0 he1 hc1' hg')
          try simp only [List.append_eq, List.cons_append, List.nil_append]
          refine wp_region_quiet_below (by kernel_rfl) (by kernel_rfl) ?_
          have c0 := q_cell2 w1 #[.int .u64 p, .slice (some ⟨bl, 0, none⟩) m cp] 85 0 _ rfl
          have c1 := q_cell2 w1 #[.int .u64 p, .slice (some ⟨bl, 0, none⟩) m cp] 85 1 _ rfl
          repeat (go_big_quiet_step (first | exact Calls.regrown_of (vm_size p _ m cp _ hm) | exact q_Inside _ _ _ _ _ _ _ (by omega) (by omega) (by omega) (by omega) (by omega) (by omega) _ hinB))
          refine wpQuiet_nil ?_
          intro _ hw'
          obtain ⟨⟨dq, osq⟩, hw''⟩ := hw'
          subst hw''
          have d0 := c0 dq osq
          have d1 := c1 dq osq
          clear c0 c1
          have HBQ : Hid (Below w.heap.size w (grow (redrawn (w1.alloc (.cells #[.int .u64 p, .slice (some ⟨bl, 0, none⟩) m cp] 85)) dq) osq)) := (hb.alloc hb.size _).trans ((below_regrown _ dq osq).mono (by simpa using Nat.le_succ_of_le hb.size))
          generalize grow (redrawn (w1.alloc (.cells #[.int .u64 p, .slice (some ⟨bl, 0, none⟩) m cp] 85)) dq) osq = W at *
          go_wp2
          try simp only [List.append_eq, List.cons_append, List.nil_append]
          refine wp_region_quiet_below (by kernel_rfl) (by kernel_rfl) ?_
          have f0 := fun d os => cell_regrown d0 d os
          have f1 := fun d os => cell_regrown d1 d os
          repeat (go_big_quiet_step (exact hPg _ _ _ hq3))
          refine wpQuiet_nil ?_
          intro _ hw'
          obtain ⟨⟨dr, osr⟩, hw''⟩ := hw'
          subst hw''
          clear f0 f1
          go_wp2
          go_ret2
          exact ⟨by rw [HV.out]; rfl, HBQ.out.trans ((below_regrown _ dr osr).mono HBQ.out.size)⟩
      · rw [if_neg hin] at hhit
        have HV : Hid _ := touV_none hhit
        have hinB : inB (a : Int) (n : Int) (r.pos : Int) ((r.pages.length * 256 : Nat) : Int) = false := by unfold inB; simp; omega
        have hm : r.pages.length ≤ 64 := hr5
        clear hhit hin hfi
        generalize r.pages.length = m at *
        generalize r.pos = p at *
        generalize r.blk = bl at *
        generalize r.cap = cp at *
        go_enter Try.func44, Try.ntmps44
        go_wp2_with (go_at_call 48; refine hBe.mono ?_; rintro e w1 ⟨rfl, hb⟩; have e0 := he0 w1 hb; have e1 := he1 w1 hb; have e2 := hc1' w1 hb; have e3 := hg' w1 hb; clear hBe he0 he1 hc1' hg')
        try simp only [List.append_eq, List.cons_append, List.nil_append]
        refine wp_region_quiet_below (by kernel_rfl) (by kernel_rfl) ?_
        have c0 := q_cell2 w1 #[.int .u64 p, .slice (some ⟨bl, 0, none⟩) m cp] 85 0 _ rfl
        have c1 := q_cell2 w1 #[.int .u64 p, .slice (some ⟨bl, 0, none⟩) m cp] 85 1 _ rfl
        repeat (go_big_quiet_step (first | exact Calls.regrown_of (vm_size p _ m cp _ hm) | exact q_Inside _ _ _ _ _ _ _ (by omega) (by omega) (by omega) (by omega) (by omega) (by omega) _ hinB))
        refine wpQuiet_nil ?_
        intro _ hw'
        obtain ⟨⟨dq, osq⟩, hw''⟩ := hw'
        subst hw''
        clear c0 c1
        go_wp2
        go_ret2
        exact ⟨by rw [HV.out]; rfl, (hb.alloc hb.size _).trans ((below_regrown _ dq osq).mono (by simpa using Nat.le_succ_of_le hb.size))⟩
end Go.Proofs.Ytdecbnmibjcnaaa
