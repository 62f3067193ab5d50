
/-
  The end of a room; Used; where there is a gap; where a hint says that a room should begin.
-/
import Derived.Test.YtdecbnmibjcnaaaVmA
set_option linter.unusedVariables false
namespace Go.Proofs.Ytdecbnmibjcnaaa
open Go.RowKit Go.PlainAid Go.Sort
theorem q_cell2 (w : World) (cs : Array Value) (T : TypeId) (k : Nat) (v : Value) (h : cs[k]? = some v) (d : Nat) (os : Array Obj) : (grow (redrawn (w.alloc (.cells cs T)) d) os).cell? ⟨w.heap.size, k, none⟩ = some v :=
  cell_regrown (by simp [h]) d os
set_option maxHeartbeats 4000000 in
theorem vm_end (p : Nat) (s : Option Addr) (n cap : Nat) (w : World) (hn : n ≤ 64) (hp : p ≤ 1099511627776) :
    Calls Try.prog 51 #[.agg #[.int .u64 p, .slice s n cap]] w fun e w' => e = .returned (.int .u64 ((p + n * 256 : Nat) : Int)) ∧ Below w.heap.size w w' := by
  go_enter Try.func51, Try.ntmps51
  go_wp2
  try simp only [List.append_eq, List.cons_append, List.nil_append]
  refine wp_region_quiet_below (by kernel_rfl) (by kernel_rfl) ?_
  have c0 := q_cell2 w #[.int .u64 p, .slice s n cap] 85 0 _ rfl
  have c1 := q_cell2 w #[.int .u64 p, .slice s n cap] 85 1 _ rfl
  repeat (go_big_quiet_step (exact Calls.regrown_of (vm_size p s n cap _ hn)))
  refine wpQuiet_nil ?_
  intro _ hw'
  obtain ⟨⟨dq, osq⟩, hw''⟩ := hw'
  subst hw''
  clear c0 c1
  go_wp2
  go_ret
  refine ⟨by congr 2, ((Below.refl w.heap.size w).alloc (Nat.le_refl _) _).trans ((below_regrown _ dq osq).mono (by simp))⟩
set_option maxHeartbeats 2000000 in
theorem vm_Used (w : World) (S : Nat) (v : Value) (sp : Sp) (h : SpAt w S v sp) (hk : sp.ok) :
    Calls Try.prog 20 #[.pointer (some ⟨S, 0, none⟩)] w fun e w' => e = .returned (.int .i64 (used sp.rooms : Nat)) ∧ Below w.heap.size w w' := by
  have hu : used sp.rooms ≤ 1024 := by have := hk.use; have := hk.b1; omega
  have hl := hk.len
  rcases h.told with ⟨rfl, hr⟩ | ⟨g, cap, ht⟩
  · have h1 := h.c1
    rw [hr]
    clear hu hl
    go_enter Try.func20, Try.ntmps20
    go_wp2
    go_loopw [3, 11] (fun vs vi wr => vi = .int .i64 0 ∧ vs = .int .i64 0 ∧ wr = w) (fun _ _ _ => 0)
    case atStart => exact ⟨rfl, rfl, rfl⟩
    case round =>
      obtain ⟨rfl, rfl, rfl⟩ := hrel
      go_wp2
      go_ret
      exact ⟨rfl, Below.refl _ _⟩
  · obtain ⟨hc1, hlt, rfl, hglt, hn0, hcap1, hat0, hat1⟩ := id ht
    have HT : Hid (Told w S (.slice (some ⟨g, 0, none⟩) sp.rooms.length cap) sp.rooms sp.rooms.length g cap) := ht
    have HU : Hid (used sp.rooms ≤ 1024) := hu
    have hcap : cap ≤ 9223372036854775807 := by unfold maxLen at hcap1; omega
    clear hat0 hat1 ht hu h hk
    go_enter Try.func20, Try.ntmps20
    go_wp2
    go_loopw [3, 11] (fun vs vi wr => ∃ i : Nat, i ≤ sp.rooms.length ∧ vi = .int .i64 i ∧ vs = .int .i64 (used (sp.rooms.take i) : Nat) ∧ Hid (Below w.heap.size w wr)) (fun _ vi _ => sp.rooms.length - (intOf vi).toNat)
    case atStart => exact ⟨0, by omega, rfl, rfl, Below.refl _ _⟩
    case round =>
      obtain ⟨i, hi, rfl, rfl, HB⟩ := hrel
      by_cases hlt2 : i < sp.rooms.length
      · have hltI : (i : Int) < (sp.rooms.length : Int) := by omega
        have hT := HT.out.stay HB.out
        have e0 := hT.at0 i hlt2
        have e1 := hT.at1 i hlt2
        have hg2 := hT.glt
        have hs := used_take_succ sp.rooms i hlt2
        have hs2 := used_take_le sp.rooms (i + 1)
        have HS : Hid (used (sp.rooms.take (i + 1)) = used (sp.rooms.take i) + sp.rooms[i].pages.length) := hs
        have hb1 : used (sp.rooms.take i) + sp.rooms[i].pages.length ≤ 1024 := by have := HU.out; omega
        unfold Rm.sl at e1
        clear hT hs hs2
        generalize sp.rooms[i].pages.length = m at *
        generalize used (sp.rooms.take i) = u at *
        generalize sp.rooms[i].pos = p at *
        generalize sp.rooms[i].blk = bl at *
        generalize sp.rooms[i].cap = cp at *
        go_wp2
        go_roundw
        case rel => exact ⟨i + 1, by omega, by go_num, by rw [HS.out]; go_num, HB.out.alloc HB.out.size _⟩
        case measure => simp [intOf]; omega
      · have hltI : ¬ (i : Int) < (sp.rooms.length : Int) := by omega
        have he : i = sp.rooms.length := by omega
        subst he
        rw [List.take_length] at *
        go_wp2
        go_ret
        exact ⟨rfl, HB.out⟩
theorem gapAt_le {l : List Rm} (h : ∀ r ∈ l, r.fin ≤ 1099511627776) (f n : Nat) (hf : f ≤ 1099511627776) : gapAt l f n ≤ 1099511627776 := by
  induction l generalizing f with
  | nil => exact hf
  | cons r l ih =>
    unfold gapAt
    split
    · exact hf
    · exact ih (fun x hx => h x (List.mem_cons_of_mem _ hx)) _ (by have := h r List.mem_cons_self; omega)
/-- What gap answers. -/
def gapV (l : List Rm) (f n : Nat) : Value := if gapAt l f n + n ≤ 1099511627776 then .tuple #[.int .u64 (gapAt l f n : Nat), .bool true] else .tuple #[.int .u64 0, .bool false]
theorem gapV_yes {l : List Rm} {f n : Nat} (h : gapAt l f n + n ≤ 1099511627776) : gapV l f n = .tuple #[.int .u64 (gapAt l f n : Nat), .bool true] := by unfold gapV; rw [if_pos h]
theorem gapV_no {l : List Rm} {f n : Nat} (h : ¬ gapAt l f n + n ≤ 1099511627776) : gapV l f n = .tuple #[.int .u64 0, .bool false] := by unfold gapV; rw [if_neg h]
theorem gapAt_drop_stop {l : List Rm} {i f n : Nat} (h : i < l.length) (hs : f + n ≤ l[i].pos) : gapAt (l.drop i) f n = f := by
  rw [List.drop_eq_getElem_cons h, gapAt, if_pos hs]
theorem gapAt_drop_on {l : List Rm} {i f n : Nat} (h : i < l.length) (hs : ¬ f + n ≤ l[i].pos) : gapAt (l.drop i) f n = gapAt (l.drop (i + 1)) (max f l[i].fin) n := by
  rw [List.drop_eq_getElem_cons h, gapAt, if_neg hs]
set_option maxHeartbeats 4000000 in
theorem vm_gap (w : World) (S : Nat) (v : Value) (sp : Sp) (h : SpAt w S v sp) (hk : sp.ok) (f n : Nat) (hf : f ≤ 1099511627776) (hn : n ≤ 16384) :
    Calls Try.prog 40 #[.pointer (some ⟨S, 0, none⟩), .int .u64 f, .int .u64 n] w fun e w' => e = .returned (gapV sp.rooms f n) ∧ Below w.heap.size w w' := by
  have hl := hk.len
  have HE : Hid (∀ r ∈ sp.rooms, r.ok) := hk.each
  rcases h.told with ⟨rfl, hr⟩ | ⟨g, cap, ht⟩
  · have h1 := h.c1
    rw [hr]
    have HG : Hid (gapAt [] f n = f) := rfl
    clear hl
    go_enter Try.func40, Try.ntmps40
    go_wp2
    go_loopw [1, 15] (fun vs vi wr => vi = .int .i64 0 ∧ vs = .int .u64 f ∧ wr = w) (fun _ _ _ => 0)
    case atStart => exact ⟨rfl, rfl, rfl⟩
    case round =>
      obtain ⟨rfl, rfl, rfl⟩ := hrel
      by_cases hfit : f + n ≤ 1099511627776
      · have hfi : ¬ (1099511627776 : Int) < (f : Int) + (n : Int) := by omega
        have HV : Hid _ := gapV_yes (l := []) (f := f) (n := n) hfit
        clear hfit
        go_wp2
        go_ret2
        exact ⟨by rw [HV.out, HG.out]; rfl, Below.refl _ _⟩
      · have hfi : (1099511627776 : Int) < (f : Int) + (n : Int) := by omega
        have HV : Hid _ := gapV_no (l := []) (f := f) (n := n) hfit
        clear hfit
        go_wp2
        go_ret2
        exact ⟨by rw [HV.out]; rfl, Below.refl _ _⟩
  · obtain ⟨hc1, hlt, rfl, hglt, hn0, hcap1, hat0, hat1⟩ := id ht
    have HT : Hid (Told w S (.slice (some ⟨g, 0, none⟩) sp.rooms.length cap) sp.rooms sp.rooms.length g cap) := ht
    have hcap : cap ≤ 9223372036854775807 := by unfold maxLen at hcap1; omega
    clear hat0 hat1 ht h hk
    go_enter Try.func40, Try.ntmps40
    go_wp2
    go_loopw [1, 15] (fun vs vi wr => ∃ i x : Nat, i ≤ sp.rooms.length ∧ vi = .int .i64 i ∧ vs = .int .u64 x ∧ x ≤ 1099511627776 ∧ Hid (gapAt (sp.rooms.drop i) x n = gapAt sp.rooms f n) ∧ Hid (Below w.heap.size w wr)) (fun _ vi _ => sp.rooms.length - (intOf vi).toNat)
    case atStart => exact ⟨0, f, by omega, rfl, rfl, hf, rfl, Below.refl _ _⟩
    case round =>
      obtain ⟨i, x, hi, rfl, rfl, hx, HG, HB⟩ := hrel
      by_cases hlt2 : i < sp.rooms.length
      · have hltI : (i : Int) < (sp.rooms.length : Int) := by omega
        have hT := HT.out.stay HB.out
        have e0 := hT.at0 i hlt2
        have e1 := hT.at1 i hlt2
        have hg2 := hT.glt
        have hro := HE.out _ (List.getElem_mem hlt2)
        have hm := hro.most
        have htop := hro.top
        unfold Rm.fin Rm.size at htop
        unfold Rm.sl at e1
        by_cases hst : x + n ≤ sp.rooms[i].pos
        · have HX : Hid (gapAt sp.rooms f n = x) := HG.out.symm.trans (gapAt_drop_stop hlt2 hst)
          have hgi : (x : Int) + (n : Int) ≤ (sp.rooms[i].pos : Int) := by omega
          have hfi : ¬ (1099511627776 : Int) < (x : Int) + (n : Int) := by omega
          have HV : Hid _ := gapV_yes (l := sp.rooms) (f := f) (n := n) (by rw [HX.out]; omega)
          clear hT HG hst
          generalize sp.rooms[i].pages.length = m at *
          generalize sp.rooms[i].pos = p at *
          generalize sp.rooms[i].blk = bl at *
          generalize sp.rooms[i].cap = cp at *
          go_wp2
          go_ret2
          exact ⟨by rw [HV.out, HX.out]; rfl, HB.out.alloc HB.out.size _⟩
        · have HX : Hid (gapAt (sp.rooms.drop (i + 1)) (max x (sp.rooms[i].pos + sp.rooms[i].pages.length * 256)) n = gapAt sp.rooms f n) := by rw [← HG.out, gapAt_drop_on hlt2 hst]; rfl
          have hgi : ¬ (x : Int) + (n : Int) ≤ (sp.rooms[i].pos : Int) := by omega
          clear hT HG hst
          generalize sp.rooms[i].pages.length = m at *
          generalize sp.rooms[i].pos = p at *
          generalize sp.rooms[i].blk = bl at *
          generalize sp.rooms[i].cap = cp at *
          have hp : p ≤ 1099511627776 := by omega
          have hEnd := vm_end p (some ⟨bl, 0, none⟩) m cp
          have htop2 : p + m * 256 ≤ 1099511627776 := by omega
          by_cases hmx : x < p + m * 256
          · rw [Nat.max_eq_right (Nat.le_of_lt hmx)] at HX
            have hmi : (x : Int) < ((p + m * 256 : Nat) : Int) := by omega
            clear hmx htop
            generalize p + m * 256 = q at *
            go_wp2_with (go_at_call 51; refine (hEnd _ hm hp).mono ?_; rintro e w1 ⟨rfl, hb⟩)
            go_roundw
            case rel => exact ⟨i + 1, q, by omega, by go_num, rfl, htop2, HX, (HB.out.alloc HB.out.size _).trans (hb.mono (by simpa using Nat.le_succ_of_le HB.out.size))⟩
            case measure => simp [intOf]; omega
          · rw [Nat.max_eq_left (by omega)] at HX
            have hmi : ¬ (x : Int) < ((p + m * 256 : Nat) : Int) := by omega
            clear hmx htop
            generalize p + m * 256 = q at *
            go_wp2_with (go_at_call 51; refine (hEnd _ hm hp).mono ?_; rintro e w1 ⟨rfl, hb⟩)
            go_roundw
            case rel => exact ⟨i + 1, x, by omega, by go_num, rfl, hx, HX, (HB.out.alloc HB.out.size _).trans (hb.mono (by simpa using Nat.le_succ_of_le HB.out.size))⟩
            case measure => simp [intOf]; omega
      · have hltI : ¬ (i : Int) < (sp.rooms.length : Int) := by omega
        have he : i = sp.rooms.length := by omega
        subst he
        have HX : Hid (gapAt sp.rooms f n = x) := by have := HG.out; rw [List.drop_length] at this; exact this.symm
        by_cases hfit : x + n ≤ 1099511627776
        · have hfi : ¬ (1099511627776 : Int) < (x : Int) + (n : Int) := by omega
          have HV : Hid _ := gapV_yes (l := sp.rooms) (f := f) (n := n) (by rw [HX.out]; omega)
          clear hfit HG
          go_wp2
          go_ret2
          exact ⟨by rw [HV.out, HX.out]; rfl, HB.out⟩
        · have hfi : (1099511627776 : Int) < (x : Int) + (n : Int) := by omega
          have HV : Hid _ := gapV_no (l := sp.rooms) (f := f) (n := n) (by rw [HX.out]; omega)
          clear hfit HG
          go_wp2
          go_ret2
          exact ⟨by rw [HV.out]; rfl, HB.out⟩
/-- Where a hint says that a room should begin. -/
def startOf (h : Nat) : Nat := max (h % 1099511627776 - h % 1099511627776 % 256) 256
theorem vm_start (w : World) (h : Nat) (hh : (h : Int) ≤ 18446744073709551615) :
    Calls Try.prog 41 #[.int .u64 h] w fun e w' => e = .returned (.int .u64 (startOf h : Nat)) ∧ w = w' := by
  have hlt : h % 1099511627776 < 1099511627776 := Nat.mod_lt _ (by omega)
  have e1 : (h : Int).tmod 1099511627776 = ((h % 1099511627776 : Nat) : Int) := by rw [Int.tmod_eq_emod_of_nonneg (by omega)]; omega
  unfold startOf
  generalize h % 1099511627776 = b at *
  have e2 : (b : Int).tmod 256 = ((b % 256 : Nat) : Int) := by rw [Int.tmod_eq_emod_of_nonneg (by omega)]; omega
  by_cases hm : b - b % 256 < 256
  · rw [Nat.max_eq_right (by omega)]
    have h3 : (b : Int) - ((b % 256 : Nat) : Int) < 256 := by omega
    go_enter Try.func41, Try.ntmps41
    go_wp2
    go_ret
    exact ⟨rfl, rfl⟩
  · rw [Nat.max_eq_left (by omega)]
    have h3 : ¬ (b : Int) - ((b % 256 : Nat) : Int) < 256 := by omega
    go_enter Try.func41, Try.ntmps41
    go_wp2
    go_ret
    exact ⟨by show Ending.returned (.int .u64 ((b : Int) - (b : Int) % 256)) = _; congr 2; omega, rfl⟩
end Go.Proofs.Ytdecbnmibjcnaaa
