
/-
  Layer 8 (head): whether a read-only piece may be; whole structs are loaded and stored.
-/
import Derived.Test.YtgpjfcnlhlkblaaHdG
import Derived.Laws.BitsAllLaws
set_option linter.unusedVariables false
namespace Go.Proofs.Ytgpjfcnlhlkblaa
open Go.RowKit Go.PlainAid Go.Sort
theorem and_two (n : Nat) (h : n < 4294967296) : (bits .and .u32 (n : Int) 2 != 0) = decide (n / 2 % 2 = 1) := by
  have e := u32_and_nat n 2 h (by omega)
  rw [show ((2 : Nat) : Int) = 2 from rfl] at e
  have e2 : n &&& 2 = (n / 2 % 2) * 2 := by
    have h1 : (n &&& 2) / 2 = n / 2 &&& 2 / 2 := Nat.and_div_two
    rw [show 2 / 2 = 1 from rfl, Nat.and_one_is_mod] at h1
    have h2 := Nat.and_mod_two_pow (a := n) (b := 2) (n := 1)
    rw [show 2 ^ 1 = 2 from rfl, show 2 % 2 = 0 from rfl, Nat.and_zero] at h2
    omega
  rw [e, e2]
  by_cases c : n / 2 % 2 = 1
  · rw [decide_eq_true c, c]; rfl
  · rw [decide_eq_false c, show n / 2 % 2 = 0 by omega]; rfl
theorem q_same {F : FuncId} {args : Array Value} {W : World} {d : Nat} {os : Array Obj} {v : Value} (h : Calls Try.prog F args (grow (redrawn W d) os) fun e w' => e = .returned v ∧ grow (redrawn W d) os = w') :
    Calls Try.prog F args (grow (redrawn W d) os) fun e w'' => e = .returned v ∧ ∃ p : Regrown, w'' = grow (redrawn W p.d) p.os :=
  h.mono fun _ _ ⟨he, hw⟩ => ⟨he, ⟨d, os⟩, hw.symm⟩
set_option maxHeartbeats 4000000 in
set_option maxRecDepth 20000 in
theorem head_relroRight (w : World) (m : Nat) (v : Value) (d r : Ph) (ps : List Ph) (h : ArgH w v ps) (ok : ∀ p ∈ ps, p.ok) (en : ∀ p ∈ ps, p.vaddr ≤ endN p) (x : Ph) (hx : x.ok) :
    Calls Try.prog 39 #[.agg (hdCells m v d r).toArray, .agg x.cells.toArray] w fun e w' => e = .returned (.bool (relroOk ps x)) ∧ Below w.heap.size w w' := by
  have HB : Hid (Below w.heap.size w ((w.alloc (.cells (hdCells m v d r).toArray 37)).alloc (.cells x.cells.toArray 32))) := ((Below.refl _ w).alloc (Nat.le_refl _) _).alloc (by simp) _
  have HA := hide (h.below HB.out)
  have hl := h.1
  obtain ⟨a, cap, rfl⟩ := h.form
  have HK := hide ok
  have HE := hide en
  have h1 := hx.vaddr
  have h2 := hx.memsz
  obtain ⟨O, hO⟩ : ∃ O, relroOk ps x = O := ⟨_, rfl⟩
  rw [hO]
  unfold relroOk at hO
  have hoq : ∀ t, holdW t x = holdW t x := fun _ => rfl
  have HX := hide (fun (p : Ph) (t : List Ph) => show holdW (p :: t) x = if insN x.vaddr x.memsz p.vaddr (endN p - p.vaddr) then decide (p.flags / 2 % 2 = 1) else holdW t x from rfl)
  generalize hH : (fun t => holdW t x) = H at *
  have HH : ∀ t, holdW t x = H t := fun t => by rw [← hH]
  rw [HH] at hO
  have HX2 := hide (fun (p : Ph) (t : List Ph) => show H (p :: t) = if insN x.vaddr x.memsz p.vaddr (endN p - p.vaddr) then decide (p.flags / 2 % 2 = 1) else H t by rw [← HH, ← HH]; rfl)
  have HX0 : Hid (H [] = false) := by rw [Hid, ← HH]; rfl
  clear h ok en hx hoq HX hH HH
  obtain ⟨ty, fl, off, va, fs, ms, al⟩ := x
  unfold hdCells at *
  simp only [Ph.cells] at *
  have m1 : ((ms : Int) == 0) = decide (ms = 0) := by
    by_cases c : ms = 0
    · rw [decide_eq_true c]; simp; omega
    · rw [decide_eq_false c]; simp; omega
  have m2 : ((va : Int) % 256 != 0) = !decide (va % 256 = 0) := by
    by_cases c : va % 256 = 0
    · rw [decide_eq_true c]; simp; omega
    · rw [decide_eq_false c]; simp; omega
  generalize decide (ms = 0) = b1 at *
  generalize decide (va % 256 = 0) = b2 at *
  cases b1 with
  | true =>
    simp only [Bool.not_true, Bool.false_and] at hO
    subst hO
    go_enter Try.func39, Try.ntmps39
    go_wp2
    go_ret
    exact ⟨rfl, HB.out⟩
  | false =>
    cases b2 with
    | false =>
      simp only [Bool.not_false, Bool.true_and, Bool.false_and] at hO
      subst hO
      go_enter Try.func39, Try.ntmps39
      go_wp2
      go_ret
      exact ⟨rfl, HB.out⟩
    | true =>
      simp only [Bool.not_false, Bool.true_and] at hO
      have HO : Hid (H (ps.drop 0) = O) := hO
      clear hO
      go_enter Try.func39, Try.ntmps39
      go_wp2
      have HZ : Hid (∀ k, ((w.alloc (.cells (hdCells m (.slice a ps.length cap) d r).toArray 37)).alloc (.cells (Ph.cells ⟨ty, fl, off, va, fs, ms, al⟩).toArray 32)).cell? ⟨w.heap.size + 1, k, none⟩ = (Ph.cells ⟨ty, fl, off, va, fs, ms, al⟩)[k]?) := fun k => by
        unfold World.cell?
        rw [show w.heap.size + 1 = (w.alloc (.cells (hdCells m (.slice a ps.length cap) d r).toArray 37)).heap.size by simp, heap_alloc_new]
        simp
      have HS : Hid (w.heap.size + 1 < ((w.alloc (.cells (hdCells m (.slice a ps.length cap) d r).toArray 37)).alloc (.cells (Ph.cells ⟨ty, fl, off, va, fs, ms, al⟩).toArray 32)).heap.size) := by rw [Hid]; simp
      unfold hdCells at HZ HS
      simp only [Ph.cells] at HZ HS
      generalize (w.alloc _).alloc _ = w0 at *
      go_loopw [6, 19] (fun _ vi wr => ∃ i : Nat, i ≤ ps.length ∧ vi = .int .i64 i ∧ Hid (Below w0.heap.size w0 wr) ∧ Hid (H (ps.drop i) = O)) (fun _ vi _ => ps.length - (intOf vi).toNat)
      case atStart => exact ⟨0, by omega, rfl, Below.refl _ _, HO⟩
      case round =>
        obtain ⟨i, hi, rfl, HW, HF⟩ := hrel
        by_cases hlt : i < ps.length
        · have hltI : (i : Int) < (ps.length : Int) := by omega
          obtain ⟨g, rfl, hc1, hc2, hg, y0, y1, y2, y3, y4, y5, y6⟩ := (HA.out.below HW.out).at i hlt
          have hok := HK.out ps[i] (List.getElem_mem hlt)
          have hen := HE.out ps[i] (List.getElem_mem hlt)
          have hF := HF.out
          rw [List.drop_eq_getElem_cons hlt, HX2.out] at hF
          clear HF
          generalize ps[i] = p at *
          have p1 := hok.vaddr
          have p2 := hok.flags
          have hEl := endN_le p
          have HEn := hide (fun W => head_End W p hok)
          obtain ⟨E, hE⟩ : ∃ E, endN p = E := ⟨_, rfl⟩
          rw [hE] at hF hEl HEn hen
          obtain ⟨pty, pfl, poff, pva, pfs, pms, pal⟩ := p
          simp only [Ph.cells] at y0 y1 y2 y3 y4 y5 y6 p1 p2 hF hen HEn
          have HB1 : Hid (Below w0.heap.size w0 (wr.alloc (.cells #[.int .u32 pty, .int .u32 pfl, .int .u64 poff, .int .u64 pva, .int .u64 pfs, .int .u64 pms, .int .u64 pal] 32))) := HW.out.alloc HW.out.size _
          have HI := hide (fun W => num_Inside (va : Int) (ms : Int) (pva : Int) ((E : Int) - (pva : Int)) W (by omega) (by omega) (by omega) (by omega) (by omega) (by omega))
          have eI : inB (va : Int) (ms : Int) (pva : Int) ((E : Int) - (pva : Int)) = insN va ms pva (E - pva) := by
            rw [← insN_is, show (E : Int) - (pva : Int) = ((E - pva : Nat) : Int) by omega]
          rw [eI] at HI
          have HAT := hide (and_two pfl p2)
          have ewr : IntKind.u64.wrap ((E : Int) - (pva : Int)) = (E : Int) - (pva : Int) := by rw [IntKind.wrap_u64]; omega
          have x3 := HB1.out.cell (p := ⟨w.heap.size + 1, 3, none⟩) HS.out
          have x5 := HB1.out.cell (p := ⟨w.heap.size + 1, 5, none⟩) HS.out
          rw [HZ.out 3] at x3
          rw [HZ.out 5] at x5
          have xl3 : (wr.alloc (.cells #[.int .u32 pty, .int .u32 pfl, .int .u64 poff, .int .u64 pva, .int .u64 pfs, .int .u64 pms, .int .u64 pal] 32)).cell? ⟨w.heap.size + 1, 3, none⟩ = some (.int .u64 va) := x3
          have xl5 : (wr.alloc (.cells #[.int .u32 pty, .int .u32 pfl, .int .u64 poff, .int .u64 pva, .int .u64 pfs, .int .u64 pms, .int .u64 pal] 32)).cell? ⟨w.heap.size + 1, 5, none⟩ = some (.int .u64 ms) := x5
          have HX3 := hide xl3
          have HX5 := hide xl5
          have ec : ∀ k u, (Ph.cells ⟨pty, pfl, poff, pva, pfs, pms, pal⟩)[k]? = some u → (wr.alloc (.cells #[.int .u32 pty, .int .u32 pfl, .int .u64 poff, .int .u64 pva, .int .u64 pfs, .int .u64 pms, .int .u64 pal] 32)).cell? ⟨wr.heap.size, k, none⟩ = some u := fun k u hu => by
            rw [World.cell?_alloc_at _ _ _ _ (by simp)]; simpa [Ph.cells] using hu
          have HEC := hide ec
          generalize insN va ms pva (E - pva) = b at *
          clear hok hE x3 x5 xl3 xl5 ec eI
          go_wp2_with fail
          try simp only [List.append_eq, List.cons_append, List.nil_append]
          refine wp_region_quiet_below (by kernel_rfl) (by kernel_rfl) ?_
          have c3 := cell_regrown HX3.out
          have c5 := cell_regrown HX5.out
          have e0 := cell_regrown (HEC.out 0 _ rfl)
          have e1 := cell_regrown (HEC.out 1 _ rfl)
          have e2 := cell_regrown (HEC.out 2 _ rfl)
          have e3 := cell_regrown (HEC.out 3 _ rfl)
          have e4 := cell_regrown (HEC.out 4 _ rfl)
          have e5 := cell_regrown (HEC.out 5 _ rfl)
          have e6 := cell_regrown (HEC.out 6 _ rfl)
          repeat (go_big_quiet_step (first | exact q_same (HI.out _) | exact Calls.regrown_of (HEn.out _)))
          refine wpQuiet_nil ?_
          intro _ hw'
          obtain ⟨⟨dq, osq⟩, hw''⟩ := hw'
          subst hw''
          have HB2 : Hid (Below w0.heap.size w0 (grow (redrawn (wr.alloc (.cells #[.int .u32 pty, .int .u32 pfl, .int .u64 poff, .int .u64 pva, .int .u64 pfs, .int .u64 pms, .int .u64 pal] 32)) dq) osq)) := HB1.out.trans ((below_regrown _ dq osq).mono HB1.out.size)
          have f1 := e1 dq osq
          clear c3 c5 e0 e1 e2 e3 e4 e5 e6 HEC HX3 HX5
          generalize grow _ _ = w2 at *
          cases b with
          | true =>
            rw [if_pos rfl] at hF
            have hat := HAT.out
            rw [hF] at hat
            clear hF
            go_wp2
            go_ret
            exact ⟨rfl, HB.out.trans (HB2.out.mono HB.out.size)⟩
          | false =>
            rw [if_neg (by simp)] at hF
            have HF := hide hF
            clear hF
            go_wp2
            go_roundw
            case rel => exact ⟨i + 1, by omega, by go_num, HB2, HF⟩
            case measure => simp [intOf]; omega
        · have hltI : ¬ (i : Int) < (ps.length : Int) := by omega
          have he : i = ps.length := by omega
          subst he
          have hF := HF.out
          rw [List.drop_length, HX0.out] at hF
          have HF2 := hide hF
          clear HF hF
          go_wp2
          go_ret
          exact ⟨by rw [← HF2.out]; rfl, HB.out.trans (HW.out.mono HB.out.size)⟩
end Go.Proofs.Ytgpjfcnlhlkblaa
