
/-
  Layer 8's reference: a part's end, whether it may be, where bytes stand.
-/
import Derived.Test.YtgpjfcnlhlkblaaHdR
set_option linter.unusedVariables false
namespace Go.Proofs.Ytgpjfcnlhlkblaa
open Go.RowKit Go.PlainAid Go.Sort
set_option maxHeartbeats 1000000 in
theorem ref8_End (w : World) (p : Ph) (hs : p.vaddr + p.memsz ≤ 1000000) :
    Calls Try.prog 24 #[.agg p.cells.toArray] w fun e w' => e = .returned (.int .u64 (endN p)) ∧ Below w.heap.size w w' := by
  have HB : Hid (Below w.heap.size w (w.alloc (.cells p.cells.toArray 32))) := (Below.refl _ w).alloc (Nat.le_refl _) _
  have hT : endN p = (p.vaddr + p.memsz + 255) / 256 * 256 := by unfold endN; rw [if_pos (by omega)]
  obtain ⟨T, hTe⟩ : ∃ T, endN p = T := ⟨_, rfl⟩
  rw [hTe] at hT ⊢
  clear hTe
  obtain ⟨ty, fl, off, va, fs, ms, al⟩ := p
  simp only [Ph.cells] at *
  have h1 : (va : Int) + (ms : Int) ≤ 1000000 := by omega
  have HT := hide hT
  clear hT
  go_enter Try.func24, Try.ntmps24
  go_wp2
  generalize w.alloc _ = w0 at *
  go_loopw [3] (fun v3 wr => wr = w0 ∧ ∃ q : Nat, v3 = .int .u64 q ∧ va + ms ≤ q ∧ q ≤ T) (fun v3 _ => T - (intOf v3).toNat)
  case atStart => exact ⟨rfl, va + ms, by go_num, by omega, by have := HT.out; omega⟩
  case round =>
    obtain ⟨rfl, q, rfl, hq1, hq2⟩ := hrel
    have hTT := HT.out
    by_cases c : q % 256 = 0
    · obtain rfl : q = T := by omega
      have d : ((q : Int) % 256 != 0) = false := by simp; omega
      clear hTT
      go_wp2
      go_ret
      exact ⟨rfl, HB.out⟩
    · have d : ((q : Int) % 256 != 0) = true := by simp; omega
      have hq3 : q < T := by omega
      have hqI : (q : Int) ≤ 2000000 := by omega
      clear hTT
      go_wp2
      go_roundw
      case rel => exact ⟨trivial, q + 1, by go_num, by omega, by omega⟩
      case measure => simp [intOf]; omega
def mayB (p : Ph) (n e : Nat) (first : Bool) : Bool := partOk p n && !decide (p.vaddr < e) && !(first && !decide (p.vaddr = 0))
theorem may_iff (p : Ph) (n e : Nat) (first : Bool) : mayB p n e first = true ↔ (p.vaddr % 256 = 0 ∧ p.off % 256 = 0 ∧ p.flags ≤ 7 ∧ p.memsz ≠ 0 ∧ p.memsz ≤ 16384 ∧ p.filesz ≤ p.memsz ∧ p.vaddr ≤ 16384 ∧ p.off + p.filesz ≤ n ∧ (first = true → p.vaddr = 0) ∧ ¬ p.vaddr < e ∧ p.vaddr + p.memsz ≤ 16384) := by
  unfold mayB partOk insN
  cases first <;> simp <;> omega
set_option maxHeartbeats 4000000 in
set_option maxRecDepth 20000 in
theorem ref8_may (w : World) (p : Ph) (hp : p.ok) (n : Nat) (hn : n ≤ 140737488351232) (e : Nat) (he : e < 18446744073709551616) (first : Bool) :
    Calls Try.prog 40 #[.agg p.cells.toArray, .int .u64 n, .int .u64 e, .bool first] w fun x w' => x = .returned (.bool (mayB p n e first)) ∧ Below w.heap.size w w' := by
  have HB : Hid (Below w.heap.size w (w.alloc (.cells p.cells.toArray 32))) := (Below.refl _ w).alloc (Nat.le_refl _) _
  obtain ⟨O, hO⟩ : ∃ O, mayB p n e first = O := ⟨_, rfl⟩
  have hM := may_iff p n e first
  rw [hO] at hM ⊢
  have hI := ref_Inside (p.off : Int) (p.filesz : Int) 0 (n : Int) (w.alloc (.cells p.cells.toArray 32)) (by omega) (by have := hp.off; omega) (by omega) (by have := hp.filesz; omega) (by omega) (by omega) (by omega) (by omega)
  have e1 := insN_is p.off p.filesz 0 n
  rw [show ((0 : Nat) : Int) = 0 from rfl] at e1
  rw [e1] at hI
  have HEn := hide (fun W hs => ref8_End W p hs)
  have hEv : p.vaddr ≤ 16384 → p.memsz ≤ 16384 → p.vaddr % 256 = 0 → (endN p ≤ 16384 ↔ p.vaddr + p.memsz ≤ 16384) := fun _ _ _ => by
    unfold endN; rw [if_pos (by omega)]; omega
  obtain ⟨E, hE⟩ : ∃ E, endN p = E := ⟨_, rfl⟩
  rw [hE] at HEn hEv
  have hins : insN p.off p.filesz 0 n = decide (p.off + p.filesz ≤ n) := by unfold insN; rw [decide_eq_decide]; omega
  rw [hins] at hI
  have h1 := hp.vaddr
  have h2 := hp.off
  have h3 := hp.flags
  have h4 := hp.memsz
  have h5 := hp.filesz
  clear hp hO e1 hins hE
  obtain ⟨ty, fl, off, va, fs, ms, al⟩ := p
  simp only [Ph.cells] at *
  have fls : ¬ (O = true) → O = false := fun h => by cases O <;> simp at h ⊢
  have HFL := hide fls
  have HM := hide hM
  have HEV := hide hEv
  clear fls hM hEv
  by_cases c0 : va % 256 = 0
  rotate_left
  · obtain rfl := HFL.out (fun h => c0 (HM.out.1 h).1)
    have d0 : ((va : Int) % 256 != 0) = true := by simp; omega
    clear c0 HFL HM HEV HEn
    go_enter Try.func40, Try.ntmps40
    go_wp2
    go_ret
    exact ⟨rfl, HB.out⟩
  have d0 : ((va : Int) % 256 != 0) = false := by simp; omega
  by_cases c1 : off % 256 = 0
  rotate_left
  · obtain rfl := HFL.out (fun h => c1 (HM.out.1 h).2.1)
    have d1 : ((off : Int) % 256 != 0) = true := by simp; omega
    clear c1 HFL HM HEV HEn
    go_enter Try.func40, Try.ntmps40
    go_wp2
    go_ret
    exact ⟨rfl, HB.out⟩
  have d1 : ((off : Int) % 256 != 0) = false := by simp; omega
  by_cases c2 : fl ≤ 7
  rotate_left
  · obtain rfl := HFL.out (fun h => c2 (HM.out.1 h).2.2.1)
    have d2 : decide ((7 : Int) < (fl : Int)) = true := decide_eq_true (by omega)
    have i2 : (7 : Int) < (fl : Int) := by omega
    clear c2 HFL HM HEV HEn
    go_enter Try.func40, Try.ntmps40
    go_wp2
    go_ret
    exact ⟨rfl, HB.out⟩
  have d2 : decide ((7 : Int) < (fl : Int)) = false := decide_eq_false (by omega)
  by_cases c3 : ms ≠ 0
  rotate_left
  · obtain rfl := HFL.out (fun h => c3 (HM.out.1 h).2.2.2.1)
    have d3 : ((ms : Int) == 0) = true := by simp; omega
    clear c3 HFL HM HEV HEn
    go_enter Try.func40, Try.ntmps40
    go_wp2
    go_ret
    exact ⟨rfl, HB.out⟩
  have d3 : ((ms : Int) == 0) = false := by simp; omega
  by_cases c4 : ms ≤ 16384
  rotate_left
  · obtain rfl := HFL.out (fun h => c4 (HM.out.1 h).2.2.2.2.1)
    have d4 : decide ((16384 : Int) < (ms : Int)) = true := decide_eq_true (by omega)
    have i4 : (16384 : Int) < (ms : Int) := by omega
    clear c4 HFL HM HEV HEn
    go_enter Try.func40, Try.ntmps40
    go_wp2
    go_ret
    exact ⟨rfl, HB.out⟩
  have d4 : decide ((16384 : Int) < (ms : Int)) = false := decide_eq_false (by omega)
  by_cases c5 : fs ≤ ms
  rotate_left
  · obtain rfl := HFL.out (fun h => c5 (HM.out.1 h).2.2.2.2.2.1)
    have d5 : decide (ms < fs) = true := decide_eq_true (by omega)
    have i5 : ms < fs := by omega
    clear c5 HFL HM HEV HEn
    go_enter Try.func40, Try.ntmps40
    go_wp2
    go_ret
    exact ⟨rfl, HB.out⟩
  have d5 : decide (ms < fs) = false := decide_eq_false (by omega)
  by_cases c6 : va ≤ 16384
  rotate_left
  · obtain rfl := HFL.out (fun h => c6 (HM.out.1 h).2.2.2.2.2.2.1)
    have d6 : decide ((16384 : Int) < (va : Int)) = true := decide_eq_true (by omega)
    have i6 : (16384 : Int) < (va : Int) := by omega
    clear c6 HFL HM HEV HEn
    go_enter Try.func40, Try.ntmps40
    go_wp2
    go_ret
    exact ⟨rfl, HB.out⟩
  have d6 : decide ((16384 : Int) < (va : Int)) = false := decide_eq_false (by omega)
  by_cases c7 : off + fs ≤ n
  rotate_left
  · obtain rfl := HFL.out (fun h => c7 (HM.out.1 h).2.2.2.2.2.2.2.1)
    rw [decide_eq_false c7] at hI
    clear c0 c1 c2 c3 c4 c5 c6 c7 HFL HM HEV HEn
    go_enter Try.func40, Try.ntmps40
    go_wp2_with fail
    refine hI.mono ?_
    rintro x w1 ⟨rfl, hb1⟩
    have HB1 : Hid (Below w.heap.size w w1) := HB.out.trans (hb1.mono HB.out.size)
    clear hI hb1
    go_wp2
    go_ret
    exact ⟨rfl, HB1.out⟩
  rw [decide_eq_true c7] at hI
  have HC := hide (And.intro c0 (And.intro c1 (And.intro c2 (And.intro c3 (And.intro c4 (And.intro c5 (And.intro c6 c7)))))))
  have HZ : Hid (∀ (w1 : World), Below (w.alloc (.cells #[.int .u32 ty, .int .u32 fl, .int .u64 off, .int .u64 va, .int .u64 fs, .int .u64 ms, .int .u64 al] 32)).heap.size (w.alloc (.cells #[.int .u32 ty, .int .u32 fl, .int .u64 off, .int .u64 va, .int .u64 fs, .int .u64 ms, .int .u64 al] 32)) w1 → ∀ k u, (Ph.cells ⟨ty, fl, off, va, fs, ms, al⟩)[k]? = some u → w1.cell? ⟨w.heap.size, k, none⟩ = some u) := fun w1 hb k u hu => by
    rw [hb.cell (p := ⟨w.heap.size, k, none⟩) (by simp), World.cell?_alloc_at _ _ _ _ (by simp)]
    simpa [Ph.cells] using hu
  go_enter Try.func40, Try.ntmps40
  clear c0 c1 c2 c3 c4 c5 c6 c7
  go_wp2_with fail
  refine hI.mono ?_
  rintro x w1 ⟨rfl, hb1⟩
  have HB1 : Hid (Below w.heap.size w w1) := HB.out.trans (hb1.mono HB.out.size)
  have z0 := HZ.out w1 hb1 0 _ rfl
  have z1 := HZ.out w1 hb1 1 _ rfl
  have z2 := HZ.out w1 hb1 2 _ rfl
  have z3 := HZ.out w1 hb1 3 _ rfl
  have z4 := HZ.out w1 hb1 4 _ rfl
  have z5 := HZ.out w1 hb1 5 _ rfl
  have z6 := HZ.out w1 hb1 6 _ rfl
  clear hI hb1 HZ HB d0 d1 d2 d3 d4 d5 d6
  by_cases cf : first = true ∧ va ≠ 0
  · obtain ⟨rfl, cv⟩ := cf
    obtain rfl := HFL.out (fun h => cv ((HM.out.1 h).2.2.2.2.2.2.2.2.1 rfl))
    have dv : ((va : Int) != 0) = true := by simp; omega
    clear cv HFL HM HEV HEn
    go_wp2
    go_ret
    exact ⟨rfl, HB1.out⟩
  have hff : first = true → va = 0 := fun h => by
    by_cases c : va = 0
    · exact c
    · exact absurd ⟨h, c⟩ cf
  by_cases ce : va < e
  · obtain rfl := HFL.out (fun h => (HM.out.1 h).2.2.2.2.2.2.2.2.2.1 ce)
    clear HFL HM HEV HEn
    cases first with
    | true =>
      obtain rfl := hff rfl
      clear cf hff
      have de : decide (0 < e) = true := decide_eq_true ce
      go_wp2
      go_ret
      exact ⟨rfl, HB1.out⟩
    | false =>
      clear cf hff
      go_wp2
      go_ret
      exact ⟨rfl, HB1.out⟩
  have de : decide (va < e) = false := decide_eq_false ce
  obtain ⟨c0, c1, c2, c3, c4, c5, c6, c7⟩ := HC.out
  have hOv : O = decide (E ≤ 16384) := by
    by_cases c : E ≤ 16384
    · rw [decide_eq_true c]
      exact HM.out.2 ⟨c0, c1, c2, c3, c4, c5, c6, c7, hff, ce, (HEV.out c6 c4 c0).1 c⟩
    · rw [decide_eq_false c]
      exact HFL.out (fun h => c ((HEV.out c6 c4 c0).2 (HM.out.1 h).2.2.2.2.2.2.2.2.2.2))
  have hEn := HEn.out w1 (by omega)
  have hOI : decide ((E : Int) ≤ 16384) = O := by rw [hOv, decide_eq_decide]; omega
  clear hOv c0 c1 c2 c3 c4 c5 c6 c7 HM HFL HEV HEn ce HC
  cases first with
  | true =>
    obtain rfl := hff rfl
    clear cf hff
    go_wp2_with fail
    refine hEn.mono ?_
    rintro x w2 ⟨rfl, hb2⟩
    have HB2 : Hid (Below w.heap.size w w2) := HB1.out.trans (hb2.mono HB1.out.size)
    clear hEn hb2
    go_wp2
    go_ret
    exact ⟨rfl, HB2.out⟩
  | false =>
    clear cf hff
    go_wp2_with fail
    refine hEn.mono ?_
    rintro x w2 ⟨rfl, hb2⟩
    have HB2 : Hid (Below w.heap.size w w2) := HB1.out.trans (hb2.mono HB1.out.size)
    clear hEn hb2
    go_wp2
    go_ret
    exact ⟨rfl, HB2.out⟩
end Go.Proofs.Ytgpjfcnlhlkblaa
