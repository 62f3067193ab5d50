
/-
  Layer 7 (zip): putList and putFile keep their contracts.
-/
import Derived.Test.YtegcdddfccmljaaZpH
set_option linter.unusedVariables false
namespace Go.Proofs.Ytegcdddfccmljaa
open Go.RowKit Go.PlainAid
theorem num_Pages (n : Nat) (w : World) (h1 : (n : Int) ≤ 18446744073709551000) :
    Calls Try.prog 45 #[.int .u64 n] w fun e w' => e = .returned (.int .u64 (((n + 255) / 256 : Nat) : Int)) ∧ w = w' := by
  by_cases h : n % 256 = 0
  · have e : ((n : Int) % 256 == 0) = true := by rw [beq_iff_eq]; omega
    have e2 : (((n + 255) / 256 : Nat) : Int) = (n : Int) / 256 := by omega
    rw [e2]
    go_enter Try.func45, Try.ntmps45
    go_wp2
    go_ret
    exact ⟨rfl, rfl⟩
  · have e : ((n : Int) % 256 == 0) = false := by rw [beq_eq_false_iff_ne]; omega
    have e2 : (((n + 255) / 256 : Nat) : Int) = (n : Int) / 256 + 1 := by omega
    rw [e2]
    go_enter Try.func45, Try.ntmps45
    go_wp2
    go_ret
    exact ⟨rfl, rfl⟩
/-- How many bytes 0 bring to a page's beginning. -/
def padN (e : Nat) : Nat := (e + 255) / 256 * 256 - e
theorem padN_is (e : Nat) : (e + padN e) % 256 = 0 ∧ padN e < 256 ∧ (e + 255) / 256 * 256 = e + padN e := by unfold padN; omega
/-- A file's own header, what brings it to a page's beginning, and its bytes. -/
def ownB (p : Nat) (nm d : List UInt8) : List UInt8 := leN 4 67324752 ++ leN 2 10 ++ sizesB nm.length d.length ++ leN 2 (padN (p + 30 + nm.length)) ++ nm ++ List.replicate (padN (p + 30 + nm.length)) 0 ++ d
theorem ownB_len (p : Nat) (nm d : List UInt8) : (ownB p nm d).length = 30 + nm.length + padN (p + 30 + nm.length) + d.length := by simp [ownB, leN_length, sizesB_len]; omega
/-- Its entry of the list. -/
def listB (p : Nat) (nm d : List UInt8) : List UInt8 := leN 4 33639248 ++ leN 2 10 ++ leN 2 10 ++ sizesB nm.length d.length ++ List.replicate 12 0 ++ leN 4 p ++ nm
theorem listB_len (p : Nat) (nm d : List UInt8) : (listB p nm d).length = 46 + nm.length := by simp [listB, leN_length, sizesB_len]; omega
set_option maxHeartbeats 2000000 in
theorem zip_putList (w : World) (B R : Nat) (o : Option Nat) (l nm d : List UInt8) (h : Bf w B R o l) (hB : B ≤ w.heap.size) (a : Option Addr) (cap p : Nat) (hd : d.length ≤ 262144) (hn : nm.length ≤ 256) (hp : p ≤ 262144) (hl : l.length ≤ 700000000) :
    Calls Try.prog 24 #[.pointer (some ⟨R, 0, none⟩), .agg #[.string ⟨nm.toArray⟩, .slice a d.length cap], .int .i64 p] w fun e w' => e = .returned (.tuple #[]) ∧ Lays w w' B R o (l ++ listB p nm d) := by
  obtain ⟨D, hD⟩ : ∃ D, d.length = D := ⟨_, rfl⟩
  have HD := hide hD
  rw [hD] at hd ⊢
  clear hD
  have HB1 : Hid (Below w.heap.size w (w.alloc (.cells #[.string ⟨nm.toArray⟩, .slice a D cap] 50))) := (Below.refl _ w).alloc (Nat.le_refl _) _
  have x0 : (w.alloc (.cells #[.string ⟨nm.toArray⟩, .slice a D cap] 50)).cell? ⟨w.heap.size, 0, none⟩ = some (.string ⟨nm.toArray⟩) := by rw [World.cell?_alloc_at _ _ _ _ (by simp)]; simp
  have x1 : (w.alloc (.cells #[.string ⟨nm.toArray⟩, .slice a D cap] 50)).cell? ⟨w.heap.size, 1, none⟩ = some (.slice a D cap) := by rw [World.cell?_alloc_at _ _ _ _ (by simp)]; simp
  have hbf := h.below HB1.out
  have HRn : Hid (w.heap.size ≠ R ∧ some w.heap.size ≠ o) := ⟨fun e => by have := h.lt; omega, fun e => by have := (h.own_ge _ e.symm).2; omega⟩
  have HL0 := hide (Lays.refl hbf)
  have HBW := hide (Nat.le_trans hB HB1.out.size)
  have HX0 := hide x0
  have HX1 := hide x1
  have hdI : (D : Int) ≤ 262144 := by omega
  have hpI : (p : Int) ≤ 262144 := by omega
  have HLL := hide hl
  have HNL := hide hn
  clear h hB hbf hl
  go_enter Try.func24, Try.ntmps24
  go_wp2_with fail
  clear x0 x1
  generalize w.alloc (.cells #[.string ⟨nm.toArray⟩, .slice a D cap] 50) = W at *
  refine (lays_Put32 HL0.out HBW.out 33639248 (by have := HLL.out; omega) (by omega)).mono ?_
  rintro e w1 ⟨rfl, h1⟩
  have HL1 := hide h1
  clear h1
  go_wp2_with fail
  refine (lays_Put16 HL1.out HBW.out 10 (by have := HLL.out; simp [leN_length]; omega) (by omega)).mono ?_
  rintro e w2 ⟨rfl, h2⟩
  have HL2 := hide h2
  clear h2
  go_wp2_with fail
  refine (lays_Put16 HL2.out HBW.out 10 (by have := HLL.out; simp [leN_length]; omega) (by omega)).mono ?_
  rintro e w3 ⟨rfl, h3⟩
  have HL3 := hide h3
  have c0 := h3.cell HX0.out HRn.out.1 HRn.out.2
  have c1 := h3.cell HX1.out HRn.out.1 HRn.out.2
  clear h3
  go_wp2_with fail
  refine (HL3.out.lift fun o1 k1 => zip_putSizes w3 B R o1 _ nm k1 (Nat.le_trans HBW.out HL3.out.size) a D cap hd HNL.out (by have := HLL.out; simp [leN_length]; omega)).mono ?_
  rintro e w4 ⟨rfl, h4⟩
  have HL4 := hide h4
  clear h4 c0 c1
  go_wp2_with fail
  refine (lays_Zeros HL4.out HBW.out 12 (by have := HLL.out; simp [leN_length, sizesB_len]; omega) (by omega)).mono ?_
  rintro e w5 ⟨rfl, h5⟩
  have HL5 := hide h5
  clear h5
  go_wp2_with fail
  refine (lays_Put32 HL5.out HBW.out p (by have := HLL.out; simp [leN_length, sizesB_len]; omega) (by omega)).mono ?_
  rintro e w6 ⟨rfl, h6⟩
  have HL6 := hide h6
  have c0 := h6.cell HX0.out HRn.out.1 HRn.out.2
  clear h6
  go_wp2_with (refine conv_bytes rfl _ rfl nm rfl (by have := HNL.out; omega) ?_)
  intro vn w7 ha7 hb7
  have HA7 := hide ha7
  have HL7 := hide (HL6.out.below hb7)
  clear ha7 hb7 c0
  go_wp2_with fail
  refine (lays_Raw HL7.out HBW.out vn HA7.out (by have := HLL.out; have := HNL.out; simp [leN_length, sizesB_len]; omega)).mono ?_
  rintro e w8 ⟨rfl, h8⟩
  have HL8 := hide h8
  clear h8
  go_wp2
  go_end0
  refine ⟨rfl, Lays.pre HB1.out ?_⟩
  have := HL8.out
  rw [listB, HD.out]
  simpa [List.append_assoc] using this
set_option maxHeartbeats 2000000 in
theorem zip_putFile (w : World) (B R : Nat) (o : Option Nat) (l nm d : List UInt8) (h : Bf w B R o l) (hB : B ≤ w.heap.size) (a : Option Addr) (cap : Nat) (hv : ∀ W, Below B w W → Arg W (.slice a d.length cap) d) (hd : d.length ≤ 262144) (hn : nm.length ≤ 256) (hl : l.length ≤ 700000000) :
    Calls Try.prog 26 #[.pointer (some ⟨R, 0, none⟩), .agg #[.string ⟨nm.toArray⟩, .slice a d.length cap]] w fun e w' => e = .returned (.tuple #[]) ∧ Lays w w' B R o (l ++ ownB l.length nm d) := by
  obtain ⟨D, hD⟩ : ∃ D, d.length = D := ⟨_, rfl⟩
  have HD := hide hD
  rw [hD] at hd hv ⊢
  clear hD
  have HV := hide hv
  have HB1 : Hid (Below w.heap.size w (w.alloc (.cells #[.string ⟨nm.toArray⟩, .slice a D cap] 50))) := (Below.refl _ w).alloc (Nat.le_refl _) _
  have x0 : (w.alloc (.cells #[.string ⟨nm.toArray⟩, .slice a D cap] 50)).cell? ⟨w.heap.size, 0, none⟩ = some (.string ⟨nm.toArray⟩) := by rw [World.cell?_alloc_at _ _ _ _ (by simp)]; simp
  have x1 : (w.alloc (.cells #[.string ⟨nm.toArray⟩, .slice a D cap] 50)).cell? ⟨w.heap.size, 1, none⟩ = some (.slice a D cap) := by rw [World.cell?_alloc_at _ _ _ _ (by simp)]; simp
  have hbf := h.below HB1.out
  have HRn : Hid (w.heap.size ≠ R ∧ some w.heap.size ≠ o) := ⟨fun e => by have := h.lt; omega, fun e => by have := (h.own_ge _ e.symm).2; omega⟩
  have HL0 := hide (Lays.refl hbf)
  have HBW := hide (Nat.le_trans hB HB1.out.size)
  have HX0 := hide x0
  have HX1 := hide x1
  have HBF := hide h
  have HBB := hide hB
  have hdI : (D : Int) ≤ 262144 := by omega
  have HLL := hide hl
  have HNL := hide hn
  have hnI : (nm.length : Int) ≤ 256 := by omega
  have hsz : ((⟨nm.toArray⟩ : ByteArray).size : Int) = (nm.length : Int) := by simp [ByteArray.size]
  obtain ⟨L, hL⟩ : ∃ L, l.length = L := ⟨_, rfl⟩
  have HL := hide hL
  obtain ⟨z, hz⟩ : ∃ z, padN (L + 30 + nm.length) = z := ⟨_, rfl⟩
  have HZ := hide hz
  obtain ⟨hz1, hz2, hz3⟩ := padN_is (L + 30 + nm.length)
  rw [hz] at hz1 hz2 hz3
  obtain ⟨Q, hQ⟩ : ∃ Q, (L + 30 + nm.length + 255) / 256 = Q := ⟨_, rfl⟩
  rw [hQ] at hz3
  have hLI : (L : Int) ≤ 700000000 := by omega
  have hPg : ∀ W, Calls Try.prog 45 #[.int .u64 ((L : Int) + 30 + (nm.length : Int))] W fun e w' => e = .returned (.int .u64 (Q : Int)) ∧ W = w' := fun W => by
    have k := num_Pages (L + 30 + nm.length) W (by omega)
    rw [hQ, show ((L + 30 + nm.length : Nat) : Int) = (L : Int) + 30 + (nm.length : Int) by omega] at k
    exact k
  have hQI : (Q : Int) * 256 = (L : Int) + 30 + (nm.length : Int) + (z : Int) := by omega
  have hzI : (z : Int) < 256 := by omega
  have hsub : (Q : Int) * 256 - ((L : Int) + 30 + (nm.length : Int)) = (z : Int) := by omega
  have HSUB := hide hsub
  have HB0 := hide hbf
  have hLq : ∀ q, Calls Try.prog 25 #[.pointer (some ⟨R, 0, none⟩)] ((w.alloc (.cells #[.string ⟨nm.toArray⟩, .slice a D cap] 50)).drewN q) fun e w' => e = .returned (.int .i64 (L : Int)) ∧ w' = (w.alloc (.cells #[.string ⟨nm.toArray⟩, .slice a D cap] 50)).drewN q := fun q => by
    have k := le_Len ((w.alloc (.cells #[.string ⟨nm.toArray⟩, .slice a D cap] 50)).drewN q) B R o l (hbf.below ⟨rfl, rfl, rfl, Nat.le_refl _, fun _ _ => rfl⟩)
    rw [hL] at k
    exact k.mono fun e w' ⟨e1, e2⟩ => ⟨e1, e2.symm⟩
  have HPG := hide hPg
  clear h hB hbf hl hL hz hz1 hz2 hz3 hQ hPg hsub hv
  go_enter Try.func26, Try.ntmps26
  go_wp2_with fail
  go_quiet ((go_at_call 25; exact Calls.quiet_of_same (hLq _)))
  clear hLq x0 x1
  go_wp2_with fail
  have HB1d : Hid (Below w.heap.size w ((w.alloc (.cells #[.string ⟨nm.toArray⟩, .slice a D cap] 50)).drewN nq)) := ⟨HB1.out.os, HB1.out.tape, HB1.out.output, HB1.out.size, HB1.out.block⟩
  have HL0d : Hid (Lays ((w.alloc (.cells #[.string ⟨nm.toArray⟩, .slice a D cap] 50)).drewN nq) ((w.alloc (.cells #[.string ⟨nm.toArray⟩, .slice a D cap] 50)).drewN nq) B R o l) := Lays.refl (HB0.out.below ⟨rfl, rfl, rfl, Nat.le_refl _, fun _ _ => rfl⟩)
  have HX0d : Hid (((w.alloc (.cells #[.string ⟨nm.toArray⟩, .slice a D cap] 50)).drewN nq).cell? ⟨w.heap.size, 0, none⟩ = some (.string ⟨nm.toArray⟩)) := HX0.out
  have HX1d : Hid (((w.alloc (.cells #[.string ⟨nm.toArray⟩, .slice a D cap] 50)).drewN nq).cell? ⟨w.heap.size, 1, none⟩ = some (.slice a D cap)) := HX1.out
  have HBWd : Hid (B ≤ ((w.alloc (.cells #[.string ⟨nm.toArray⟩, .slice a D cap] 50)).drewN nq).heap.size) := HBW.out
  clear HB1 HL0 HX0 HX1 HBW HB0
  generalize (w.alloc (.cells #[.string ⟨nm.toArray⟩, .slice a D cap] 50)).drewN nq = W at *
  have HBD : Hid (∀ w1 l1, Lays W w1 B R o l1 → Arg w1 (.slice a D cap) d) := fun w1 l1 k => HV.out w1 (Lays.out_below (Lays.pre HB1d.out k) HBF.out HBB.out)
  clear HV
  refine (HPG.out _).mono ?_
  rintro e w1 ⟨rfl, rfl⟩
  go_wp2_with fail
  rw [show (L : Int) + 30 + (nm.length : Int) + (z : Int) - ((L : Int) + 30 + (nm.length : Int)) = (z : Int) by omega]
  clear hQI HPG HSUB
  refine (lays_Put32 HL0d.out HBWd.out 67324752 (by have := HLL.out; omega) (by omega)).mono ?_
  rintro e w1 ⟨rfl, h1⟩
  have HL1 := hide h1
  clear h1
  go_wp2_with fail
  refine (lays_Put16 HL1.out HBWd.out 10 (by have := HLL.out; simp [leN_length]; omega) (by omega)).mono ?_
  rintro e w2 ⟨rfl, h2⟩
  have HL2 := hide h2
  have c0 := h2.cell HX0d.out HRn.out.1 HRn.out.2
  have c1 := h2.cell HX1d.out HRn.out.1 HRn.out.2
  clear h2
  go_wp2_with fail
  refine (HL2.out.lift fun o1 k1 => zip_putSizes w2 B R o1 _ nm k1 (Nat.le_trans HBWd.out HL2.out.size) a D cap hd HNL.out (by have := HLL.out; simp [leN_length]; omega)).mono ?_
  rintro e w3 ⟨rfl, h3⟩
  have HL3 := hide h3
  clear h3 c0 c1
  go_wp2_with fail
  refine (lays_Put16 HL3.out HBWd.out z (by have := HLL.out; simp [leN_length, sizesB_len]; omega) (by omega)).mono ?_
  rintro e w4 ⟨rfl, h4⟩
  have HL4 := hide h4
  have c0 := h4.cell HX0d.out HRn.out.1 HRn.out.2
  clear h4
  go_wp2_with (refine conv_bytes rfl _ rfl nm rfl (by have := HNL.out; omega) ?_)
  intro vn w5 ha5 hb5
  have HA5 := hide ha5
  have HL5 := hide (HL4.out.below hb5)
  clear ha5 hb5 c0
  go_wp2_with fail
  refine (lays_Raw HL5.out HBWd.out vn HA5.out (by have := HLL.out; have := HNL.out; simp [leN_length, sizesB_len]; omega)).mono ?_
  rintro e w6 ⟨rfl, h6⟩
  have HL6 := hide h6
  clear h6
  go_wp2_with fail
  refine (lays_Zeros HL6.out HBWd.out z (by have := HLL.out; have := HNL.out; simp [leN_length, sizesB_len]; omega) (by omega)).mono ?_
  rintro e w7 ⟨rfl, h7⟩
  have HL7 := hide h7
  have c1 := h7.cell HX1d.out HRn.out.1 HRn.out.2
  clear h7
  go_wp2_with fail
  refine (lays_Raw HL7.out HBWd.out _ (HBD.out _ _ HL7.out) (by have := HLL.out; have := HNL.out; have := HD.out; simp [leN_length, sizesB_len]; omega)).mono ?_
  rintro e w8 ⟨rfl, h8⟩
  have HL8 := hide h8
  clear h8
  go_wp2
  go_end0
  refine ⟨rfl, Lays.pre HB1d.out ?_⟩
  have := HL8.out
  rw [ownB, HL.out, HZ.out, HD.out]
  simpa [List.append_assoc] using this
end Go.Proofs.Ytegcdddfccmljaa
