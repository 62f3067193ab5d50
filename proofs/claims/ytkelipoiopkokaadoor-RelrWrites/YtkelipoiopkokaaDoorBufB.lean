
/-
  What lays bytes down in a buffer of package le: put, Put16, Put32, Put64, Raw, Zeros, To; Bytes; each keeps its contract.
-/
import Derived.Test.YtkelipoiopkokaaDoorArgA
import Derived.Test.YtkelipoiopkokaaDoorBufA
import Derived.Test.YtkelipoiopkokaaDoorNumA
import Derived.BigRegion
set_option linter.unusedVariables false
namespace Go.Proofs.YtkelipoiopkokaaDoor
open Go.RowKit Go.PlainAid
/-- A byte out of a number (a name, so that nobody takes it apart). -/
def b8 (k : Nat) : UInt8 := UInt8.ofNat k
theorem b8_toNat {k : Nat} (h : k < 256) : ((b8 k).toNat : Int) = (k : Int) := by
  unfold b8; rw [UInt8.toNat_ofNat']; omega
/-- The lowest k bytes of a number, the lowest one first. -/
def leN : Nat → Nat → List UInt8
  | 0, _ => []
  | k + 1, n => b8 (n % 256) :: leN k (n / 256)
theorem leN_length : ∀ k n, (leN k n).length = k
  | 0, _ => rfl
  | k + 1, n => by simp [leN, leN_length k]
theorem leN_snoc : ∀ i n, leN (i + 1) n = leN i n ++ [b8 (n / 256 ^ i % 256)]
  | 0, n => by simp [leN]
  | i + 1, n => by
    rw [leN, leN_snoc i (n / 256), leN]
    simp only [List.cons_append]
    rw [Nat.div_div_eq_div_mul, Nat.pow_succ, Nat.mul_comm]
theorem pow_step (n i : Nat) : n / 256 ^ (i + 1) = n / 256 ^ i / 256 := by rw [Nat.pow_succ, Nat.div_div_eq_div_mul]
theorem Own.isSlice {w : World} {B : Nat} {v : Value} {l : List UInt8} (h : Own w B v l) : ∃ a n cap, v = .slice a n cap := by
  obtain ⟨a, cap, rfl, _⟩ := h.slice
  exact ⟨_, _, _, rfl⟩
set_option maxHeartbeats 1000000 in
theorem le_put (w : World) (B R : Nat) (o : Option Nat) (l : List UInt8) (n k : Nat) (h : Bf w B R o l) (hB : B ≤ w.heap.size) (hl : l.length + k ≤ 1000000000) (hn : (n : Int) ≤ 18446744073709551615) :
    Calls Tryd.prog 27 #[.pointer (some ⟨R, 0, none⟩), .int .u64 n, .int .i64 k] w fun e w' => e = .returned (.tuple #[]) ∧ ∃ o', Bf w' B R o' (l ++ leN k n) ∧ Gr w w' R o ∧ Nx w o o' := by
  go_enter Tryd.func27, Tryd.ntmps27
  go_wp2
  go_loopw [1, 7] (fun vn vi wr => ∃ (i : Nat) (o' : Option Nat), i ≤ k ∧ vi = .int .i64 i ∧ vn = .int .u64 ((n / 256 ^ i : Nat) : Int) ∧ Bf wr B R o' (l ++ leN i n) ∧ Gr w wr R o ∧ Nx w o o')
    (fun _ vi _ => k - (intOf vi).toNat)
  case atStart => exact ⟨0, o, by omega, rfl, by simp, by simpa [leN] using h, Gr.refl _ _ _, Nx.refl _ _⟩
  case round =>
    obtain ⟨i, o1, hi, rfl, rfl, hb, hg, hx⟩ := hrel
    obtain ⟨m, hm⟩ : ∃ m, n / 256 ^ i = m := ⟨_, rfl⟩
    have hm2 : (m : Int) ≤ 18446744073709551615 := by
      have := Nat.div_le_self n (256 ^ i)
      omega
    have HM : Hid (n / 256 ^ i = m) := hm
    rw [hm]
    clear hm
    have hb0 := hb
    obtain ⟨v, hv, hown, rfl⟩ := hb.row
    have hsoft := hb.soft
    have hRlt := hb.lt
    have HB : Hid (Bf wr B R v.ownBlock (l ++ leN i n)) := hb0
    have hfar := hb.far
    clear hb0 hb
    have hBr : B ≤ wr.heap.size := Nat.le_trans hB hg.size
    by_cases hlt : i < k
    · have HL : Hid ((l ++ leN i n).length < 1000000000000) := by rw [Hid, List.length_append, leN_length]; omega
      go_wp2_with (at_builtin; refine append_byte_at rfl _ _ rfl B wr v (l ++ leN i n) _ hown (b8 (m % 256)) ?cc rfl rfl HL.out hBr ?_)
      case cc => rw [b8_toNat (by omega)]; omega
      intro v' w1 h1 h2 h3
      have hR1 : w1.cell? ⟨R, 0, none⟩ = some v := by
        rw [World.cell?_of_block (a := ⟨R, 0, none⟩) (h2.block R hRlt (fun e => hfar e.symm))]; exact hv
      have hS1 : w1.frozen? ⟨R, 0, none⟩ = false := by
        rw [World.frozen?_of_block (a := ⟨R, 0, none⟩) (h2.block R hRlt (fun e => hfar e.symm))]; exact hsoft
      have HS : Hid _ := HB.out.store hBr hv rfl (fun k hk hne => h2.block k hk hne) h2.size h2.os h2.tape h2.output h1 h3
      obtain ⟨a', n', cap', rfl⟩ := h1.isSlice
      go_wp2
      go_roundw
      case rel =>
        obtain ⟨s1, s2, s3⟩ := HS.out
        refine ⟨i + 1, _, by omega, by go_num, ?_, ?_, hg.trans hx s2, hx.trans hg.size s3⟩
        · rw [pow_step, HM.out]; go_num
        · rw [leN_snoc, HM.out]; exact s1
      case measure => simp [intOf]; omega
    · have hik : i = k := by omega
      subst hik
      go_wp2
      go_end0
      exact ⟨rfl, _, HB.out, hg, hx⟩
theorem le_Put64 (w : World) (B R : Nat) (o : Option Nat) (l : List UInt8) (n : Nat) (h : Bf w B R o l) (hB : B ≤ w.heap.size) (hl : l.length ≤ 900000000) (hn : (n : Int) ≤ 18446744073709551615) :
    Calls Tryd.prog 17 #[.pointer (some ⟨R, 0, none⟩), .int .u64 n] w fun e w' => e = .returned (.tuple #[]) ∧ ∃ o', Bf w' B R o' (l ++ leN 8 n) ∧ Gr w w' R o ∧ Nx w o o' := by
  have hP := le_put w B R o l n 8 h hB (by omega) (by omega)
  go_enter Tryd.func17, Tryd.ntmps17
  go_wp2_with fail
  refine hP.mono ?_
  rintro e w1 ⟨rfl, h1⟩
  go_wp2
  go_end0
  exact ⟨rfl, h1⟩
end Go.Proofs.YtkelipoiopkokaaDoor
