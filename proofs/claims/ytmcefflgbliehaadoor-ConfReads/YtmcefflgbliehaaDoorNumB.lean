
/-
  num.write keeps its contract: it returns the digits of a number in the base 10 or 16, for every number of 64 bits, in new memory alone.
-/
import Derived.Test.YtmcefflgbliehaaDoorNumA
import Derived.Test.YtmcefflgbliehaaDoorDigits
import Derived.Laws.IdiomStrings

set_option linter.unusedVariables false
namespace Go.Proofs.YtmcefflgbliehaaDoor
open Go.RowKit Go.PlainAid

/-- What holds of the block in which 'write' lays the digits: f places are still free, the rest hold acc. -/
structure Laid (B : Nat) (w wr : World) (f : Nat) (acc : List UInt8) : Prop where
  len : f + acc.length = 20
  cell : ∀ i, i < 20 → ∃ v, wr.cell? ⟨B, i, none⟩ = some v
  soft : ∀ i, i < 20 → wr.frozen? ⟨B, i, none⟩ = false
  has : ∀ i (hi : i < acc.length), wr.cell? ⟨B, f + i, none⟩ = some (.int .u8 (acc[i].toNat : Int))
  below : Below B w wr
theorem Laid.step {B : Nat} {w wr : World} {f : Nat} {acc : List UInt8} (L : Laid B w wr f acc) (hf : 1 ≤ f) (c : UInt8) (v : Value) (hv : v = .int .u8 (c.toNat : Int)) :
    Laid B w (wr.setCell ⟨B, f - 1, none⟩ v) (f - 1) (c :: acc) := by
  have hl := L.len
  subst hv
  refine ⟨by simp; omega, ?_, ?_, ?_, L.below.setCell (Nat.le_refl _) _⟩
  · intro i hi
    by_cases e : i = f - 1
    · subst e
      obtain ⟨u, hu⟩ := L.cell (f - 1) hi
      exact ⟨_, World.cell?_setCell_same _ _ _ hu⟩
    · rw [World.cell?_setCell_other _ _ _ _ (by intro e'; simp at e' <;> omega)]
      exact L.cell i hi
  · intro i hi
    rw [World.frozen?_setCell]; exact L.soft i hi
  · intro i hi
    match i, hi with
    | 0, _ =>
      obtain ⟨u, hu⟩ := L.cell (f - 1) (by omega)
      simpa using World.cell?_setCell_same _ _ _ hu
    | i + 1, hi =>
      rw [World.cell?_setCell_other _ _ _ _ (by intro e'; simp at e' <;> omega)]
      have h2 := L.has i (by simpa using hi)
      have e : f - 1 + (i + 1) = f + i := by omega
      rw [e, h2]; simp
theorem Laid.start (w : World) (C : Array Value) (hC : C.size = 20) (t : TypeId) : Laid w.heap.size w (w.alloc (.cells C t)) 20 [] := by
  refine ⟨rfl, ?_, ?_, fun i hi => absurd hi (by simp), (Below.refl _ _).alloc (Nat.le_refl _) _⟩
  · intro i hi
    rw [World.cell?_alloc_mark]
    exact ⟨C[i], by simp [hC, hi]⟩
  · intro i hi
    simp
theorem digs_more_10 {n f m : Nat} {acc : List UInt8} (hf : 1 ≤ f) (hm : m < 10 ^ f) (H : digs 10 20 n = digs 10 f m ++ acc) (h : m / 10 ≠ 0) :
    1 ≤ f - 1 ∧ m / 10 < 10 ^ (f - 1) ∧ digs 10 20 n = digs 10 (f - 1) (m / 10) ++ (dg (m % 10) :: acc) := by
  obtain ⟨g, rfl⟩ : ∃ g, f = g + 1 := ⟨f - 1, by omega⟩
  have h1 : m / 10 < 10 ^ g := div_lt_pow (by omega) hm
  refine ⟨?_, h1, ?_⟩
  · cases g with
    | zero => simp at h1; omega
    | succ g => simp
  · rw [H]; simp [digs, h]
theorem digs_last_10 {n f m : Nat} {acc : List UInt8} (hf : 1 ≤ f) (H : digs 10 20 n = digs 10 f m ++ acc) (h : m / 10 = 0) :
    digs 10 20 n = dg (m % 10) :: acc := by
  obtain ⟨g, rfl⟩ : ∃ g, f = g + 1 := ⟨f - 1, by omega⟩
  rw [H]; simp [digs, h]
set_option maxHeartbeats 400000 in
theorem write_10 (n : Nat) (w : World) (h : (n : Int) ≤ 18446744073709551615) :
    Calls Tryd.prog 85 #[.int .u64 n, .int .u64 10] w fun e w' => e = .returned (.string ⟨(digs 10 20 n).toArray⟩) ∧ Below w.heap.size w w' := by
  have hbt := get_bt ⟨#[48, 49, 50, 51, 52, 53, 54, 55, 56, 57, 97, 98, 99, 100, 101, 102]⟩
  have hal : Tryd.prog.arrayLen 135 = 20 := by kernel_rfl
  go_enter Tryd.func85, Tryd.ntmps85
  go_wp2
  go_loopw [0, 6, 7] (fun vn vf vm wr => ∃ (m f : Nat) (acc : List UInt8), vn = .int .u64 m ∧ vf = .int .i64 f ∧ (m : Int) ≤ 18446744073709551615 ∧ Laid w.heap.size w wr f acc ∧
      ((vm = .bool true ∧ 1 ≤ f ∧ Hid (m < 10 ^ f) ∧ Hid (digs 10 20 n = digs 10 f m ++ acc)) ∨ (vm = .bool false ∧ f ≤ 19 ∧ Hid (digs 10 20 n = acc))))
    (fun _ vf _ _ => (intOf vf).toNat)
  case atStart => exact ⟨n, 20, [], rfl, rfl, h, Laid.start _ _ rfl _, .inl ⟨rfl, by omega, Nat.lt_of_le_of_lt (by omega) pow10_20, by simp [Hid]⟩⟩
  case round =>
    obtain ⟨m, f, acc, rfl, rfl, hm, L, hor⟩ := hrel
    have hl := L.len
    rcases hor with ⟨rfl, hf1, HM, HD⟩ | ⟨rfl, hf19, HD⟩
    · obtain ⟨v0, hc⟩ := L.cell (f - 1) (by omega)
      have hz := L.soft (f - 1) (by omega)
      have hdg := dg_at (m % 10) (by omega)
      by_cases h0 : m / 10 = 0
      · have h0' : ((m : Int) / 10 != 0) = false := by simp; omega
        go_wp2
        go_roundw
        case rel => exact ⟨m / 10, f - 1, dg (m % 10) :: acc, by go_num, by go_num, by omega, L.step hf1 _ _ rfl, .inr ⟨rfl, by omega, digs_last_10 hf1 HD.out h0⟩⟩
        case measure => simp [intOf]; omega
      · have h0' : ((m : Int) / 10 != 0) = true := by simp; omega
        go_wp2
        go_roundw
        case rel =>
          have D := digs_more_10 hf1 HM.out HD.out h0
          exact ⟨m / 10, f - 1, dg (m % 10) :: acc, by go_num, by go_num, by omega, L.step hf1 _ _ rfl, .inl ⟨rfl, D.1, D.2.1, D.2.2⟩⟩
        case measure => simp [intOf]; omega
    · have hcv := fun c => run_convert_bytes_back (P := Tryd.prog) wr 79 9 5 ⟨w.heap.size, f, none⟩ c acc Tryd.underlying79 Tryd.underlying5 Tryd.underlying9 (fun j hj => by
        have hh := L.has j hj
        by_cases e : j = 0
        · subst e; simpa [Addr.add] using hh
        · simpa [Addr.add, e] using hh)
      have hf20 : (f : Int) ≤ 20 := by omega
      have hln : 20 - f = acc.length := by omega
      go_wp2
      go_ret
      exact ⟨by rw [HD.out]; rfl, L.below⟩
theorem digs_more_16 {n f m : Nat} {acc : List UInt8} (hf : 1 ≤ f) (hm : m < 16 ^ f) (H : digs 16 20 n = digs 16 f m ++ acc) (h : m / 16 ≠ 0) :
    1 ≤ f - 1 ∧ m / 16 < 16 ^ (f - 1) ∧ digs 16 20 n = digs 16 (f - 1) (m / 16) ++ (dg (m % 16) :: acc) := by
  obtain ⟨g, rfl⟩ : ∃ g, f = g + 1 := ⟨f - 1, by omega⟩
  have h1 : m / 16 < 16 ^ g := div_lt_pow (by omega) hm
  refine ⟨?_, h1, ?_⟩
  · cases g with
    | zero => simp at h1; omega
    | succ g => simp
  · rw [H]; simp [digs, h]
theorem digs_last_16 {n f m : Nat} {acc : List UInt8} (hf : 1 ≤ f) (H : digs 16 20 n = digs 16 f m ++ acc) (h : m / 16 = 0) :
    digs 16 20 n = dg (m % 16) :: acc := by
  obtain ⟨g, rfl⟩ : ∃ g, f = g + 1 := ⟨f - 1, by omega⟩
  rw [H]; simp [digs, h]
set_option maxHeartbeats 400000 in
theorem write_16 (n : Nat) (w : World) (h : (n : Int) ≤ 18446744073709551615) :
    Calls Tryd.prog 85 #[.int .u64 n, .int .u64 16] w fun e w' => e = .returned (.string ⟨(digs 16 20 n).toArray⟩) ∧ Below w.heap.size w w' := by
  have hbt := get_bt ⟨#[48, 49, 50, 51, 52, 53, 54, 55, 56, 57, 97, 98, 99, 100, 101, 102]⟩
  have hal : Tryd.prog.arrayLen 135 = 20 := by kernel_rfl
  go_enter Tryd.func85, Tryd.ntmps85
  go_wp2
  go_loopw [0, 6, 7] (fun vn vf vm wr => ∃ (m f : Nat) (acc : List UInt8), vn = .int .u64 m ∧ vf = .int .i64 f ∧ (m : Int) ≤ 18446744073709551615 ∧ Laid w.heap.size w wr f acc ∧
      ((vm = .bool true ∧ 1 ≤ f ∧ Hid (m < 16 ^ f) ∧ Hid (digs 16 20 n = digs 16 f m ++ acc)) ∨ (vm = .bool false ∧ f ≤ 19 ∧ Hid (digs 16 20 n = acc))))
    (fun _ vf _ _ => (intOf vf).toNat)
  case atStart => exact ⟨n, 20, [], rfl, rfl, h, Laid.start _ _ rfl _, .inl ⟨rfl, by omega, Nat.lt_of_le_of_lt (by omega) pow16_20, by simp [Hid]⟩⟩
  case round =>
    obtain ⟨m, f, acc, rfl, rfl, hm, L, hor⟩ := hrel
    have hl := L.len
    rcases hor with ⟨rfl, hf1, HM, HD⟩ | ⟨rfl, hf19, HD⟩
    · obtain ⟨v0, hc⟩ := L.cell (f - 1) (by omega)
      have hz := L.soft (f - 1) (by omega)
      have hdg := dg_at (m % 16) (by omega)
      by_cases h0 : m / 16 = 0
      · have h0' : ((m : Int) / 16 != 0) = false := by simp; omega
        go_wp2
        go_roundw
        case rel => exact ⟨m / 16, f - 1, dg (m % 16) :: acc, by go_num, by go_num, by omega, L.step hf1 _ _ rfl, .inr ⟨rfl, by omega, digs_last_16 hf1 HD.out h0⟩⟩
        case measure => simp [intOf]; omega
      · have h0' : ((m : Int) / 16 != 0) = true := by simp; omega
        go_wp2
        go_roundw
        case rel =>
          have D := digs_more_16 hf1 HM.out HD.out h0
          exact ⟨m / 16, f - 1, dg (m % 16) :: acc, by go_num, by go_num, by omega, L.step hf1 _ _ rfl, .inl ⟨rfl, D.1, D.2.1, D.2.2⟩⟩
        case measure => simp [intOf]; omega
    · have hcv := fun c => run_convert_bytes_back (P := Tryd.prog) wr 79 9 5 ⟨w.heap.size, f, none⟩ c acc Tryd.underlying79 Tryd.underlying5 Tryd.underlying9 (fun j hj => by
        have hh := L.has j hj
        by_cases e : j = 0
        · subst e; simpa [Addr.add] using hh
        · simpa [Addr.add, e] using hh)
      have hf20 : (f : Int) ≤ 20 := by omega
      have hln : 20 - f = acc.length := by omega
      go_wp2
      go_ret
      exact ⟨by rw [HD.out]; rfl, L.below⟩
end Go.Proofs.YtmcefflgbliehaaDoor
