/-
  le's Set64, and the state of the law LePuts: a buffer and a row that lie apart.
-/
import Derived.Test.YtipnjkemiopjiaaPutsA
import Derived.Test.YtipnjkemiopjiaaOpsA
import Derived.Deep.RegionHeld3
set_option linter.unusedVariables false
namespace Go.Proofs.Ytipnjkemiopjiaa
open Go.RowKit Go.PlainAid
/-- The bytes with k bytes of a number set at a place. -/
def putAt (l : List UInt8) (p k n : Nat) : List UInt8 := l.take p ++ leN k n ++ l.drop (p + k)
theorem putAt_len (l : List UInt8) (p k n : Nat) (h : p + k ≤ l.length) : (putAt l p k n).length = l.length := by
  unfold putAt; simp [leN_length]; omega
theorem putAt_zero (l : List UInt8) (p n : Nat) : putAt l p 0 n = l := by unfold putAt; simp [leN]
theorem putAt_step (l : List UInt8) (p i n : Nat) (h : p + i < l.length) : (putAt l p i n).set (p + i) (b8 (n / 256 ^ i % 256)) = putAt l p (i + 1) n := by
  unfold putAt
  rw [leN_snoc, List.drop_eq_getElem_cons h]
  have hl : (l.take p ++ leN i n).length = p + i := by simp [leN_length]; omega
  rw [List.set_append_right _ _ (by omega), hl, Nat.sub_self, List.set_cons_zero]
  simp [Nat.add_assoc]
theorem Bf.set {w : World} {B R : Nat} {l : List UInt8} {g n cap : Nat} (h : Bf w B R (some g) l) (hv : w.cell? ⟨R, 0, none⟩ = some (.slice (some ⟨g, 0, none⟩) n cap)) (j : Nat) (c : UInt8) (z : Int) (hz : z = (c.toNat : Int)) :
    Bf (w.setCell ⟨g, j, none⟩ (.int .u8 z)) B R (some g) (l.set j c) ∧ Gr w (w.setCell ⟨g, j, none⟩ (.int .u8 z)) R (some g) := by
  have hgR : g ≠ R := fun e => h.far (by rw [e])
  obtain ⟨v, h1, h2, h3⟩ := h.row
  rw [hv] at h1
  have := Option.some.inj h1
  subst this
  refine ⟨⟨by simpa using h.lt, h.base, ⟨_, ?_, h2.set j c z hz, rfl⟩, h.far, ?_⟩, rfl, rfl, rfl, by simp, ?_⟩
  · rw [World.cell?_of_block (a := ⟨R, 0, none⟩) (Below.heap_setCell w ⟨g, j, none⟩ _ R (fun e => hgR e.symm))]; exact hv
  · rw [World.frozen?_of_block (a := ⟨R, 0, none⟩) (Below.heap_setCell w ⟨g, j, none⟩ _ R (fun e => hgR e.symm))]; exact h.soft
  · intro k hk hkR hko
    exact Below.heap_setCell w ⟨g, j, none⟩ _ k (fun e => hko (by rw [e]))
theorem shr_byte (n i : Nat) : IntKind.u8.wrap ((n : Int) / 2 ^ (8 * (i : Int)).toNat) = ((b8 (n / 256 ^ i % 256)).toNat : Int) := by
  have e : (8 * (i : Int)).toNat = 8 * i := by omega
  have e2 : ((n : Int) / (2 : Int) ^ (8 * i)) = ((n / 2 ^ (8 * i) : Nat) : Int) := by rw [Int.natCast_ediv, Int.natCast_pow]; rfl
  rw [b8_toNat (by omega), IntKind.wrap_u8, e, pow256, e2]
  generalize n / 2 ^ (8 * i) = q
  omega
theorem Bf.drew {w : World} {B R : Nat} {o : Option Nat} {l : List UInt8} (h : Bf w B R o l) : Bf w.drew B R o l := ⟨h.lt, h.base, h.row, h.far, h.soft⟩
theorem Gr.drew {w w' : World} {R : Nat} {o : Option Nat} (h : Gr w w' R o) : Gr w w'.drew R o := ⟨h.os, h.tape, h.output, h.size, h.block⟩
theorem le_Set64_no (w : World) (B R : Nat) (o : Option Nat) (l : List UInt8) (z : Int) (u : Int) (h : Bf w B R o l) (hl : l.length ≤ 1000000000) (h0 : -9223372036854775808 ≤ z) (h1 : z ≤ 4096) (hno : z < 0 ∨ (l.length : Int) < z + 8) :
    Calls Try.prog 30 #[.pointer (some ⟨R, 0, none⟩), .int .i64 z, .int .u64 u] w fun e w' => e = .returned (.bool false) ∧ w = w' := by
  obtain ⟨v, hv, hown, rfl⟩ := h.row
  obtain ⟨a, cap, rfl, _⟩ := hown.slice
  clear hown h
  by_cases hz : z < 0
  · go_enter Try.func30, Try.ntmps30
    go_wp2
    go_ret
    exact ⟨rfl, rfl⟩
  · have hz0 : 0 ≤ z := by omega
    have hH := le_has w a l.length cap z 8 hz0 (by omega) (by omega) (by omega)
    rw [decide_eq_false (by omega)] at hH
    go_enter Try.func30, Try.ntmps30
    go_wp2_with fail
    refine hH.mono ?_
    rintro e w1 ⟨rfl, rfl⟩
    go_wp2
    go_ret
    exact ⟨rfl, rfl⟩
set_option maxHeartbeats 1000000 in
theorem le_Set64_yes (w : World) (B R : Nat) (o : Option Nat) (l : List UInt8) (p : Nat) (n : Nat) (h : Bf w B R o l) (hl : l.length ≤ 1000000000) (hp : p + 8 ≤ l.length) (hn : (n : Int) ≤ 18446744073709551615) :
    Calls Try.prog 30 #[.pointer (some ⟨R, 0, none⟩), .int .i64 p, .int .u64 n] w fun e w' => e = .returned (.bool true) ∧ Bf w' B R o (putAt l p 8 n) ∧ Gr w w' R o := by
  obtain ⟨v, hv, hown, rfl⟩ := h.row
  obtain ⟨g, cap, rfl, _⟩ := hown.form (by intro e; rw [e] at hp; simp at hp)
  have hH := le_has w (some ⟨g, 0, none⟩) l.length cap p 8 (by omega) (by omega) (by omega) (by omega)
  rw [decide_eq_true (by omega)] at hH
  have HB : Hid (Bf w B R (some g) l) := h
  obtain ⟨N, hN⟩ : ∃ N, l.length = N := ⟨_, rfl⟩
  have HN : Hid (l.length = N) := hN
  rw [hN] at hH hv
  have hpN : (p : Int) + 8 ≤ (N : Int) := by omega
  have hN9 : N ≤ 1000000000 := by omega
  clear hown h hN
  go_enter Try.func30, Try.ntmps30
  go_wp2_with fail
  refine hH.mono ?_
  rintro e w1 ⟨rfl, rfl⟩
  go_wp2
  go_loopw [20] (fun vi wr => ∃ i : Nat, i ≤ 8 ∧ vi = .int .i64 i ∧ Hid (Bf wr B R (some g) (putAt l p i n)) ∧ Hid (Gr w wr R (some g)) ∧ wr.cell? ⟨R, 0, none⟩ = some (.slice (some ⟨g, 0, none⟩) N cap)) (fun vi _ => 8 - (intOf vi).toNat)
  case atStart => exact ⟨0, by omega, rfl, by rw [Hid, putAt_zero]; exact HB, Gr.refl _ _ _, hv⟩
  case round =>
    obtain ⟨i, hi, rfl, HBi, HGi, hvi⟩ := hrel
    by_cases hlt : i < 8
    · have hlen : (putAt l p i n).length = N := by rw [putAt_len l p i n (by omega)]; exact HN
      obtain ⟨v, hv1, hown, _⟩ := HBi.out.row
      rw [hvi] at hv1
      have := Option.some.inj hv1
      subst this
      obtain ⟨g', cap', he, _, _, _, _, hcell, hsoft⟩ := hown.form (by intro e; rw [e] at hlen; simp at hlen; omega)
      rw [hlen] at he
      simp only [Value.slice.injEq, Option.some.injEq, Addr.mk.injEq] at he
      obtain ⟨⟨rfl, _⟩, _, rfl⟩ := he
      have hce := hcell (p + i) (by omega)
      have hso := hsoft (p + i)
      have hgR : g ≠ R := fun e => HBi.out.far (by rw [e])
      obtain ⟨old, hold⟩ : ∃ c : Int, (((putAt l p i n)[p + i]'(by omega)).toNat : Int) = c := ⟨_, rfl⟩
      rw [hold] at hce
      have hce2 : wr.drew.cell? ⟨g, p + i, none⟩ = some (.int .u8 old) := hce
      have hso2 : wr.drew.frozen? ⟨g, p + i, none⟩ = false := hso
      have hvi2 : wr.drew.cell? ⟨R, 0, none⟩ = some (.slice (some ⟨g, 0, none⟩) N cap) := hvi
      have hltI : (i : Int) < 8 := by omega
      have HP := putAt_step l p i n (by omega)
      have HPS : Hid _ := HP
      have hw1 : IntKind.i64.wrap ((p : Int) + (i : Int)) = (p : Int) + (i : Int) := by rw [IntKind.wrap_i64]; omega
      have hw2 : IntKind.i64.wrap (8 * (i : Int)) = 8 * (i : Int) := by rw [IntKind.wrap_i64]; omega
      have hpi0 : (0 : Int) ≤ (p : Int) + (i : Int) := by omega
      have hpi1 : (p : Int) + (i : Int) < (N : Int) := by omega
      have hpi2 : p + i < N := by omega
      have hpi3 : ((p : Int) + (i : Int)).toNat = p + i := by omega
      clear hcell hsoft hown hold HP hv hlen
      go_wp2_with fail
      go_region_held3 (fun w' => w'.cell? ⟨R, 0, none⟩ = some (.slice (some ⟨g, 0, none⟩) N cap))
        (first | assumption | go_keep)
        (fail)
      obtain ⟨s1, s2⟩ := HBi.out.set hvi (p + i) _ _ (shr_byte n i)
      rw [HPS.out] at s1
      have HS1 : Hid _ := s1
      have HS2 : Hid _ := HGi.out.trans (Nx.refl _ _) s2
      have hvs : (wr.setCell ⟨g, p + i, none⟩ (.int .u8 (IntKind.u8.wrap ((n : Int) / 2 ^ (8 * (i : Int)).toNat)))).drew.cell? ⟨R, 0, none⟩ = some (.slice (some ⟨g, 0, none⟩) N cap) := by
        refine (World.cell?_of_block (a := ⟨R, 0, none⟩) (Below.heap_setCell wr ⟨g, p + i, none⟩ _ R (fun e => hgR e.symm))).trans hvi
      clear s1 s2
      generalize (Value.int .u8 (IntKind.u8.wrap ((n : Int) / 2 ^ (8 * (i : Int)).toNat))) = bv1 at *
      go_wp2
      go_roundw
      case rel => exact ⟨i + 1, by omega, by go_num, HS1.out.drew, HS2.out.drew, hvs⟩
      case measure => simp [intOf]; omega
    · have hik : i = 8 := by omega
      subst hik
      go_wp2
      go_ret
      exact ⟨rfl, HBi.out, HGi.out⟩
end Go.Proofs.Ytipnjkemiopjiaa
