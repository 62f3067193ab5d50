
/-
  The law's own helpers: kind and place keep their contracts; a call in plain words.
-/
import Derived.Test.YtdecbnmibjcnaaaVmZb
set_option linter.unusedVariables false
namespace Go.Proofs.Ytdecbnmibjcnaaa
open Go.RowKit Go.PlainAid
/-- A call. -/
structure OpN where
  kind : Int
  room : Int
  off : Nat
  size : Nat
  prot : Int
  hint : Nat
  data : List UInt8
/-- A call's numbers as Go has them. -/
structure OpN.ok (x : OpN) : Prop where
  k0 : -9223372036854775808 ≤ x.kind
  k1 : x.kind ≤ 9223372036854775807
  r0 : -9223372036854775808 ≤ x.room
  r1 : x.room ≤ 9223372036854775807
  o1 : (x.off : Int) ≤ 18446744073709551615
  s1 : (x.size : Int) ≤ 18446744073709551615
  p0 : -9223372036854775808 ≤ x.prot
  p1 : x.prot ≤ 9223372036854775807
  h1 : (x.hint : Int) ≤ 18446744073709551615
  d1 : x.data.length ≤ 2048
def OpN.cells (x : OpN) (vd : Value) : Array Value := #[.int .i64 x.kind, .int .i64 x.room, .int .u64 x.off, .int .u64 x.size, .int .i64 x.prot, .int .u64 x.hint, vd]
def kindN (k : Int) : Nat := (k % 11).toNat
theorem kindN_lt (k : Int) : kindN k < 11 := by unfold kindN; omega
theorem tmod_or (k : Int) : k.tmod 11 = k % 11 ∨ k.tmod 11 = k % 11 - 11 ∧ k % 11 ≠ 0 := by
  by_cases h : 0 ≤ k
  · left; exact Int.tmod_eq_emod_of_nonneg h
  · rw [Int.tmod_eq_emod]
    by_cases h2 : (11 : Int) ∣ k
    · left; simp [h2]
    · right
      have h3 : ¬ (0 ≤ k ∨ (11 : Int) ∣ k) := by omega
      rw [if_neg h3]
      exact ⟨by simp, by omega⟩
theorem tmod_cases (k : Int) : (k.tmod 11 + 11).tmod 11 = (kindN k : Int) := by
  unfold kindN
  have h2 : 0 ≤ k % 11 ∧ k % 11 < 11 := by omega
  rcases tmod_or k with e | ⟨e, _⟩
  · rw [e, Int.tmod_eq_emod_of_nonneg (by omega)]; omega
  · rw [e, Int.tmod_eq_emod_of_nonneg (by omega)]; omega
theorem tmod_bd (k : Int) : -11 ≤ k.tmod 11 ∧ k.tmod 11 ≤ 11 := by
  have h2 : 0 ≤ k % 11 ∧ k % 11 < 11 := by omega
  rcases tmod_or k with e | ⟨e, _⟩ <;> omega
theorem law_kind (w : World) (k : Int) (h0 : -9223372036854775808 ≤ k) (h1 : k ≤ 9223372036854775807) : Calls Try.prog 18 #[.int .i64 k] w fun e w' => e = .returned (.int .i64 (kindN k)) ∧ w = w' := by
  have hb := tmod_bd k
  have e1 : IntKind.i64.wrap (k.tmod 11) = k.tmod 11 := IntWalk.i64_in _ (by omega)
  have e2 : IntKind.i64.wrap (k.tmod 11 + 11) = k.tmod 11 + 11 := IntWalk.i64_in _ (by omega)
  have e3 := tmod_cases k
  have e4 : IntKind.i64.wrap (kindN k : Int) = (kindN k : Int) := IntWalk.i64_in _ (by have := kindN_lt k; omega)
  go_enter Try.func18, Try.ntmps18
  go_wp2
  go_ret
  exact ⟨rfl, rfl⟩
/-- v is a slice of numbers that reads as l and lies outside the blocks F. -/
def SrcU (w : World) (F : Nat → Prop) (v : Value) (l : List Nat) : Prop :=
  ∃ cap, l.length ≤ cap ∧ cap ≤ maxLen ∧ ((v = .slice none 0 0 ∧ l = []) ∨ ∃ g, v = .slice (some ⟨g, 0, none⟩) l.length cap ∧ ¬ F g ∧ g < w.heap.size ∧ ∀ j (hj : j < l.length), w.cell? ⟨g, j, none⟩ = some (.int .u64 (l[j] : Nat)))
theorem SrcU.turn {F : Nat → Prop} {w w' : World} {v : Value} {l : List Nat} (h : SrcU w F v l) (ht : Turn F w w') : SrcU w' F v l := by
  obtain ⟨cap, h1, h2, h3⟩ := h
  refine ⟨cap, h1, h2, ?_⟩
  rcases h3 with h3 | ⟨g, rfl, hg, hl, hc⟩
  · exact .inl h3
  · exact .inr ⟨g, rfl, hg, Nat.lt_of_lt_of_le hl ht.size, fun j hj => ht.cell (p := ⟨g, j, none⟩) hg (hc j hj)⟩
/-- Where a call goes. -/
def placeN (x : OpN) (rs : List Nat) : Nat := if x.room < 0 ∨ rs = [] then x.off else (rs.getD (x.room.toNat % rs.length) 0 + x.off) % 18446744073709551616
theorem placeN_le (x : OpN) (hx : x.ok) (rs : List Nat) : (placeN x rs : Int) ≤ 18446744073709551615 := by
  unfold placeN
  split
  · exact hx.o1
  · omega
set_option maxHeartbeats 1000000 in
theorem law_place (w : World) (F : Nat → Prop) (x : OpN) (hx : x.ok) (sa : Option Addr) (sn sc : Nat) (vr : Value) (rs : List Nat) (hr : SrcU w F vr rs) :
    Calls Try.prog 23 #[.agg (x.cells (.slice sa sn sc)), vr] w fun e w' => e = .returned (.int .u64 (placeN x rs)) ∧ Below w.heap.size w w' := by
  have hr0 := hx.r0
  have hr1 := hx.r1
  have ho := hx.o1
  have HB : Hid (Below w.heap.size w (w.alloc (.cells (x.cells (.slice sa sn sc)) 46))) := (Below.refl _ w).alloc (Nat.le_refl _) _
  have HP : Hid (placeN x rs = if x.room < 0 ∨ rs = [] then x.off else (rs.getD (x.room.toNat % rs.length) 0 + x.off) % 18446744073709551616) := rfl
  obtain ⟨cap, hc1, hc2, hr3⟩ := hr
  have hcap : cap ≤ 9223372036854775807 := by unfold maxLen at hc2; omega
  unfold OpN.cells at HB ⊢
  generalize placeN x rs = P at *
  clear hx
  generalize x.kind = xk at *
  generalize x.room = xr at *
  generalize x.off = xo at *
  generalize x.size = xs at *
  generalize x.prot = xp at *
  generalize x.hint = xh at *
  by_cases hneg : xr < 0
  · rw [if_pos (.inl hneg)] at HP
    have hform : ∃ s n c, vr = .slice s n c := by
      rcases hr3 with ⟨e, _⟩ | ⟨g, e, _⟩
      · exact ⟨_, _, _, e⟩
      · exact ⟨_, _, _, e⟩
    obtain ⟨s, n, c, rfl⟩ := hform
    clear hr3
    go_enter Try.func23, Try.ntmps23
    go_wp2
    go_ret
    exact ⟨by rw [HP.out]; rfl, HB.out⟩
  · rcases hr3 with ⟨rfl, hl⟩ | ⟨g, rfl, hg, hgl, hc⟩
    · rw [if_pos (.inr hl)] at HP
      go_enter Try.func23, Try.ntmps23
      go_wp2
      go_ret
      exact ⟨by rw [HP.out]; rfl, HB.out⟩
    · by_cases hl0 : rs = []
      · rw [if_pos (.inr hl0)] at HP
        rw [hl0] at hc1 ⊢
        clear hc hl0
        go_enter Try.func23, Try.ntmps23
        go_wp2
        go_ret
        exact ⟨by rw [HP.out]; rfl, HB.out⟩
      · rw [if_neg (by intro h; rcases h with h | h; exact hneg h; exact hl0 h)] at HP
        obtain ⟨r, rfl⟩ : ∃ r : Nat, xr = r := ⟨xr.toNat, by omega⟩
        rw [Int.toNat_natCast] at HP
        have hlen : 0 < rs.length := List.length_pos_iff.2 hl0
        have hidx : r % rs.length < rs.length := Nat.mod_lt _ hlen
        have hcell := hc _ hidx
        have hgd : rs.getD (r % rs.length) 0 = rs[r % rs.length] := by simp [List.getD, List.getElem?_eq_getElem hidx]
        rw [hgd] at HP
        have e1 : (r : Int).tmod (rs.length : Int) = ((r % rs.length : Nat) : Int) := by rw [Int.tmod_eq_emod_of_nonneg (by omega)]; omega
        have e0 : ((rs.length : Int) == 0) = false := by rw [beq_eq_false_iff_ne]; omega
        have e2 : ((r % rs.length : Nat) : Int) < (rs.length : Int) := by omega
        have hW : (w.alloc (.cells #[.int .i64 xk, .int .i64 (r : Int), .int .u64 xo, .int .u64 xs, .int .i64 xp, .int .u64 xh, .slice sa sn sc] 46)).cell? ⟨g, r % rs.length, none⟩ = some (.int .u64 (rs[r % rs.length] : Nat)) := by rw [World.cell?_alloc_lt _ _ _ hgl]; exact hcell
        have e4 : IntKind.i64.wrap ((r % rs.length : Nat) : Int) = ((r % rs.length : Nat) : Int) := IntWalk.i64_in _ (by omega)
        have e5 : IntKind.u64.wrap ((rs[r % rs.length] : Nat) + (xo : Int)) = (((rs[r % rs.length] + xo) % 18446744073709551616 : Nat) : Int) := by rw [IntKind.wrap_u64]; omega
        generalize rs[r % rs.length] = a0 at *
        have hne : ¬ (rs.length : Int) = 0 := by omega
        clear hl0 hgd hc
        generalize r % rs.length = ix at *
        go_enter Try.func23, Try.ntmps23
        go_wp2
        go_quiet (fail)
        all_goals go_wp2
        go_ret
        exact ⟨by rw [HP.out]; show Ending.returned (Value.int .u64 (((a0 : Int) + (xo : Int)) % 18446744073709551616)) = _; congr 2, HB.out.os, HB.out.tape, HB.out.output, HB.out.size, HB.out.block⟩
end Go.Proofs.Ytdecbnmibjcnaaa
