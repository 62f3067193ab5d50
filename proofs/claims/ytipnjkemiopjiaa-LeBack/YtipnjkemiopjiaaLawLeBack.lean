/-
  LeBack returns true for every row of bytes and every two numbers, and the row reads afterwards as it read before: no condition.
-/
import Derived.Test.YtipnjkemiopjiaaRows
import Derived.Test.YtipnjkemiopjiaaBufD
import Derived.WalkKit
import Derived.Deep.RegionHeldLaw
import Derived.ProofKit
import Derived.OpenShut
import Derived.ShutString
import Derived.ChangeOld
import Derived.Below
set_option linter.unusedVariables false
namespace Go.Proofs.Ytipnjkemiopjiaa
namespace LLeBack
open Go.ChangeShapes Go.WideShapes Go.ChangeAt Go.RowKit
open Go.ChangeMaps (open_string shut_string)
theorem win_mid (A X C : List UInt8) : win (A ++ X ++ C) A.length X.length = X := by
  unfold win; rw [List.append_assoc, List.drop_left, List.take_left]
theorem xor_byte (c : UInt8) : bits .xor .u8 (c.toNat : Int) 255 = ((b8 (255 - c.toNat)).toNat : Int) := by
  have h : ∀ n : Fin 256, bits .xor .u8 (n.val : Int) 255 = ((255 - n.val : Nat) : Int) := by decide +kernel
  have hc := c.toNat_lt
  rw [b8_toNat (by omega)]
  exact h ⟨c.toNat, hc⟩
/-- What is laid down. -/
def laid (m : List UInt8) (z n : Nat) : List UInt8 := m ++ List.replicate z 0 ++ leN 8 n ++ leN 4 (n % 4294967296) ++ leN 2 (n % 65536) ++ m
theorem laid_says (m : List UInt8) (z n : Nat) (hn : n ≤ 18446744073709551615) :
    (laid m z n).length = m.length + z + 14 + m.length ∧ rdN (win (laid m z n) (m.length + z) 8) = n ∧ rdN (win (laid m z n) (m.length + z + 8) 4) = n % 4294967296 ∧
    rdN (win (laid m z n) (m.length + z + 12) 2) = n % 65536 ∧ win (laid m z n) 0 m.length = m := by
  unfold laid
  refine ⟨?_, ?_, ?_, ?_, ?_⟩
  · simp [leN_length]; omega
  · have e := win_mid (m ++ List.replicate z 0) (leN 8 n) (leN 4 (n % 4294967296) ++ leN 2 (n % 65536) ++ m)
    rw [leN_length, List.length_append, List.length_replicate] at e
    simp only [List.append_assoc] at e ⊢
    rw [e, rdN_leN]
    omega
  · have e := win_mid (m ++ List.replicate z 0 ++ leN 8 n) (leN 4 (n % 4294967296)) (leN 2 (n % 65536) ++ m)
    rw [leN_length, List.length_append, List.length_append, List.length_replicate, leN_length] at e
    simp only [List.append_assoc] at e ⊢
    rw [e, rdN_leN]
    omega
  · have e := win_mid (m ++ List.replicate z 0 ++ leN 8 n ++ leN 4 (n % 4294967296)) (leN 2 (n % 65536)) m
    rw [leN_length, List.length_append, List.length_append, List.length_append, List.length_replicate, leN_length, leN_length] at e
    simp only [List.append_assoc] at e ⊢
    rw [e, rdN_leN]
    omega
  · simp only [List.append_assoc]
    unfold win
    rw [List.drop_zero, List.take_left]
/-- What stays while the last row is reckoned. -/
abbrev Kp (w : World) (vs vb vx : Value) (m L : List UInt8) (B1 B2 : Nat) (w' : World) : Prop :=
  Sem.run Try.prog (convert 22 9 vs) w' = .ok (.string ⟨m.toArray⟩) w' ∧ Sem.run Try.prog (convert 22 9 vb) w' = .ok (.string ⟨m.toArray⟩) w' ∧
  Sem.run Try.prog (convert 22 9 vx) w' = .ok (.string ⟨L.toArray⟩) w' ∧
  Hid (Bg w' w.heap.size w.heap.size L ∧ Own w' B1 vs m ∧ Arg w' vb m ∧ Own w' B2 vx L ∧ Below w.heap.size w w')
theorem Kp.mk {w : World} {vs vb vx : Value} {m L : List UInt8} {B1 B2 : Nat} {w' : World} (hm : m.length ≤ 4096) (hL : L.length ≤ 300000) (h1 : Bg w' w.heap.size w.heap.size L) (h2 : Own w' B1 vs m) (h3 : Arg w' vb m) (h4 : Own w' B2 vx L)
    (h5 : Below w.heap.size w w') : Kp w vs vb vx m L B1 B2 w' :=
  ⟨(h2.arg (by omega)).text, h3.text, (h4.arg (by omega)).text, h1, h2, h3, h4, h5⟩
theorem Kp.stay {w : World} {vs vb vx : Value} {m L : List UInt8} {B1 B2 : Nat} {w1 w2 : World} (hm : m.length ≤ 4096) (hL : L.length ≤ 300000) (h : Kp w vs vb vx m L B1 B2 w1) (hb : Below w1.heap.size w1 w2) : Kp w vs vb vx m L B1 B2 w2 := by
  obtain ⟨_, _, _, h1, h2, h3, h4, h5⟩ := h
  exact Kp.mk hm hL (h1.below hb) (h2.stay hb) (h3.below hb rfl) (h4.stay hb) (h5.trans (hb.mono h5.size))
theorem kp_Bytes {w : World} {vs vb vx : Value} {m L : List UInt8} {B1 B2 : Nat} {w1 : World} (hm : Hid (m.length ≤ 4096)) (hL : Hid (L.length ≤ 300000)) (h : Kp w vs vb vx m L B1 B2 w1) :
    Calls Try.prog 32 #[.pointer (some ⟨w.heap.size, 0, none⟩)] w1 fun e w' => ∃ vz, e = .returned vz ∧ Kp w vs vb vx m L B1 B2 w' ∧ Sem.run Try.prog (convert 22 9 vz) w' = .ok (.string ⟨L.toArray⟩) w' := by
  have hL2 := hL.out
  refine (bg_Bytes _ _ _ _ h.2.2.2.out.1 (by omega)).mono ?_
  rintro e w2 ⟨vz, rfl, oz, b2⟩
  exact ⟨_, rfl, Kp.stay hm hL h b2, (oz.arg (by omega)).text⟩
theorem kp_alive {w : World} {vs vb vx : Value} {m L : List UInt8} {B1 B2 : Nat} {w1 : World} (hm : Hid (m.length ≤ 4096)) (hL : Hid (L.length ≤ 300000)) (h : Kp w vs vb vx m L B1 B2 w1) :
    Calls Try.prog 15 #[] w1 fun e w' => e = .returned (.bool true) ∧ Kp w vs vb vx m L B1 B2 w' := by
  refine (alive02 _).mono ?_
  rintro e w2 ⟨rfl, b2⟩
  exact ⟨rfl, Kp.stay hm hL h b2⟩
set_option maxHeartbeats 4000000 in
set_option maxRecDepth 20000 in
theorem core_in (w : World) (v : Value) (m : List UInt8) (h : Arg w v m) (hl : m.length ≤ 4096) (n : Nat) (hn : n ≤ 18446744073709551615) (u : Int) (hu : 1 ≤ u ∧ u ≤ 4096) (hr : -9223372036854775808 ≤ u ∧ u ≤ 9223372036854775807) :
    Calls Try.prog 6 #[v, .int .u64 n, .int .i64 u] w fun e w' => e = .returned (.bool true) ∧ Below w.heap.size w w' := by
  have HA : Hid (Arg w v m) := h
  obtain ⟨z, hz⟩ := toIs m.length u
  have hz2 : z ≤ 262144 := by rcases hz with ⟨_, h1, _, h2⟩ | ⟨_, h⟩ <;> omega
  have HZ : Hid (ToIs m.length u z) := hz
  obtain ⟨S1, S2, S3, S4, S5⟩ := laid_says m z n hn
  have H1 : Hid _ := S1
  have H2 : Hid _ := S2
  have H3 : Hid _ := S3
  have H4 : Hid _ := S4
  have H5 : Hid _ := S5
  obtain ⟨k4, hk4⟩ : ∃ k, n % 4294967296 = k := ⟨_, rfl⟩
  obtain ⟨k2, hk2⟩ : ∃ k, n % 65536 = k := ⟨_, rfl⟩
  have hw4 : IntKind.u32.wrap (n : Int) = (k4 : Int) := by rw [IntKind.wrap_u32]; omega
  have hw2 : IntKind.u16.wrap (n : Int) = (k2 : Int) := by rw [IntKind.wrap_u16]; omega
  have hl4 : (k4 : Int) ≤ 4294967295 := by omega
  have hl2 : (k2 : Int) ≤ 65535 := by omega
  have HK4 : Hid (n % 4294967296 = k4) := hk4
  have HK2 : Hid (n % 65536 = k2) := hk2
  have HLA : Hid (laid m z n = m ++ List.replicate z 0 ++ leN 8 n ++ leN 4 k4 ++ leN 2 k2 ++ m) := by rw [Hid, laid, hk4, hk2]
  obtain ⟨a, cap, rfl, hc1, hc2, hc3⟩ := h.isSlice
  have hlI : ¬ 4096 < (m.length : Int) := by omega
  clear h S1 S2 S3 S4 S5 hz hk4 hk2
  obtain ⟨M, hM⟩ : ∃ M, m.length = M := ⟨_, rfl⟩
  rw [hM] at hc1 hc3 hl hlI ⊢
  have HM : Hid (m.length = M) := hM
  rw [hM] at HA
  clear hM
  go_enter Try.func6, Try.ntmps6
  go_wp2_with fail
  refine (le_New _).mono ?_
  rintro e w1 ⟨rfl, hb1, b1, s1⟩
  have hg1 : Bg w1 w.heap.size w.heap.size [] := ⟨_, hb1⟩
  clear hb1 s1
  go_wp2_with fail
  refine (bg_Raw _ _ _ _ m hg1 b1.size _ (HA.out.below b1 rfl) (by have := HM.out; simp; omega)).mono ?_
  rintro e w2 ⟨rfl, hg2, b2⟩
  have bl2 := b1.trans b2
  clear b2 hg1 b1
  go_wp2_with fail
  refine (bg_To _ _ _ _ u z hg2 bl2.size (by have := HM.out; simp; omega) HZ.out (by omega) (by omega)).mono ?_
  rintro e w3 ⟨rfl, hg3, b3⟩
  have bl3 := bl2.trans b3
  clear b3 hg2 bl2
  have hlen : ([] ++ m ++ List.replicate z 0).length = M + z := by have := HM.out; simp; omega
  have hL := bg_Len _ _ _ _ hg3
  rw [hlen] at hL
  clear hlen
  go_wp2_with fail
  refine hL.mono ?_
  rintro e w4 ⟨rfl, rfl⟩
  clear hL
  go_wp2_with fail
  refine (bg_Put64 _ _ _ _ n hg3 bl3.size (by have := HM.out; simp; omega) (by omega)).mono ?_
  rintro e w4 ⟨rfl, hg4, b4⟩
  have bl4 := bl3.trans b4
  clear b4 hg3 bl3
  go_wp2_with fail
  refine (bg_Put32 _ _ _ _ k4 hg4 bl4.size (by have := HM.out; simp [leN_length]; omega) hl4).mono ?_
  rintro e w5 ⟨rfl, hg5, b5⟩
  have bl5 := bl4.trans b5
  clear b5 hg4 bl4
  go_wp2_with fail
  refine (bg_Put16 _ _ _ _ k2 hg5 bl5.size (by have := HM.out; simp [leN_length]; omega) hl2).mono ?_
  rintro e w6 ⟨rfl, hg6, b6⟩
  have bl6 := bl5.trans b6
  clear b6 hg5 bl5
  go_wp2_with fail
  refine (bg_Raw _ _ _ _ m hg6 bl6.size _ (HA.out.below bl6 rfl) (by have := HM.out; simp [leN_length]; omega)).mono ?_
  rintro e w7 ⟨rfl, hg7, b7⟩
  have bl7 := bl6.trans b7
  rw [List.nil_append, ← HLA.out] at hg7
  clear b7 hg6 bl6
  obtain ⟨L, hL⟩ : ∃ L, laid m z n = L := ⟨_, rfl⟩
  rw [hL] at hg7 H1 H2 H3 H4 H5
  clear hL HLA
  have hLl : L.length = M + z + 14 + M := by rw [H1.out, HM.out]
  clear H1
  obtain ⟨N, hN⟩ : ∃ N, L.length = N := ⟨_, rfl⟩
  have HN : Hid (L.length = N) := hN
  have hNI : N ≤ 300000 := by omega
  have hN0 : 0 < N := by omega
  have HNS : Hid (N = M + z + 14 + M) := by rw [Hid]; omega
  clear hN hLl
  go_wp2_with fail
  refine (bg_Bytes _ _ _ _ hg7 (by have := HN.out; omega)).mono ?_
  rintro e w8 ⟨vx, rfl, ox, b8⟩
  have hg8 := hg7.below b8
  have bl8 := bl7.trans (b8.mono bl7.size)
  clear b8 hg7
  go_wp2_with fail
  refine (bg_Bytes _ _ _ _ hg8 (by have := HN.out; omega)).mono ?_
  rintro e w9 ⟨vy, rfl, oy, b9⟩
  obtain ⟨gy, cy, rfl, hgy, hgy2, _⟩ := oy.form (by intro e; have := HN.out; rw [e] at this; simp at this; omega)
  have HGX : Hid (Bg w8 w.heap.size w.heap.size L) := hg8
  have HOX : Hid (Own w8 w7.heap.size vx L) := ox
  have HBL : Hid (Below w.heap.size w w8) := bl8
  have HB9 : Hid (Below w8.heap.size w8 w9) := b9
  rw [HN.out] at oy ⊢
  clear hg8 ox bl8 b9 bl7
  go_wp2
  go_loopw [11] (fun vi wr => ∃ (k : Nat) (ly : List UInt8), k ≤ N ∧ vi = .int .i64 k ∧ Own wr w8.heap.size (.slice (some ⟨gy, 0, none⟩) N cy) ly ∧ Hid (ly.length = N) ∧ Hid (Below w8.heap.size w8 wr)) (fun vi _ => N - (intOf vi).toNat)
  case atStart => exact ⟨0, L, by omega, rfl, oy, HN, HB9⟩
  case round =>
    obtain ⟨k, ly, hk, rfl, hown, HLY, HBB⟩ := hrel
    by_cases hlt : k < N
    · obtain ⟨_, _, he, _, _, hcc1, hcc2, hcell, hsoft⟩ := hown.form (by intro e; have := HLY.out; rw [e] at this; simp at this; omega)
      simp only [Value.slice.injEq, Option.some.injEq, Addr.mk.injEq] at he
      obtain ⟨⟨rfl, _⟩, _, rfl⟩ := he
      have hce := hcell k (by have := HLY.out; omega)
      have hso := hsoft k
      obtain ⟨c, hc⟩ : ∃ c, ly[k]'(by have := HLY.out; omega) = c := ⟨_, rfl⟩
      rw [hc] at hce
      have hcb := c.toNat_lt
      have hOS := fun c z hz => hown.set k c z hz
      have HOS : Hid _ := hOS
      have hltI : (k : Int) < (N : Int) := by omega
      clear hcell hsoft hc hown hOS
      go_wp2
      go_roundw
      case rel => exact ⟨k + 1, _, by omega, by go_num, HOS.out _ _ (xor_byte c), by rw [Hid, List.length_set]; exact HLY, HBB.out.setCell (p := ⟨gy, k, none⟩) hgy _⟩
      case measure => simp [intOf]; omega
    · have hke : k = N := by omega
      have hgtI : ¬ (k : Int) < (N : Int) := by omega
      have hgx := HGX.out.below HBB.out
      have hox := HOX.out.stay HBB.out
      have hblr := HBL.out.trans (HBB.out.mono HBL.out.size)
      have hax := hox.arg (by have := HN.out; omega)
      have hMe := HM.out
      have hU64 := le_U64_yes wr vx L hax (M + z) (by have := HN.out; have := HNS.out; omega)
      have hU32 := le_U32_yes wr vx L hax (M + z + 8) (by have := HN.out; have := HNS.out; omega)
      have hU16 := le_U16_yes wr vx L hax (M + z + 12) (by have := HN.out; have := HNS.out; omega)
      have hPt := le_Part_yes wr vx L hax 0 M (by have := HN.out; have := HNS.out; omega)
      rw [← hMe, H2.out] at hU64
      rw [← hMe, H3.out, HK4.out] at hU32
      rw [← hMe, H4.out, HK2.out] at hU16
      rw [← hMe, H5.out] at hPt
      rw [hMe] at hU64 hU32 hU16 hPt
      have tx := hax.text
      have HOXR : Hid (Own wr w7.heap.size vx L) := hox
      have HGXR : Hid (Bg wr w.heap.size w.heap.size L) := hgx
      have HBR : Hid (Below w.heap.size w wr) := hblr
      clear hMe hown hke H2 H3 H4 H5 hgx hox hblr hax
      go_wp2_with fail
      refine hU64.mono ?_
      rintro e w10 ⟨rfl, rfl⟩
      go_wp2_with fail
      refine hU32.mono ?_
      rintro e w10 ⟨rfl, rfl⟩
      go_wp2_with fail
      refine hU16.mono ?_
      rintro e w10 ⟨rfl, rfl⟩
      go_wp2_with fail
      refine hPt.mono ?_
      rintro e w11 ⟨vs, rfl, os, b11⟩
      have bl11 : Below w.heap.size w w11.drew := (HBR.out.trans (b11.mono HBR.out.size)).drew
      have b11d : Below wr.heap.size wr w11.drew := b11.drew
      have osd : Own w11.drew wr.heap.size vs m := os
      have hm4 : Hid (m.length ≤ 4096) := by have := HM.out; rw [Hid]; omega
      have hL4 : Hid (L.length ≤ 300000) := by have := HN.out; rw [Hid]; omega
      have hKp : Kp w vs (.slice a M cap) vx m L wr.heap.size w7.heap.size w11.drew := Kp.mk hm4 hL4 (HGXR.out.below b11d) osd (HA.out.below bl11 rfl) (HOXR.out.stay b11d) bl11
      clear os osd b11 b11d bl11 hU64 hU32 hU16 hPt tx
      go_wp2_with fail
      try simp only [List.append_eq, List.cons_append, List.nil_append]
      go_region_held_law (fun w' => Kp w vs (.slice a M cap) vx m L wr.heap.size w7.heap.size w')
        (first | assumption | go_keep)
        (first
          | (go_at_call 32; refine (kp_Bytes hm4 hL4 (by assumption)).mono ?_; rintro e w12 ⟨vz, rfl, hk12, tz⟩)
          | (go_at_call 15; refine (kp_alive hm4 hL4 (by assumption)).mono ?_; rintro e w13 ⟨rfl, hk13⟩))
      all_goals go_wp2
      go_ret
      exact ⟨rfl, hk13.2.2.2.out.2.2.2.2⟩
set_option maxHeartbeats 4000000 in
set_option maxRecDepth 20000 in
theorem core_lo (w : World) (v : Value) (m : List UInt8) (h : Arg w v m) (hl : m.length ≤ 4096) (n : Nat) (hn : n ≤ 18446744073709551615) (u : Int) (hu : u < 1) (hr : -9223372036854775808 ≤ u ∧ u ≤ 9223372036854775807) :
    Calls Try.prog 6 #[v, .int .u64 n, .int .i64 u] w fun e w' => e = .returned (.bool true) ∧ Below w.heap.size w w' := by
  have HA : Hid (Arg w v m) := h
  obtain ⟨z, hz⟩ := toIs m.length 1
  have hz2 : z ≤ 262144 := by rcases hz with ⟨_, h1, _, h2⟩ | ⟨_, h⟩ <;> omega
  have HZ : Hid (ToIs m.length 1 z) := hz
  obtain ⟨S1, S2, S3, S4, S5⟩ := laid_says m z n hn
  have H1 : Hid _ := S1
  have H2 : Hid _ := S2
  have H3 : Hid _ := S3
  have H4 : Hid _ := S4
  have H5 : Hid _ := S5
  obtain ⟨k4, hk4⟩ : ∃ k, n % 4294967296 = k := ⟨_, rfl⟩
  obtain ⟨k2, hk2⟩ : ∃ k, n % 65536 = k := ⟨_, rfl⟩
  have hw4 : IntKind.u32.wrap (n : Int) = (k4 : Int) := by rw [IntKind.wrap_u32]; omega
  have hw2 : IntKind.u16.wrap (n : Int) = (k2 : Int) := by rw [IntKind.wrap_u16]; omega
  have hl4 : (k4 : Int) ≤ 4294967295 := by omega
  have hl2 : (k2 : Int) ≤ 65535 := by omega
  have HK4 : Hid (n % 4294967296 = k4) := hk4
  have HK2 : Hid (n % 65536 = k2) := hk2
  have HLA : Hid (laid m z n = m ++ List.replicate z 0 ++ leN 8 n ++ leN 4 k4 ++ leN 2 k2 ++ m) := by rw [Hid, laid, hk4, hk2]
  obtain ⟨a, cap, rfl, hc1, hc2, hc3⟩ := h.isSlice
  have hlI : ¬ 4096 < (m.length : Int) := by omega
  clear h S1 S2 S3 S4 S5 hz hk4 hk2
  obtain ⟨M, hM⟩ : ∃ M, m.length = M := ⟨_, rfl⟩
  rw [hM] at hc1 hc3 hl hlI ⊢
  have HM : Hid (m.length = M) := hM
  rw [hM] at HA
  clear hM
  go_enter Try.func6, Try.ntmps6
  go_wp2_with fail
  refine (le_New _).mono ?_
  rintro e w1 ⟨rfl, hb1, b1, s1⟩
  have hg1 : Bg w1 w.heap.size w.heap.size [] := ⟨_, hb1⟩
  clear hb1 s1
  go_wp2_with fail
  refine (bg_Raw _ _ _ _ m hg1 b1.size _ (HA.out.below b1 rfl) (by have := HM.out; simp; omega)).mono ?_
  rintro e w2 ⟨rfl, hg2, b2⟩
  have bl2 := b1.trans b2
  clear b2 hg1 b1
  go_wp2_with fail
  refine (bg_To _ _ _ _ 1 z hg2 bl2.size (by have := HM.out; simp; omega) HZ.out (by omega) (by omega)).mono ?_
  rintro e w3 ⟨rfl, hg3, b3⟩
  have bl3 := bl2.trans b3
  clear b3 hg2 bl2
  have hlen : ([] ++ m ++ List.replicate z 0).length = M + z := by have := HM.out; simp; omega
  have hL := bg_Len _ _ _ _ hg3
  rw [hlen] at hL
  clear hlen
  go_wp2_with fail
  refine hL.mono ?_
  rintro e w4 ⟨rfl, rfl⟩
  clear hL
  go_wp2_with fail
  refine (bg_Put64 _ _ _ _ n hg3 bl3.size (by have := HM.out; simp; omega) (by omega)).mono ?_
  rintro e w4 ⟨rfl, hg4, b4⟩
  have bl4 := bl3.trans b4
  clear b4 hg3 bl3
  go_wp2_with fail
  refine (bg_Put32 _ _ _ _ k4 hg4 bl4.size (by have := HM.out; simp [leN_length]; omega) hl4).mono ?_
  rintro e w5 ⟨rfl, hg5, b5⟩
  have bl5 := bl4.trans b5
  clear b5 hg4 bl4
  go_wp2_with fail
  refine (bg_Put16 _ _ _ _ k2 hg5 bl5.size (by have := HM.out; simp [leN_length]; omega) hl2).mono ?_
  rintro e w6 ⟨rfl, hg6, b6⟩
  have bl6 := bl5.trans b6
  clear b6 hg5 bl5
  go_wp2_with fail
  refine (bg_Raw _ _ _ _ m hg6 bl6.size _ (HA.out.below bl6 rfl) (by have := HM.out; simp [leN_length]; omega)).mono ?_
  rintro e w7 ⟨rfl, hg7, b7⟩
  have bl7 := bl6.trans b7
  rw [List.nil_append, ← HLA.out] at hg7
  clear b7 hg6 bl6
  obtain ⟨L, hL⟩ : ∃ L, laid m z n = L := ⟨_, rfl⟩
  rw [hL] at hg7 H1 H2 H3 H4 H5
  clear hL HLA
  have hLl : L.length = M + z + 14 + M := by rw [H1.out, HM.out]
  clear H1
  obtain ⟨N, hN⟩ : ∃ N, L.length = N := ⟨_, rfl⟩
  have HN : Hid (L.length = N) := hN
  have hNI : N ≤ 300000 := by omega
  have hN0 : 0 < N := by omega
  have HNS : Hid (N = M + z + 14 + M) := by rw [Hid]; omega
  clear hN hLl
  go_wp2_with fail
  refine (bg_Bytes _ _ _ _ hg7 (by have := HN.out; omega)).mono ?_
  rintro e w8 ⟨vx, rfl, ox, b8⟩
  have hg8 := hg7.below b8
  have bl8 := bl7.trans (b8.mono bl7.size)
  clear b8 hg7
  go_wp2_with fail
  refine (bg_Bytes _ _ _ _ hg8 (by have := HN.out; omega)).mono ?_
  rintro e w9 ⟨vy, rfl, oy, b9⟩
  obtain ⟨gy, cy, rfl, hgy, hgy2, _⟩ := oy.form (by intro e; have := HN.out; rw [e] at this; simp at this; omega)
  have HGX : Hid (Bg w8 w.heap.size w.heap.size L) := hg8
  have HOX : Hid (Own w8 w7.heap.size vx L) := ox
  have HBL : Hid (Below w.heap.size w w8) := bl8
  have HB9 : Hid (Below w8.heap.size w8 w9) := b9
  rw [HN.out] at oy ⊢
  clear hg8 ox bl8 b9 bl7
  go_wp2
  go_loopw [11] (fun vi wr => ∃ (k : Nat) (ly : List UInt8), k ≤ N ∧ vi = .int .i64 k ∧ Own wr w8.heap.size (.slice (some ⟨gy, 0, none⟩) N cy) ly ∧ Hid (ly.length = N) ∧ Hid (Below w8.heap.size w8 wr)) (fun vi _ => N - (intOf vi).toNat)
  case atStart => exact ⟨0, L, by omega, rfl, oy, HN, HB9⟩
  case round =>
    obtain ⟨k, ly, hk, rfl, hown, HLY, HBB⟩ := hrel
    by_cases hlt : k < N
    · obtain ⟨_, _, he, _, _, hcc1, hcc2, hcell, hsoft⟩ := hown.form (by intro e; have := HLY.out; rw [e] at this; simp at this; omega)
      simp only [Value.slice.injEq, Option.some.injEq, Addr.mk.injEq] at he
      obtain ⟨⟨rfl, _⟩, _, rfl⟩ := he
      have hce := hcell k (by have := HLY.out; omega)
      have hso := hsoft k
      obtain ⟨c, hc⟩ : ∃ c, ly[k]'(by have := HLY.out; omega) = c := ⟨_, rfl⟩
      rw [hc] at hce
      have hcb := c.toNat_lt
      have hOS := fun c z hz => hown.set k c z hz
      have HOS : Hid _ := hOS
      have hltI : (k : Int) < (N : Int) := by omega
      clear hcell hsoft hc hown hOS
      go_wp2
      go_roundw
      case rel => exact ⟨k + 1, _, by omega, by go_num, HOS.out _ _ (xor_byte c), by rw [Hid, List.length_set]; exact HLY, HBB.out.setCell (p := ⟨gy, k, none⟩) hgy _⟩
      case measure => simp [intOf]; omega
    · have hke : k = N := by omega
      have hgtI : ¬ (k : Int) < (N : Int) := by omega
      have hgx := HGX.out.below HBB.out
      have hox := HOX.out.stay HBB.out
      have hblr := HBL.out.trans (HBB.out.mono HBL.out.size)
      have hax := hox.arg (by have := HN.out; omega)
      have hMe := HM.out
      have hU64 := le_U64_yes wr vx L hax (M + z) (by have := HN.out; have := HNS.out; omega)
      have hU32 := le_U32_yes wr vx L hax (M + z + 8) (by have := HN.out; have := HNS.out; omega)
      have hU16 := le_U16_yes wr vx L hax (M + z + 12) (by have := HN.out; have := HNS.out; omega)
      have hPt := le_Part_yes wr vx L hax 0 M (by have := HN.out; have := HNS.out; omega)
      rw [← hMe, H2.out] at hU64
      rw [← hMe, H3.out, HK4.out] at hU32
      rw [← hMe, H4.out, HK2.out] at hU16
      rw [← hMe, H5.out] at hPt
      rw [hMe] at hU64 hU32 hU16 hPt
      have tx := hax.text
      have HOXR : Hid (Own wr w7.heap.size vx L) := hox
      have HGXR : Hid (Bg wr w.heap.size w.heap.size L) := hgx
      have HBR : Hid (Below w.heap.size w wr) := hblr
      clear hMe hown hke H2 H3 H4 H5 hgx hox hblr hax
      go_wp2_with fail
      refine hU64.mono ?_
      rintro e w10 ⟨rfl, rfl⟩
      go_wp2_with fail
      refine hU32.mono ?_
      rintro e w10 ⟨rfl, rfl⟩
      go_wp2_with fail
      refine hU16.mono ?_
      rintro e w10 ⟨rfl, rfl⟩
      go_wp2_with fail
      refine hPt.mono ?_
      rintro e w11 ⟨vs, rfl, os, b11⟩
      have bl11 : Below w.heap.size w w11.drew := (HBR.out.trans (b11.mono HBR.out.size)).drew
      have b11d : Below wr.heap.size wr w11.drew := b11.drew
      have osd : Own w11.drew wr.heap.size vs m := os
      have hm4 : Hid (m.length ≤ 4096) := by have := HM.out; rw [Hid]; omega
      have hL4 : Hid (L.length ≤ 300000) := by have := HN.out; rw [Hid]; omega
      have hKp : Kp w vs (.slice a M cap) vx m L wr.heap.size w7.heap.size w11.drew := Kp.mk hm4 hL4 (HGXR.out.below b11d) osd (HA.out.below bl11 rfl) (HOXR.out.stay b11d) bl11
      clear os osd b11 b11d bl11 hU64 hU32 hU16 hPt tx
      go_wp2_with fail
      try simp only [List.append_eq, List.cons_append, List.nil_append]
      go_region_held_law (fun w' => Kp w vs (.slice a M cap) vx m L wr.heap.size w7.heap.size w')
        (first | assumption | go_keep)
        (first
          | (go_at_call 32; refine (kp_Bytes hm4 hL4 (by assumption)).mono ?_; rintro e w12 ⟨vz, rfl, hk12, tz⟩)
          | (go_at_call 15; refine (kp_alive hm4 hL4 (by assumption)).mono ?_; rintro e w13 ⟨rfl, hk13⟩))
      all_goals go_wp2
      go_ret
      exact ⟨rfl, hk13.2.2.2.out.2.2.2.2⟩
set_option maxHeartbeats 4000000 in
set_option maxRecDepth 20000 in
theorem core_hi (w : World) (v : Value) (m : List UInt8) (h : Arg w v m) (hl : m.length ≤ 4096) (n : Nat) (hn : n ≤ 18446744073709551615) (u : Int) (hu : 4096 < u) (hr : -9223372036854775808 ≤ u ∧ u ≤ 9223372036854775807) :
    Calls Try.prog 6 #[v, .int .u64 n, .int .i64 u] w fun e w' => e = .returned (.bool true) ∧ Below w.heap.size w w' := by
  have HA : Hid (Arg w v m) := h
  obtain ⟨z, hz⟩ := toIs m.length 1
  have hz2 : z ≤ 262144 := by rcases hz with ⟨_, h1, _, h2⟩ | ⟨_, h⟩ <;> omega
  have HZ : Hid (ToIs m.length 1 z) := hz
  obtain ⟨S1, S2, S3, S4, S5⟩ := laid_says m z n hn
  have H1 : Hid _ := S1
  have H2 : Hid _ := S2
  have H3 : Hid _ := S3
  have H4 : Hid _ := S4
  have H5 : Hid _ := S5
  obtain ⟨k4, hk4⟩ : ∃ k, n % 4294967296 = k := ⟨_, rfl⟩
  obtain ⟨k2, hk2⟩ : ∃ k, n % 65536 = k := ⟨_, rfl⟩
  have hw4 : IntKind.u32.wrap (n : Int) = (k4 : Int) := by rw [IntKind.wrap_u32]; omega
  have hw2 : IntKind.u16.wrap (n : Int) = (k2 : Int) := by rw [IntKind.wrap_u16]; omega
  have hl4 : (k4 : Int) ≤ 4294967295 := by omega
  have hl2 : (k2 : Int) ≤ 65535 := by omega
  have HK4 : Hid (n % 4294967296 = k4) := hk4
  have HK2 : Hid (n % 65536 = k2) := hk2
  have HLA : Hid (laid m z n = m ++ List.replicate z 0 ++ leN 8 n ++ leN 4 k4 ++ leN 2 k2 ++ m) := by rw [Hid, laid, hk4, hk2]
  obtain ⟨a, cap, rfl, hc1, hc2, hc3⟩ := h.isSlice
  have hlI : ¬ 4096 < (m.length : Int) := by omega
  clear h S1 S2 S3 S4 S5 hz hk4 hk2
  obtain ⟨M, hM⟩ : ∃ M, m.length = M := ⟨_, rfl⟩
  rw [hM] at hc1 hc3 hl hlI ⊢
  have HM : Hid (m.length = M) := hM
  rw [hM] at HA
  clear hM
  go_enter Try.func6, Try.ntmps6
  go_wp2_with fail
  refine (le_New _).mono ?_
  rintro e w1 ⟨rfl, hb1, b1, s1⟩
  have hg1 : Bg w1 w.heap.size w.heap.size [] := ⟨_, hb1⟩
  clear hb1 s1
  go_wp2_with fail
  refine (bg_Raw _ _ _ _ m hg1 b1.size _ (HA.out.below b1 rfl) (by have := HM.out; simp; omega)).mono ?_
  rintro e w2 ⟨rfl, hg2, b2⟩
  have bl2 := b1.trans b2
  clear b2 hg1 b1
  go_wp2_with fail
  refine (bg_To _ _ _ _ 1 z hg2 bl2.size (by have := HM.out; simp; omega) HZ.out (by omega) (by omega)).mono ?_
  rintro e w3 ⟨rfl, hg3, b3⟩
  have bl3 := bl2.trans b3
  clear b3 hg2 bl2
  have hlen : ([] ++ m ++ List.replicate z 0).length = M + z := by have := HM.out; simp; omega
  have hL := bg_Len _ _ _ _ hg3
  rw [hlen] at hL
  clear hlen
  go_wp2_with fail
  refine hL.mono ?_
  rintro e w4 ⟨rfl, rfl⟩
  clear hL
  go_wp2_with fail
  refine (bg_Put64 _ _ _ _ n hg3 bl3.size (by have := HM.out; simp; omega) (by omega)).mono ?_
  rintro e w4 ⟨rfl, hg4, b4⟩
  have bl4 := bl3.trans b4
  clear b4 hg3 bl3
  go_wp2_with fail
  refine (bg_Put32 _ _ _ _ k4 hg4 bl4.size (by have := HM.out; simp [leN_length]; omega) hl4).mono ?_
  rintro e w5 ⟨rfl, hg5, b5⟩
  have bl5 := bl4.trans b5
  clear b5 hg4 bl4
  go_wp2_with fail
  refine (bg_Put16 _ _ _ _ k2 hg5 bl5.size (by have := HM.out; simp [leN_length]; omega) hl2).mono ?_
  rintro e w6 ⟨rfl, hg6, b6⟩
  have bl6 := bl5.trans b6
  clear b6 hg5 bl5
  go_wp2_with fail
  refine (bg_Raw _ _ _ _ m hg6 bl6.size _ (HA.out.below bl6 rfl) (by have := HM.out; simp [leN_length]; omega)).mono ?_
  rintro e w7 ⟨rfl, hg7, b7⟩
  have bl7 := bl6.trans b7
  rw [List.nil_append, ← HLA.out] at hg7
  clear b7 hg6 bl6
  obtain ⟨L, hL⟩ : ∃ L, laid m z n = L := ⟨_, rfl⟩
  rw [hL] at hg7 H1 H2 H3 H4 H5
  clear hL HLA
  have hLl : L.length = M + z + 14 + M := by rw [H1.out, HM.out]
  clear H1
  obtain ⟨N, hN⟩ : ∃ N, L.length = N := ⟨_, rfl⟩
  have HN : Hid (L.length = N) := hN
  have hNI : N ≤ 300000 := by omega
  have hN0 : 0 < N := by omega
  have HNS : Hid (N = M + z + 14 + M) := by rw [Hid]; omega
  clear hN hLl
  go_wp2_with fail
  refine (bg_Bytes _ _ _ _ hg7 (by have := HN.out; omega)).mono ?_
  rintro e w8 ⟨vx, rfl, ox, b8⟩
  have hg8 := hg7.below b8
  have bl8 := bl7.trans (b8.mono bl7.size)
  clear b8 hg7
  go_wp2_with fail
  refine (bg_Bytes _ _ _ _ hg8 (by have := HN.out; omega)).mono ?_
  rintro e w9 ⟨vy, rfl, oy, b9⟩
  obtain ⟨gy, cy, rfl, hgy, hgy2, _⟩ := oy.form (by intro e; have := HN.out; rw [e] at this; simp at this; omega)
  have HGX : Hid (Bg w8 w.heap.size w.heap.size L) := hg8
  have HOX : Hid (Own w8 w7.heap.size vx L) := ox
  have HBL : Hid (Below w.heap.size w w8) := bl8
  have HB9 : Hid (Below w8.heap.size w8 w9) := b9
  rw [HN.out] at oy ⊢
  clear hg8 ox bl8 b9 bl7
  go_wp2
  go_loopw [11] (fun vi wr => ∃ (k : Nat) (ly : List UInt8), k ≤ N ∧ vi = .int .i64 k ∧ Own wr w8.heap.size (.slice (some ⟨gy, 0, none⟩) N cy) ly ∧ Hid (ly.length = N) ∧ Hid (Below w8.heap.size w8 wr)) (fun vi _ => N - (intOf vi).toNat)
  case atStart => exact ⟨0, L, by omega, rfl, oy, HN, HB9⟩
  case round =>
    obtain ⟨k, ly, hk, rfl, hown, HLY, HBB⟩ := hrel
    by_cases hlt : k < N
    · obtain ⟨_, _, he, _, _, hcc1, hcc2, hcell, hsoft⟩ := hown.form (by intro e; have := HLY.out; rw [e] at this; simp at this; omega)
      simp only [Value.slice.injEq, Option.some.injEq, Addr.mk.injEq] at he
      obtain ⟨⟨rfl, _⟩, _, rfl⟩ := he
      have hce := hcell k (by have := HLY.out; omega)
      have hso := hsoft k
      obtain ⟨c, hc⟩ : ∃ c, ly[k]'(by have := HLY.out; omega) = c := ⟨_, rfl⟩
      rw [hc] at hce
      have hcb := c.toNat_lt
      have hOS := fun c z hz => hown.set k c z hz
      have HOS : Hid _ := hOS
      have hltI : (k : Int) < (N : Int) := by omega
      clear hcell hsoft hc hown hOS
      go_wp2
      go_roundw
      case rel => exact ⟨k + 1, _, by omega, by go_num, HOS.out _ _ (xor_byte c), by rw [Hid, List.length_set]; exact HLY, HBB.out.setCell (p := ⟨gy, k, none⟩) hgy _⟩
      case measure => simp [intOf]; omega
    · have hke : k = N := by omega
      have hgtI : ¬ (k : Int) < (N : Int) := by omega
      have hgx := HGX.out.below HBB.out
      have hox := HOX.out.stay HBB.out
      have hblr := HBL.out.trans (HBB.out.mono HBL.out.size)
      have hax := hox.arg (by have := HN.out; omega)
      have hMe := HM.out
      have hU64 := le_U64_yes wr vx L hax (M + z) (by have := HN.out; have := HNS.out; omega)
      have hU32 := le_U32_yes wr vx L hax (M + z + 8) (by have := HN.out; have := HNS.out; omega)
      have hU16 := le_U16_yes wr vx L hax (M + z + 12) (by have := HN.out; have := HNS.out; omega)
      have hPt := le_Part_yes wr vx L hax 0 M (by have := HN.out; have := HNS.out; omega)
      rw [← hMe, H2.out] at hU64
      rw [← hMe, H3.out, HK4.out] at hU32
      rw [← hMe, H4.out, HK2.out] at hU16
      rw [← hMe, H5.out] at hPt
      rw [hMe] at hU64 hU32 hU16 hPt
      have tx := hax.text
      have HOXR : Hid (Own wr w7.heap.size vx L) := hox
      have HGXR : Hid (Bg wr w.heap.size w.heap.size L) := hgx
      have HBR : Hid (Below w.heap.size w wr) := hblr
      clear hMe hown hke H2 H3 H4 H5 hgx hox hblr hax
      go_wp2_with fail
      refine hU64.mono ?_
      rintro e w10 ⟨rfl, rfl⟩
      go_wp2_with fail
      refine hU32.mono ?_
      rintro e w10 ⟨rfl, rfl⟩
      go_wp2_with fail
      refine hU16.mono ?_
      rintro e w10 ⟨rfl, rfl⟩
      go_wp2_with fail
      refine hPt.mono ?_
      rintro e w11 ⟨vs, rfl, os, b11⟩
      have bl11 : Below w.heap.size w w11.drew := (HBR.out.trans (b11.mono HBR.out.size)).drew
      have b11d : Below wr.heap.size wr w11.drew := b11.drew
      have osd : Own w11.drew wr.heap.size vs m := os
      have hm4 : Hid (m.length ≤ 4096) := by have := HM.out; rw [Hid]; omega
      have hL4 : Hid (L.length ≤ 300000) := by have := HN.out; rw [Hid]; omega
      have hKp : Kp w vs (.slice a M cap) vx m L wr.heap.size w7.heap.size w11.drew := Kp.mk hm4 hL4 (HGXR.out.below b11d) osd (HA.out.below bl11 rfl) (HOXR.out.stay b11d) bl11
      clear os osd b11 b11d bl11 hU64 hU32 hU16 hPt tx
      go_wp2_with fail
      try simp only [List.append_eq, List.cons_append, List.nil_append]
      go_region_held_law (fun w' => Kp w vs (.slice a M cap) vx m L wr.heap.size w7.heap.size w')
        (first | assumption | go_keep)
        (first
          | (go_at_call 32; refine (kp_Bytes hm4 hL4 (by assumption)).mono ?_; rintro e w12 ⟨vz, rfl, hk12, tz⟩)
          | (go_at_call 15; refine (kp_alive hm4 hL4 (by assumption)).mono ?_; rintro e w13 ⟨rfl, hk13⟩))
      all_goals go_wp2
      go_ret
      exact ⟨rfl, hk13.2.2.2.out.2.2.2.2⟩
theorem walk (w : World) (s0 : Option Addr) (len0 cap0 : Nat) (z0 : List Int) (h : IsRow .u8 w s0 len0 cap0 z0) (a1 : Int) (w1 : (Lit.int .u64 a1).wf = true) (a2 : Int) (w2 : (Lit.int .i64 a2).wf = true) :
    Calls Try.prog 6 #[.slice s0 len0 cap0, .int .u64 a1, .int .i64 a2] w fun e w' => e = .returned (.bool true) ∧ Below w.heap.size w w' := by
  have h1 := wf_u64 w1
  have h2 := bounds_i64 w2
  by_cases hl : len0 ≤ 4096
  · obtain ⟨e, ha⟩ := h.arg (by omega)
    have e1 : a1 = ((a1.toNat : Nat) : Int) := by omega
    rw [e1]
    by_cases hu : a2 < 1
    · exact core_lo w _ _ ha (by omega) _ (by omega) _ hu h2
    · by_cases hu2 : 4096 < a2
      · exact core_hi w _ _ ha (by omega) _ (by omega) _ hu2 h2
      · exact core_in w _ _ ha (by omega) _ (by omega) _ (by omega) h2
  · have hl2 : 4096 < (len0 : Int) := by omega
    have hlm : len0 ≤ 9223372036854775807 := by
      rcases h with ⟨_, rfl, _⟩ | ⟨_, _, h1, h2, _⟩
      · omega
      · unfold maxLen at h2; omega
    clear h
    go_enter Try.func6, Try.ntmps6
    go_wp2_with fail
    refine (le_New _).mono ?_
    rintro e w1 ⟨rfl, hb1, b1, s1⟩
    clear hb1 s1
    go_wp2
    go_ret
    exact ⟨rfl, b1⟩
theorem own : ownKnob Try.prog.godebug = none := by kernel_rfl
theorem laidOut : laidOutB Try.prog = true := by kernel_rfl
set_option maxRecDepth 100000 in
theorem lifted (os : Os) (started : os.Started) (H : Type) (enc : TypeId × Value → H) :
    ReturnsInHanded {} Try.checked os 6 .any (Rows.leBackSpec.pre6 enc Try.prog Try.f6 Rows.leBackRow.domain false) (Rows.leBackSpec.post enc Try.prog Try.f6 false true false false) := by
  refine returnsInHanded_of_change (C := Try.checked) own started (by kernel_rfl) Try.func6
    (ChangeSpec.witness6 (enc := enc) (C := Try.checked) false ⟨#[], #[.slice none 0 0, .int .u64 0, .int .i64 0], []⟩ 8 (by kernel_rfl) (by kernel_rfl) (by kernel_rfl) (by kernel_rfl)) ?_
  intro W base args ds gs before hval0 hW hcnd _
  have hval : ∀ (j : Nat) t v, Try.f6.params[j]? = some t → args[j]? = some v → Value.okWide Try.prog W .any base t v := hval0
  have hW' := hW
  obtain ⟨p, q, hA0, hV, rfl, hfz, hnd⟩ := hW
  have hA : DataW.TrodAll enc Try.prog W 0 (fun _ => true) true Try.f6.params.toList args.toList ds p := hA0
  rw [Try.params6] at hA hval
  obtain ⟨v0, vs0, d0, ds0, p0, q0, hargs, rfl, rfl, h0, r0⟩ := trodAll_cons hA
  obtain ⟨v1, vs1, d1, ds1, p1, q1, rfl, rfl, rfl, h1, r1⟩ := trodAll_cons r0
  obtain ⟨v2, vs2, d2, ds2, p2, q2, rfl, rfl, rfl, h2, r2⟩ := trodAll_cons r1
  obtain ⟨rfl, rfl, rfl⟩ := trodAll_nil r2
  obtain rfl : args = #[v0, v1, v2] := by cases args; simp_all
  obtain ⟨rfl, rfl⟩ := trodVars_none hV
  have k0 := h0
  have lt0 : ∀ x ∈ p0, x.block < W.heap.size := by obtain ⟨m, hm⟩ := k0; exact DataW.trod_lt m _ _ _ hm
  have k1 := h1
  have lt1 : ∀ x ∈ p1, x.block < W.heap.size := by obtain ⟨m, hm⟩ := k1; exact DataW.trod_lt m _ _ _ hm
  have k2 := h2
  have lt2 : ∀ x ∈ p2, x.block < W.heap.size := by obtain ⟨m, hm⟩ := k2; exact DataW.trod_lt m _ _ _ hm
  obtain ⟨s0, len0, cap0, rfl⟩ := okWide_slice Try.underlying22 (hval 0 22 v0 rfl rfl)
  obtain ⟨z0, w0⟩ : ∃ zs, IsRow .u8 W s0 len0 cap0 zs := by
    obtain ⟨fuel, hf⟩ := h0
    rcases open_ints Try.underlying22 Try.underlying5 (by kernel_rfl) hf with ⟨hcs, _⟩ | ⟨x, l, c, zs, hcs, _, hl, hm, hz, _, hcell, hwz⟩
    · simp [Value.cells] at hcs
      obtain ⟨rfl, rfl, rfl⟩ := hcs
      exact ⟨[], .inl ⟨rfl, rfl, rfl, rfl⟩⟩
    · simp [Value.cells] at hcs
      obtain ⟨rfl, rfl, rfl⟩ := hcs
      exact ⟨zs, .inr ⟨_, rfl, hl, hm, by simpa using hz, hcell, hwz⟩⟩
  obtain ⟨a1, rfl, rfl, rfl, w1⟩ := open_int Try.underlying23 (hval 1 23 v1 rfl rfl) h1
  obtain ⟨a2, rfl, rfl, rfl, w2⟩ := open_int Try.underlying3 (hval 2 3 v2 rfl rfl) h2
  clear hA0 hval0
  refine (walk W s0 len0 cap0 z0 w0 a1 w1 a2 w2).mono fun e W' ⟨he, bel⟩ => ?_
  subst he
  exact ⟨_, rfl, _, _, _, [], _, [], hW', trodAll_mk1 (shut_bool Try.underlying4 _), (trodAll_cons_mk (Below.trod laidOut (by kernel_rfl) (of_decide_eq_true (by kernel_rfl)) k0 bel lt0) (trodAll_cons_mk (Below.trod laidOut (by kernel_rfl) (of_decide_eq_true (by kernel_rfl)) k1 bel lt1) (trodAll_cons_mk (Below.trod laidOut (by kernel_rfl) (of_decide_eq_true (by kernel_rfl)) k2 bel lt2) trodAll_mk0))), rfl, bel.frame _, fun h => by cases h⟩

theorem over : Rows.leBackRow.holds Try.pinned (OpenSpec.ofChange Rows.leBackSpec) :=
  OpenClaim.holds_of_wide 6 Try.f6 rfl rfl rfl rfl rfl rfl rfl ⟨rfl, rfl, rfl, rfl, rfl⟩ rfl rfl rfl rfl rfl (by kernel_rfl) Try.func6 (by kernel_rfl)
    (of_decide_eq_true (by kernel_rfl)) (by unfold Func.isWrapper; first | (rw [if_pos (by decide +kernel)]; kernel_rfl) | (rw [if_neg (by decide +kernel)]; exact ⟨rfl, rfl⟩))
    (fun os started H enc _ => lifted os started H enc)
end LLeBack
theorem LeBack_proved : Rows.LeBackSaid := LLeBack.over
end Go.Proofs.Ytipnjkemiopjiaa
