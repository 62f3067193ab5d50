
/-
  Layer 7's reference: numbers behind bytes.
-/
import Derived.Test.YtegcdddfccmljaaZpT
set_option linter.unusedVariables false
namespace Go.Proofs.Ytegcdddfccmljaa
open Go.RowKit Go.PlainAid
/-- Only the row's own block and new blocks have turned, and the row lies where it lay, or in a new block. -/
def Gx (w w' : World) (v v' : Value) : Prop := w.grownBy w' v.ownBlock ∧ Nx w v.ownBlock v'.ownBlock
theorem Gx.refl (w : World) (v : Value) : Gx w w v v := ⟨World.grownBy.refl _ _, Nx.refl _ _⟩
theorem Gx.trans {a b c : World} {v v' v2 : Value} (h : Gx a b v v') (k : Gx b c v' v2) : Gx a c v v2 := by
  refine ⟨⟨k.1.os.trans h.1.os, k.1.tape.trans h.1.tape, k.1.output.trans h.1.output, Nat.le_trans h.1.size k.1.size, fun j hj ho => ?_⟩, h.2.trans h.1.size k.2⟩
  rw [k.1.block j (Nat.lt_of_lt_of_le hj h.1.size) ?_, h.1.block j hj ho]
  rcases h.2 with e | ⟨q, e, hq⟩
  · rw [e]; exact ho
  · rw [e]; intro e2; have := Option.some.inj e2; omega
set_option maxHeartbeats 1000000 in
theorem ref_Put (w : World) (B : Nat) (v : Value) (l : List UInt8) (n k : Nat) (h : Own w B v l) (hB : B ≤ w.heap.size) (hl : l.length + k ≤ 1000000000) (hn : (n : Int) ≤ 18446744073709551615) :
    Calls Try.prog 47 #[v, .int .u64 n, .int .i64 k] w fun e w' => ∃ v', e = .returned v' ∧ Own w' B v' (l ++ leN k n) ∧ Gx w w' v v' := by
  go_enter Try.func47, Try.ntmps47
  go_wp2
  go_loopw [0, 1, 7] (fun vb vn vi wr => ∃ (i : Nat), i ≤ k ∧ vi = .int .i64 i ∧ vn = .int .u64 ((n / 256 ^ i : Nat) : Int) ∧ Own wr B vb (l ++ leN i n) ∧ Gx w wr v vb)
    (fun _ _ vi _ => k - (intOf vi).toNat)
  case atStart => exact ⟨0, by omega, rfl, by simp, by simpa [leN] using h, Gx.refl _ _⟩
  case round =>
    obtain ⟨i, hi, rfl, rfl, hown, hg⟩ := hrel
    obtain ⟨m, hm⟩ : ∃ m, n / 256 ^ i = m := ⟨_, rfl⟩
    have hm2 : (m : Int) ≤ 18446744073709551615 := by
      have := Nat.div_le_self n (256 ^ i)
      omega
    have HM : Hid (n / 256 ^ i = m) := hm
    rw [hm]
    clear hm
    have hBr : B ≤ wr.heap.size := Nat.le_trans hB hg.1.size
    have HG : Hid _ := hg
    clear hg
    by_cases hlt : i < k
    · have HL : Hid ((l ++ leN i n).length < 1000000000000) := by rw [Hid, List.length_append, leN_length]; omega
      go_wp2_with (at_builtin; refine append_byte_at rfl _ _ rfl B wr _ (l ++ leN i n) _ hown (b8 (m % 256)) ?cc rfl rfl HL.out hBr ?_)
      case cc => rw [b8_toNat (by omega)]; omega
      intro v' w1 h1 h2 h3
      have HS : Hid (Gx w w1 v v') := Gx.trans HG.out ⟨h2, h3⟩
      obtain ⟨a', n', cap', rfl⟩ := h1.isSlice
      go_wp2
      go_roundw
      case rel =>
        refine ⟨i + 1, by omega, by go_num, ?_, ?_, HS.out⟩
        · rw [pow_step, HM.out]; go_num
        · rw [leN_snoc, HM.out]; exact h1
      case measure => simp [intOf]; omega
    · have hik : i = k := by omega
      subst hik
      go_wp2
      go_ret
      exact ⟨_, rfl, hown, HG.out⟩
set_option maxHeartbeats 1000000 in
theorem ref_Zeros (w : World) (B : Nat) (v : Value) (l : List UInt8) (z : Int) (h : Own w B v l) (hB : B ≤ w.heap.size) (hl : l.length ≤ 900000000) (hz : z ≤ 4096) :
    Calls Try.prog 32 #[v, .int .i64 z] w fun e w' => ∃ v', e = .returned v' ∧ Own w' B v' (l ++ List.replicate z.toNat 0) ∧ Gx w w' v v' := by
  go_enter Try.func32, Try.ntmps32
  go_wp2
  go_loopw [0, 5] (fun vb vi wr => ∃ (i : Nat), i ≤ z.toNat ∧ vi = .int .i64 i ∧ Own wr B vb (l ++ List.replicate i 0) ∧ Gx w wr v vb)
    (fun _ vi _ => z.toNat - (intOf vi).toNat)
  case atStart => exact ⟨0, by omega, rfl, by simpa using h, Gx.refl _ _⟩
  case round =>
    obtain ⟨i, hi, rfl, hown, hg⟩ := hrel
    have hBr : B ≤ wr.heap.size := Nat.le_trans hB hg.1.size
    have HG : Hid _ := hg
    clear hg
    by_cases hlt : (i : Int) < z
    · have HL : Hid ((l ++ List.replicate i (0 : UInt8)).length < 1000000000000) := by rw [Hid, List.length_append, List.length_replicate]; omega
      go_wp2_with (at_builtin; refine append_byte_at rfl _ _ rfl B wr _ (l ++ List.replicate i 0) _ hown 0 rfl rfl rfl HL.out hBr ?_)
      intro v' w1 h1 h2 h3
      have HS : Hid (Gx w w1 v v') := Gx.trans HG.out ⟨h2, h3⟩
      obtain ⟨a', n', cap', rfl⟩ := h1.isSlice
      go_wp2
      go_roundw
      case rel =>
        refine ⟨i + 1, by omega, by go_num, ?_, HS.out⟩
        rw [List.replicate_succ']; exact h1
      case measure => simp [intOf]; omega
    · have hik : i = z.toNat := by omega
      subst hik
      go_wp2
      go_ret
      exact ⟨_, rfl, hown, HG.out⟩
set_option maxHeartbeats 1000000 in
theorem ref_put (w : World) (B : Nat) (v : Value) (l : List UInt8) (ns : List Nat) (Y cap : Nat) (h : Own w B v l) (hB : B ≤ w.heap.size) (hl : l.length ≤ 900000000) (hns : ns.length ≤ 100) (hcap : ns.length ≤ cap) (hcm : cap ≤ 1000)
    (hc : ∀ i (h : i < ns.length), w.cell? ⟨Y, i, none⟩ = some (.int .u64 (ns[i] : Nat)) ∧ ns[i] ≤ 18446744073709551615) (hY : v.ownBlock ≠ some Y) :
    Calls Try.prog 31 #[v, .slice (some ⟨Y, 0, none⟩) ns.length cap] w fun e w' => ∃ v', e = .returned v' ∧ Own w' B v' (l ++ ns.flatMap (leN 2)) ∧ Gx w w' v v' := by
  have HC := hide hc
  have HY := hide hY
  have hlen : ∀ i, ((ns.take i).flatMap (leN 2)).length ≤ 400 := fun i => by
    have e : ((ns.take i).flatMap (leN 2)).length = (ns.take i).length * 2 := by
      generalize ns.take i = t
      induction t with
      | nil => rfl
      | cons a t ih => rw [List.flatMap_cons, List.length_append, ih, leN_length, List.length_cons]; omega
    rw [e, List.length_take]; omega
  have HLE := hide hlen
  clear hc hY hlen
  go_enter Try.func31, Try.ntmps31
  go_wp2
  go_loopw [0, 5] (fun vb vi wr => ∃ (i : Nat), i ≤ ns.length ∧ vi = .int .i64 i ∧ Hid (Own wr B vb (l ++ (ns.take i).flatMap (leN 2))) ∧ Hid (Gx w wr v vb)) (fun _ vi _ => ns.length - (intOf vi).toNat)
  case atStart => exact ⟨0, by omega, rfl, by simpa [Hid] using h, Gx.refl _ _⟩
  case round =>
    obtain ⟨i, hi, rfl, HO, HG⟩ := hrel
    by_cases hlt : i < ns.length
    · have hltI : (i : Int) < (ns.length : Int) := by omega
      obtain ⟨hcell, hnb⟩ := HC.out i hlt
      have hcr : wr.cell? ⟨Y, i, none⟩ = some (.int .u64 (ns[i] : Nat)) := by
        rw [World.cell?_of_block (a := ⟨Y, i, none⟩) (HG.out.1.block Y (World.block_lt_of_cell? _ _ hcell) (Ne.symm HY.out))]; exact hcell
      have hP := ref_Put wr B _ _ ns[i] 2 HO.out (Nat.le_trans hB HG.out.1.size) (by have := HLE.out i; rw [List.length_append]; omega) (by omega)
      have htk : (ns.take (i + 1)).flatMap (leN 2) = (ns.take i).flatMap (leN 2) ++ leN 2 ns[i] := by
        rw [List.take_add_one, List.getElem?_eq_getElem hlt, List.flatMap_append]; simp
      have HTK := hide htk
      clear hcell htk
      generalize ns[i] = q at *
      go_wp2_with fail
      refine hP.mono ?_
      rintro e w1 ⟨v1, rfl, o1, g1⟩
      have HO1 : Hid (Own w1 B v1 (l ++ (ns.take (i + 1)).flatMap (leN 2))) := by rw [Hid, HTK.out, ← List.append_assoc]; exact o1
      have HG1 : Hid (Gx w w1 v v1) := HG.out.trans g1
      clear hP o1 g1
      go_wp2
      go_roundw
      case rel => exact ⟨i + 1, by omega, by go_num, HO1, HG1⟩
      case measure => simp [intOf]; omega
    · have hie : i = ns.length := by omega
      subst hie
      rw [List.take_length] at HO
      go_wp2
      go_ret
      exact ⟨_, rfl, HO.out, HG.out⟩
set_option maxHeartbeats 1000000 in
theorem ref_put4 (w : World) (B : Nat) (v : Value) (l : List UInt8) (ns : List Nat) (Y cap : Nat) (h : Own w B v l) (hB : B ≤ w.heap.size) (hl : l.length ≤ 900000000) (hns : ns.length ≤ 100) (hcap : ns.length ≤ cap) (hcm : cap ≤ 1000)
    (hc : ∀ i (h : i < ns.length), w.cell? ⟨Y, i, none⟩ = some (.int .u64 (ns[i] : Nat)) ∧ ns[i] ≤ 18446744073709551615) (hY : v.ownBlock ≠ some Y) :
    Calls Try.prog 30 #[v, .slice (some ⟨Y, 0, none⟩) ns.length cap] w fun e w' => ∃ v', e = .returned v' ∧ Own w' B v' (l ++ ns.flatMap (leN 4)) ∧ Gx w w' v v' := by
  have HC := hide hc
  have HY := hide hY
  have hlen : ∀ i, ((ns.take i).flatMap (leN 4)).length ≤ 400 := fun i => by
    have e : ((ns.take i).flatMap (leN 4)).length = (ns.take i).length * 4 := by
      generalize ns.take i = t
      induction t with
      | nil => rfl
      | cons a t ih => rw [List.flatMap_cons, List.length_append, ih, leN_length, List.length_cons]; omega
    rw [e, List.length_take]; omega
  have HLE := hide hlen
  clear hc hY hlen
  go_enter Try.func30, Try.ntmps30
  go_wp2
  go_loopw [0, 5] (fun vb vi wr => ∃ (i : Nat), i ≤ ns.length ∧ vi = .int .i64 i ∧ Hid (Own wr B vb (l ++ (ns.take i).flatMap (leN 4))) ∧ Hid (Gx w wr v vb)) (fun _ vi _ => ns.length - (intOf vi).toNat)
  case atStart => exact ⟨0, by omega, rfl, by simpa [Hid] using h, Gx.refl _ _⟩
  case round =>
    obtain ⟨i, hi, rfl, HO, HG⟩ := hrel
    by_cases hlt : i < ns.length
    · have hltI : (i : Int) < (ns.length : Int) := by omega
      obtain ⟨hcell, hnb⟩ := HC.out i hlt
      have hcr : wr.cell? ⟨Y, i, none⟩ = some (.int .u64 (ns[i] : Nat)) := by
        rw [World.cell?_of_block (a := ⟨Y, i, none⟩) (HG.out.1.block Y (World.block_lt_of_cell? _ _ hcell) (Ne.symm HY.out))]; exact hcell
      have hP := ref_Put wr B _ _ ns[i] 4 HO.out (Nat.le_trans hB HG.out.1.size) (by have := HLE.out i; rw [List.length_append]; omega) (by omega)
      have htk : (ns.take (i + 1)).flatMap (leN 4) = (ns.take i).flatMap (leN 4) ++ leN 4 ns[i] := by
        rw [List.take_add_one, List.getElem?_eq_getElem hlt, List.flatMap_append]; simp
      have HTK := hide htk
      clear hcell htk
      generalize ns[i] = q at *
      go_wp2_with fail
      refine hP.mono ?_
      rintro e w1 ⟨v1, rfl, o1, g1⟩
      have HO1 : Hid (Own w1 B v1 (l ++ (ns.take (i + 1)).flatMap (leN 4))) := by rw [Hid, HTK.out, ← List.append_assoc]; exact o1
      have HG1 : Hid (Gx w w1 v v1) := HG.out.trans g1
      clear hP o1 g1
      go_wp2
      go_roundw
      case rel => exact ⟨i + 1, by omega, by go_num, HO1, HG1⟩
      case measure => simp [intOf]; omega
    · have hie : i = ns.length := by omega
      subst hie
      rw [List.take_length] at HO
      go_wp2
      go_ret
      exact ⟨_, rfl, HO.out, HG.out⟩
end Go.Proofs.Ytegcdddfccmljaa
