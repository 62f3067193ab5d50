
/-
  The chapter's examples of layer 6 (alive) come out: the walk.
-/
import Derived.Test.YthkpcafbfgfjpaaDoorFsP
import Derived.Lib.SlBytesConst
set_option linter.unusedVariables false
namespace Go.Proofs.YthkpcafbfgfjpaaDoor
open Go.RowKit Go.PlainAid
def C12 (b : Nat) : Array Value := #[.string ⟨#[47, 108, 105, 98]⟩, .int .i64 1, .slice none 0 0, .string ⟨#[]⟩, .string ⟨#[47, 108, 105, 98, 47, 97, 46, 115, 111]⟩, .int .i64 2, .slice (some ⟨b, 0, none⟩) 1 1, .string ⟨#[]⟩, .string ⟨#[47, 108]⟩, .int .i64 3, .slice none 0 0, .string ⟨#[108, 105, 98]⟩]
theorem l3_at (w : World) : NdsAt ((w.alloc (.cells #[.int .u8 120] 5 (1, 2))).alloc (.cells (C12 w.heap.size) 40)) (some ⟨w.heap.size + 1, 0, none⟩) (L3 w.heap.size) := by
  have h1 : ((w.alloc (.cells #[.int .u8 120] 5 (1, 2))).alloc (.cells (C12 w.heap.size) 40)).heap[w.heap.size + 1]? = some (.cells (C12 w.heap.size) 40 (0, 0)) := by
    have := heap_alloc_new (w.alloc (.cells #[.int .u8 120] 5 (1, 2))) (.cells (C12 w.heap.size) 40)
    rwa [show (w.alloc (.cells #[.int .u8 120] 5 (1, 2))).heap.size = w.heap.size + 1 from by simp] at this
  have h0 : ((w.alloc (.cells #[.int .u8 120] 5 (1, 2))).alloc (.cells (C12 w.heap.size) 40)).heap[w.heap.size]? = some (.cells #[.int .u8 120] 5 (1, 2)) := by
    rw [Below.heap_alloc _ _ _ (by simp)]
    exact heap_alloc_new w _
  have hc : ∀ j, ((w.alloc (.cells #[.int .u8 120] 5 (1, 2))).alloc (.cells (C12 w.heap.size) 40)).cell? ⟨w.heap.size + 1, j, none⟩ = (C12 w.heap.size)[j]? := fun j => by unfold World.cell?; rw [h1]; rfl
  refine ⟨.inr ⟨_, _, rfl, fun i hi => ?_⟩⟩
  match i, hi with
  | 0, _ => exact ⟨by rw [hc]; rfl, by rw [hc]; rfl, by rw [hc]; rfl, by rw [hc]; rfl, by show (-9223372036854775808 : Int) ≤ 1; decide, by show (1 : Int) ≤ 9223372036854775807; decide, ⟨none, 0, rfl, Nat.le_refl 0, Nat.zero_le _, .inl ⟨rfl, rfl, rfl⟩⟩⟩
  | 1, _ =>
    refine ⟨by rw [hc]; rfl, by rw [hc]; rfl, by rw [hc]; rfl, by rw [hc]; rfl, by show (-9223372036854775808 : Int) ≤ 2; decide, by show (2 : Int) ≤ 9223372036854775807; decide, ⟨some ⟨w.heap.size, 0, none⟩, 1, rfl, Nat.le_refl 1, by decide, .inr ⟨_, rfl, .inr id, fun j hj => ?_⟩⟩⟩
    have hj0 : j = 0 := by
      have : j < 1 := hj
      omega
    subst hj0
    rw [Addr.add_mid]
    unfold World.cell?
    rw [h0]
    rfl
  | 2, _ => exact ⟨by rw [hc]; rfl, by rw [hc]; rfl, by rw [hc]; rfl, by rw [hc]; rfl, by show (-9223372036854775808 : Int) ≤ 3; decide, by show (3 : Int) ≤ 9223372036854775807; decide, ⟨none, 0, rfl, Nat.le_refl 0, Nat.zero_le _, .inl ⟨rfl, rfl, rfl⟩⟩⟩
theorem chk_datas {L l : List Nd} (h : Grow L l) : ∀ n ∈ rootN :: l, n.data.length ≤ 262144 := by
  intro n hn
  rcases List.mem_cons.1 hn with e | e
  · subst e; decide
  · exact chk_big (h.chk n e)
set_option maxHeartbeats 4000000 in
set_option maxRecDepth 20000 in
theorem alive06 (w : World) (hm : Mx w) (hg : 0 < w.heap.size) : Calls Tryd.prog 7 #[] w fun e w' => e = .returned (.bool true) ∧ Below w.heap.size w w' := by
  have b2 : Below w.heap.size w ((w.alloc (.cells #[.int .u8 120] 5 (1, 2))).alloc (.cells (C12 w.heap.size) 40)) := (below_box w _).alloc (by simp) _
  have hN := vfs_New ((w.alloc (.cells #[.int .u8 120] 5 (1, 2))).alloc (.cells (C12 w.heap.size) 40)) (hm.below b2) (some ⟨w.heap.size + 1, 0, none⟩) 3 (L3 w.heap.size) (Nat.le_refl 3) (by decide) (l3_at w) (fun n hn => by
    simp only [L3, List.mem_cons, List.not_mem_nil, or_false] at hn
    rcases hn with e | e | e <;> subst e <;> exact ⟨by dsimp only; decide, by dsimp only; decide⟩)
  have kc := fun (w : World) (C : Array Value) (n c : Nat) => Lib.run_convert_bytes_const (P := Tryd.prog) w 35 5 C n c Tryd.underlying35 Tryd.underlying5
  have HB2 := hide b2
  have HM := hide hm
  have HG := hide hg
  have hL : (L3 w.heap.size).length = 3 := rfl
  rw [hL] at hN
  unfold C12 at hN HB2
  clear b2 hm hg hL
  go_enter Tryd.func7, Tryd.ntmps7
  go_wp2_with fail
  generalize (w.alloc (.cells #[.int .u8 120] 5 (1, 2))).alloc _ = w2 at *
  refine hN.mono ?_
  rintro e w3 ⟨hE, hb3⟩
  have HB3 : Hid (Below w.heap.size w w3) := HB2.out.trans (hb3.mono HB2.out.size)
  clear hN hb3 kc
  rcases hE with ⟨c, hc, hne, rfl⟩ | ⟨F, rfl, M, v, l, hfs, hso⟩
  · rw [l3_err] at hne
    rw [← hne] at hc
    cases hc
  have HF3 := hide hfs
  have hst := hso.grow.same
  have hO := vfs_Open w3 (HM.out.below HB3.out) (Nat.lt_of_lt_of_le HG.out HB3.out.size) w2.heap.size F M v (rootN :: l) hfs ⟨#[47, 108, 47, 46, 46, 47, 108, 105, 98, 47, 47, 97, 46, 115, 111]⟩ (by decide) (chk_datas hso.grow)
  have HST := hide hst
  have hlen : (rootN :: l).length = 4 := by
    have := congrArg List.length hst
    rw [List.length_map, List.length_map] at this
    rw [List.length_cons, this]
    rfl
  have HLEN := hide hlen
  clear hfs hst hso hlen
  go_wp2_with fail
  refine hO.mono ?_
  rintro e w4 ⟨hE, hb4⟩
  have HB4 : Hid (Below w.heap.size w w4) := HB3.out.trans (hb4.mono HB3.out.size)
  have HF4 := hide (HF3.out.stay hb4)
  clear hO hb4
  have hE2 : OpenE w3 w4 (rootN :: l) [47, 108, 47, 46, 46, 47, 108, 105, 98, 47, 47, 97, 46, 115, 111] e := hE
  clear hE
  unfold OpenE at hE2
  rw [strip_open HST.out, l3_open] at hE2
  rcases hE2 with ⟨h, _⟩ | ⟨_, _, vb, rfl, hvb⟩
  · exact absurd rfl h
  rw [strip_path HST.out, l3_path]
  rw [strip_data HST.out, l3_data] at hvb
  have HVB := hide hvb
  have hR := vfs_Resolve w4 (HM.out.below HB4.out) (Nat.lt_of_lt_of_le HG.out HB4.out.size) w2.heap.size F M v (rootN :: l) HF4.out ⟨#[47, 108, 105, 98, 47, 98]⟩ (by decide)
  have hV : resV (rootN :: l) [47, 108, 105, 98, 47, 98] = .tuple #[.int .i64 0, .string ⟨#[]⟩, .int .i64 63] := by
    unfold resV
    rw [strip_find HST.out, l3_find, if_neg (by decide)]
  have hR2 : Calls Tryd.prog 8 #[.pointer (some ⟨F, 0, none⟩), .string ⟨#[47, 108, 105, 98, 47, 98]⟩] w4 fun e w' => e = .returned (resV (rootN :: l) [47, 108, 105, 98, 47, 98]) ∧ Below w4.heap.size w4 w' := hR
  rw [hV] at hR2
  clear hR hV
  clear hvb
  go_wp2_with fail
  refine hR2.mono ?_
  rintro e w5 ⟨rfl, hb5⟩
  have HB5 : Hid (Below w.heap.size w w5) := HB4.out.trans (hb5.mono HB4.out.size)
  have hLn := vfs_Len w5 w2.heap.size F M v (rootN :: l) (HF4.out.stay hb5)
  rw [HLEN.out] at hLn
  have tb := (HVB.out.turn (Turn.of_below hb5)).text
  clear hR2 hb5
  have t1 := tx_list [47, 108, 105, 98, 47, 97, 46, 115, 111]
  have t2 := tx_list [120]
  go_wp2_with (go_at_call 16; refine hLn.mono ?_; rintro e w9 ⟨rfl, hw9⟩; rw [← hw9]; clear hw9)
  go_ret
  exact ⟨rfl, HB5.out⟩
end Go.Proofs.YthkpcafbfgfjpaaDoor
