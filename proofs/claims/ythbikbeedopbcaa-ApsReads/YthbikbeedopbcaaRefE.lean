
/-
  The reference of layer 3: bits keeps its contract (groups as 64 bits).
-/
import Derived.Test.YthbikbeedopbcaaRefD
set_option linter.unusedVariables false
namespace Go.Proofs.Ythbikbeedopbcaa
open Go.RowKit Go.PlainAid
def seven (c : UInt8) : List Bool := (List.range 7).map fun k => c.toNat.testBit k
def bitsOf (l : List UInt8) : List Bool := l.flatMap seven
theorem seven_len (c : UInt8) : (seven c).length = 7 := by simp [seven]
theorem bitsOf_len : ∀ l : List UInt8, (bitsOf l).length = 7 * l.length
  | [] => rfl
  | c :: t => by
    have := bitsOf_len t
    unfold bitsOf at *
    simp only [List.flatMap_cons, List.length_append, List.length_cons, seven_len, this]; omega
theorem bitsOf_snoc (l : List UInt8) (i : Nat) (h : i < l.length) : bitsOf (l.take (i + 1)) = bitsOf (l.take i) ++ seven (l.getD i 0) := by
  rw [List.take_add_one]
  unfold bitsOf
  rw [List.flatMap_append]
  congr 1
  simp [List.getD, List.getElem?_eq_getElem h]
theorem seven_snoc (c : UInt8) (k : Nat) (h : k < 7) : (seven c).take (k + 1) = (seven c).take k ++ [c.toNat.testBit k] := by
  rw [List.take_add_one]
  congr 1
  simp [seven, h]
theorem bit_is (c : UInt8) (k : Nat) (hk : k < 7) : (bits .and .u8 ((c.toNat : Int) / 2 ^ k) 1 == 1) = c.toNat.testBit k := by
  have h : ∀ a : Fin 256, ∀ q : Fin 7, (bits .and .u8 ((a.val : Int) / 2 ^ q.val) 1 == 1) = a.val.testBit q.val := by decide +kernel
  exact h ⟨c.toNat, c.toNat_lt⟩ ⟨k, hk⟩
/-- The 64 bits that groups say. -/
def rbits (g : List UInt8) (n : Nat) (sign : Bool) : List Bool := (bitsOf g ++ List.replicate (64 - 7 * n) (sign && (bitsOf g).getD (7 * n - 1) false)).take 64
/-- v is a slice of 64 bits, R. -/
def IsB (w : World) (v : Value) (R : List Bool) : Prop := ∃ g2 cap2, v = .slice (some ⟨g2, 0, none⟩) 64 cap2 ∧ 64 ≤ cap2 ∧ cap2 ≤ maxLen ∧ (∀ j, j < 64 → w.cell? ⟨g2, j, none⟩ = some (.bool (R.getD j false)))
/-- A slice's length. -/
def slenR : Value → Nat | .slice _ n _ => n | _ => 0
set_option maxHeartbeats 4000000 in
set_option maxRecDepth 20000 in
theorem ref_bits (w : World) (gb n cap : Nat) (g : List UInt8) (hg : g.length = n) (hn : 0 < n) (hn10 : n ≤ 10) (hc1 : n ≤ cap) (hc2 : cap ≤ maxLen) (hc : ∀ j, j < n → w.cell? ⟨gb, j, none⟩ = some (.int .u8 ((g.getD j 0).toNat : Int))) (hb : gb < w.heap.size) (sign : Bool) :
    Calls Try.prog 37 #[.slice (some ⟨gb, 0, none⟩) n cap, .bool sign] w fun e w' => ∃ v, e = .returned v ∧ IsB w' v (rbits g n sign) ∧ Below w.heap.size w w' := by
  have HC : Hid (∀ j, j < n → w.cell? ⟨gb, j, none⟩ = some (.int .u8 ((g.getD j 0).toNat : Int))) := hc
  have HG : Hid (g.length = n) := hg
  have hcap : cap ≤ 9223372036854775807 := by unfold maxLen at hc2; omega
  clear hc hg
  go_enter Try.func37, Try.ntmps37
  go_wp2
  go_loopw [5, 6, 7] (fun vo vi vk wr => ∃ (i : Nat), i ≤ n ∧ vi = .int .i64 i ∧ OwnB wr w.heap.size vo (bitsOf (g.take i)) ∧ Hid (Below w.heap.size w wr)) (fun _ vi _ _ => n - (intOf vi).toNat)
  case atStart => exact ⟨0, by omega, rfl, OwnB.nil _ _, Below.refl _ _⟩
  case round =>
    obtain ⟨i, hi, rfl, hown, HB⟩ := hrel
    by_cases hlt : i < n
    · obtain ⟨c, hcc⟩ : ∃ c, g.getD i 0 = c := ⟨_, rfl⟩
      have HCI : Hid (w.cell? ⟨gb, i, none⟩ = some (.int .u8 (c.toNat : Int))) := by rw [Hid, HC.out i hlt, hcc]
      have hltI : (i : Int) < (n : Int) := by omega
      obtain ⟨acc, hacc⟩ : ∃ acc, bitsOf (g.take i) = acc := ⟨_, rfl⟩
      have hal : acc.length = 7 * i := by rw [← hacc, bitsOf_len, List.length_take]; have := HG.out; omega
      have HS : Hid (bitsOf (g.take (i + 1)) = acc ++ seven c) := by rw [Hid, bitsOf_snoc g i (by have := HG.out; omega), hacc, hcc]
      rw [hacc] at hown
      clear hacc hcc
      go_wp2
      go_loopw [5, 7] (fun vo vk wq => ∃ (k : Nat), k ≤ 7 ∧ vk = .int .i64 k ∧ OwnB wq w.heap.size vo (acc ++ (seven c).take k) ∧ Hid (Below w.heap.size w wq)) (fun _ vk _ => 7 - (intOf vk).toNat)
      case atStart => exact ⟨0, by omega, rfl, by simpa using hown, HB⟩
      case round =>
        obtain ⟨k, hk, rfl, hown2, HB2⟩ := hrel
        by_cases hk7 : k < 7
        · have hcell : wr.cell? ⟨gb, i, none⟩ = some (.int .u8 (c.toNat : Int)) := by rw [HB2.out.cell (p := ⟨gb, i, none⟩) hb]; exact HCI.out
          have HAL : Hid ((acc ++ (seven c).take k).length < 1000000000) := by rw [Hid, List.length_append, List.length_take, seven_len]; omega
          have hBr := HB2.out.size
          have HBT : Hid _ := bit_is c k hk7
          go_wp2_with (at_builtin; refine append_bool_at rfl _ _ rfl w.heap.size wr _ (acc ++ (seven c).take k) hown2 _ rfl rfl HAL.out hBr ?_)
          intro v' w1 q1 q2
          have HB3 : Hid (Below w.heap.size w w1) := HB2.out.trans q2
          obtain ⟨a', cap', hv'⟩ := q1.slice
          have HQ : Hid _ := q1
          subst hv'
          clear q2
          go_wp2
          go_roundw
          case rel =>
            refine ⟨k + 1, by omega, by go_num, ?_, HB3⟩
            rw [seven_snoc c k hk7, ← HBT.out]
            exact HQ
          case measure => simp [intOf]; omega
        · have hk8 : k = 7 := by omega
          subst hk8
          have hown3 := hown2
          rw [List.take_of_length_le (by rw [seven_len]; omega), ← HS.out] at hown3
          clear hown2
          go_wp2
          go_roundw
          case rel => exact ⟨i + 1, by omega, by go_num, hown3, HB2⟩
          case measure => simp [intOf]; omega
    · have hie : i = n := by omega
      subst hie
      rw [List.take_of_length_le (by have := HG.out; omega)] at hown
      have hbl : (bitsOf g).length = 7 * i := by rw [bitsOf_len, HG.out]
      obtain ⟨a5, cap5, rfl⟩ := hown.len (7 * i) hbl
      have hltI : ¬ (i : Int) < (i : Int) := by omega
      obtain ⟨g5, rfl, hg51, hg52, hc51, hc52, hcell5⟩ := hown.cells (by omega)
      rw [hbl] at hc51
      have hcap5 : cap5 ≤ 9223372036854775807 := by unfold maxLen at hc52; omega
      obtain ⟨z, hz⟩ : ∃ z, (bitsOf g).getD (7 * i - 1) false = z := ⟨_, rfl⟩
      have hcz : wr.cell? ⟨g5, 7 * i - 1, none⟩ = some (.bool z) := by rw [← hz]; exact hcell5 _ (by omega)
      obtain ⟨acc, hacc⟩ : ∃ acc, bitsOf g = acc := ⟨_, rfl⟩
      have HBL : Hid (acc.length = 7 * i) := by rw [Hid, ← hacc]; exact hbl
      have HACC : Hid (bitsOf g = acc) := hacc
      have HZ : Hid (acc.getD (7 * i - 1) false = z) := by rw [Hid, ← hacc]; exact hz
      rw [hacc] at hown
      clear hbl hcell5 hz hacc HG HC
      have hpos : 0 < 7 * (i : Int) := by omega
      have hi1 : 7 * (i : Int) - 1 < 7 * (i : Int) := by omega
      have hnat : (7 * (i : Int) - 1).toNat = 7 * i - 1 := by omega
      obtain ⟨lst, hlst⟩ : ∃ lst, (sign && z) = lst := ⟨_, rfl⟩
      have HLST : Hid ((sign && z) = lst) := hlst
      have hn7 : 7 * i ≤ 70 := by omega
      have hfin : ∀ (wq : World) (g6 cap6 k : Nat), 64 ≤ 7 * i + k → (k = 0 ∨ 7 * i + k ≤ 64) → OwnB wq w.heap.size (.slice (some ⟨g6, 0, none⟩) (7 * i + k) cap6) (acc ++ List.replicate k lst) →
          ∀ j, j < 64 → wq.cell? ⟨g6, j, none⟩ = some (.bool (((acc ++ List.replicate (64 - 7 * i) (sign && z)).take 64).getD j false)) := by
        intro wq g6 cap6 k hk1 hk2 ho j hj
        obtain ⟨g7, e7, _, _, _, _, hc7⟩ := ho.cells (by simp; have := HBL.out; omega)
        injection e7 with e7
        injection e7 with e7
        subst e7
        rw [hc7 j (by simp; have := HBL.out; omega), HLST.out]
        congr 2
        have hke : k = 64 - 7 * i := by omega
        rw [← hke]
        simp [List.getD, hj]
      clear hlst
      have HFIN : Hid _ := hfin
      clear hfin
      have hsz : (sign = false ∧ lst = false) ∨ (sign = true ∧ z = lst) := by have := HLST.out; cases sign <;> simp_all
      rcases hsz with ⟨hs1, hs2⟩ | ⟨hs1, hs2⟩
      · subst hs1
        subst hs2
        go_wp2
        go_loopw [5] (fun vo wq => ∃ (k : Nat), (k = 0 ∨ 7 * i + k ≤ 64) ∧ OwnB wq w.heap.size vo (acc ++ List.replicate k false) ∧ Hid (Below w.heap.size w wq)) (fun vo _ => 64 - slenR vo)
        case atStart => exact ⟨0, .inl rfl, by simpa using hown, HB⟩
        case round =>
          obtain ⟨k, hk, ho, HB2⟩ := hrel
          obtain ⟨a6, cap6, rfl⟩ := ho.len (7 * i + k) (by simp; have := HBL.out; omega)
          obtain ⟨g6, rfl, hg61, hg62, hc61, hc62, _⟩ := ho.cells (by simp; have := HBL.out; omega)
          have hc63 : 7 * i + k ≤ cap6 := by simp at hc61; have := HBL.out; omega
          have hc64 : cap6 ≤ 9223372036854775807 := by unfold maxLen at hc62; omega
          have HAL : Hid ((acc ++ List.replicate k false).length < 1000000000) := by rw [Hid, List.length_append, List.length_replicate, HBL.out]; omega
          have hBr := HB2.out.size
          clear hc61
          by_cases h64 : 7 * i + k < 64
          · have h64I : 7 * (i : Int) + (k : Int) < 64 := by omega
            go_wp2_with (at_builtin; refine append_bool_at rfl _ _ rfl w.heap.size wr _ (acc ++ List.replicate k false) ho false rfl rfl HAL.out hBr ?_)
            intro v' w1 q1 q2
            have HB3 : Hid (Below w.heap.size w w1) := HB2.out.trans q2
            obtain ⟨a7, cap7, rfl⟩ := q1.len (7 * i + k + 1) (by simp; have := HBL.out; omega)
            rw [← List.replicate_succ'] at q1
            go_wp2
            go_roundw
            case rel => exact ⟨k + 1, .inr (by omega), q1, HB3⟩
            case measure => (simp [slenR] <;> omega)
          · have h64I : ¬ 7 * (i : Int) + (k : Int) < 64 := by omega
            have HF := HFIN.out wr g6 cap6 k (by omega) (by omega) ho
            have HFF : Hid _ := HF
            have hc65 : (64 : Int) ≤ (cap6 : Int) := by omega
            clear HF
            go_wp2
            go_ret
            exact ⟨_, rfl, ⟨g6, cap6, rfl, by omega, hc62, by unfold rbits; rw [HACC.out, HZ.out]; exact HFF.out⟩, HB2.out⟩
      · subst hs1
        subst hs2
        go_wp2
        go_loopw [5] (fun vo wq => ∃ (k : Nat), (k = 0 ∨ 7 * i + k ≤ 64) ∧ OwnB wq w.heap.size vo (acc ++ List.replicate k z) ∧ Hid (Below w.heap.size w wq)) (fun vo _ => 64 - slenR vo)
        case atStart => exact ⟨0, .inl rfl, by simpa using hown, HB⟩
        case round =>
          obtain ⟨k, hk, ho, HB2⟩ := hrel
          obtain ⟨a6, cap6, rfl⟩ := ho.len (7 * i + k) (by simp; have := HBL.out; omega)
          obtain ⟨g6, rfl, hg61, hg62, hc61, hc62, _⟩ := ho.cells (by simp; have := HBL.out; omega)
          have hc63 : 7 * i + k ≤ cap6 := by simp at hc61; have := HBL.out; omega
          have hc64 : cap6 ≤ 9223372036854775807 := by unfold maxLen at hc62; omega
          have HAL : Hid ((acc ++ List.replicate k z).length < 1000000000) := by rw [Hid, List.length_append, List.length_replicate, HBL.out]; omega
          have hBr := HB2.out.size
          clear hc61
          by_cases h64 : 7 * i + k < 64
          · have h64I : 7 * (i : Int) + (k : Int) < 64 := by omega
            go_wp2_with (at_builtin; refine append_bool_at rfl _ _ rfl w.heap.size wr _ (acc ++ List.replicate k z) ho z rfl rfl HAL.out hBr ?_)
            intro v' w1 q1 q2
            have HB3 : Hid (Below w.heap.size w w1) := HB2.out.trans q2
            obtain ⟨a7, cap7, rfl⟩ := q1.len (7 * i + k + 1) (by simp; have := HBL.out; omega)
            rw [← List.replicate_succ'] at q1
            go_wp2
            go_roundw
            case rel => exact ⟨k + 1, .inr (by omega), q1, HB3⟩
            case measure => (simp [slenR] <;> omega)
          · have h64I : ¬ 7 * (i : Int) + (k : Int) < 64 := by omega
            have HF := HFIN.out wr g6 cap6 k (by omega) (by omega) ho
            have HFF : Hid _ := HF
            have hc65 : (64 : Int) ≤ (cap6 : Int) := by omega
            clear HF
            go_wp2
            go_ret
            exact ⟨_, rfl, ⟨g6, cap6, rfl, by omega, hc62, by unfold rbits; rw [HACC.out, HZ.out]; exact HFF.out⟩, HB2.out⟩
end Go.Proofs.Ythbikbeedopbcaa
