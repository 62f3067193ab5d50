
/-
  Numbers as bytes; the reference's Put; Load and Store keep their contracts.
-/
import Derived.Test.YtdecbnmibjcnaaaVmJ
import Derived.Test.YtdecbnmibjcnaaaOwn
set_option linter.unusedVariables false
namespace Go.Proofs.Ytdecbnmibjcnaaa
open Go.RowKit Go.PlainAid
/-- A byte out of a number (a name, so that nobody takes it apart). -/
def b8 (k : Nat) : UInt8 := UInt8.ofNat k
theorem b8_toNat {k : Nat} (h : k < 256) : ((b8 k).toNat : Int) = (k : Int) := by
  unfold b8; rw [UInt8.toNat_ofNat']; omega
/-- The lowest k bytes of a number, the lowest one first. -/
def leN : Nat → Nat → List UInt8
  | 0, _ => []
  | k + 1, n => b8 (n % 256) :: leN k (n / 256)
theorem leN_length : ∀ k n, (leN k n).length = k
  | 0, _ => rfl
  | k + 1, n => by simp [leN, leN_length k]
theorem leN_snoc : ∀ i n, leN (i + 1) n = leN i n ++ [b8 (n / 256 ^ i % 256)]
  | 0, n => by simp [leN]
  | i + 1, n => by
    rw [leN, leN_snoc i (n / 256), leN]
    simp only [List.cons_append]
    rw [Nat.div_div_eq_div_mul, Nat.pow_succ, Nat.mul_comm]
theorem pow_step (n i : Nat) : n / 256 ^ (i + 1) = n / 256 ^ i / 256 := by rw [Nat.pow_succ, Nat.div_div_eq_div_mul]
/-- The number that bytes say, the lowest one first. -/
def rdN : List UInt8 → Nat
  | [] => 0
  | c :: t => c.toNat + 256 * rdN t
theorem rdN_append : ∀ (l m : List UInt8), rdN (l ++ m) = rdN l + 256 ^ l.length * rdN m
  | [], m => by simp [rdN]
  | c :: l, m => by
    simp only [List.cons_append, rdN, List.length_cons]
    rw [rdN_append l m, Nat.pow_succ, Nat.mul_add, Nat.mul_comm (256 ^ l.length) 256, Nat.mul_assoc]
    omega
theorem rdN_lt : ∀ (l : List UInt8), rdN l < 256 ^ l.length
  | [] => by simp [rdN]
  | c :: l => by
    have := rdN_lt l
    have hc := c.toNat_lt
    simp only [rdN, List.length_cons]
    rw [Nat.pow_succ]
    omega
theorem rdN_leN : ∀ k n, rdN (leN k n) = n % 256 ^ k
  | 0, n => by simp [rdN, leN, Nat.mod_one]
  | k + 1, n => by
    simp only [leN, rdN]
    rw [rdN_leN k, Nat.pow_succ, Nat.mul_comm (256 ^ k) 256, Nat.mod_mul]
    have := b8_toNat (show n % 256 < 256 by omega)
    omega
/-- The first i bytes from a place on. -/
def win (l : List UInt8) (p i : Nat) : List UInt8 := (l.drop p).take i
theorem win_snoc (l : List UInt8) (p i : Nat) (h : p + i < l.length) : win l p (i + 1) = win l p i ++ [l.getD (p + i) 0] := by
  unfold win
  rw [List.take_add_one]
  congr 1
  simp [List.getD, List.getElem?_eq_getElem h]
theorem win_len (l : List UInt8) (p i : Nat) (h : p + i ≤ l.length) : (win l p i).length = i := by
  unfold win; simp; omega
theorem or_add (x a i : Nat) (h : x < 2 ^ i) : x ||| a * 2 ^ i = x + a * 2 ^ i := by
  have e := Nat.shiftLeft_add_eq_or_of_lt h a
  rw [Nat.shiftLeft_eq] at e
  rw [Nat.or_comm, ← e, Nat.add_comm]
theorem pow256 (k : Nat) : 256 ^ k = 2 ^ (8 * k) := by rw [Nat.pow_mul]
theorem rdN_win_snoc (l : List UInt8) (p i : Nat) (h : p + i < l.length) : rdN (win l p (i + 1)) = rdN (win l p i) + (l.getD (p + i) 0).toNat * 2 ^ (8 * i) := by
  rw [win_snoc l p i h, rdN_append, win_len l p i (by omega), pow256]
  simp only [rdN, Nat.mul_zero, Nat.add_zero]
  rw [Nat.mul_comm]
theorem rdN_win_lt (l : List UInt8) (p i : Nat) (h : p + i ≤ l.length) : rdN (win l p i) < 2 ^ (8 * i) := by
  have := rdN_lt (win l p i)
  rwa [win_len l p i h, pow256] at this
theorem or_step (l : List UInt8) (p i : Nat) (h : p + i < l.length) (h8 : i < 8) (c : UInt8) (hc : l.getD (p + i) 0 = c) :
    bits .or .u64 (rdN (win l p i) : Int) (IntKind.u64.wrap ((c.toNat : Int) * 2 ^ (8 * i))) = (rdN (win l p (i + 1)) : Int) := by
  have h1 := rdN_win_lt l p i (by omega)
  have h2 := rdN_win_lt l p (i + 1) (by omega)
  rw [rdN_win_snoc l p i h, hc] at h2 ⊢
  have h3 : 2 ^ (8 * (i + 1)) ≤ 2 ^ 64 := Nat.pow_le_pow_right (by omega) (by omega)
  have e64 : (2 : Nat) ^ 64 = 18446744073709551616 := by decide
  have e1 : (c.toNat : Int) * 2 ^ (8 * i) = ((c.toNat * 2 ^ (8 * i) : Nat) : Int) := by
    rw [Int.natCast_mul, Int.natCast_pow]; rfl
  rw [e1, IntKind.wrap_u64, Int.emod_eq_of_lt (by omega) (by omega), bits_or_u64_nat _ _ (by omega) (by omega), or_add _ _ _ h1]
theorem leN_rdN : ∀ (l : List UInt8), leN l.length (rdN l) = l
  | [] => rfl
  | c :: l => by
    have hc := c.toNat_lt
    rw [List.length_cons, leN, rdN, show (c.toNat + 256 * rdN l) % 256 = c.toNat by omega, show (c.toNat + 256 * rdN l) / 256 = rdN l by omega, leN_rdN l]
    congr 1
    unfold b8
    exact UInt8.ofNat_toNat
theorem Own.isSlice {w : World} {B : Nat} {v : Value} {l : List UInt8} (h : Own w B v l) : ∃ a n cap, v = .slice a n cap := by
  unfold Own at h
  rcases h.2 with ⟨rfl, hn⟩ | ⟨g, cap, cur, rfl, _⟩
  · exact ⟨_, _, _, rfl⟩
  · exact ⟨_, _, _, rfl⟩
set_option maxHeartbeats 1000000 in
theorem ref_Put8 (w : World) (n : Nat) (hn : (n : Int) ≤ 18446744073709551615) :
    Calls Try.prog 36 #[.slice none 0 0, .int .u64 n, .int .i64 8] w fun e w' => ∃ v', e = .returned v' ∧ Own w' w.heap.size v' (leN 8 n) ∧ Below w.heap.size w w' := by
  go_enter Try.func36, Try.ntmps36
  go_wp2
  go_loopw [0, 1, 7] (fun vb vn vi wr => ∃ (i : Nat), i ≤ 8 ∧ vi = .int .i64 i ∧ vn = .int .u64 ((n / 256 ^ i : Nat) : Int) ∧ Own wr w.heap.size vb (leN i n) ∧ Hid (Below w.heap.size w wr))
    (fun _ _ vi _ => 8 - (intOf vi).toNat)
  case atStart => exact ⟨0, by omega, rfl, by simp, Own.nil _ _, Below.refl _ _⟩
  case round =>
    obtain ⟨i, hi, rfl, rfl, hown, HG⟩ := hrel
    obtain ⟨m, hm⟩ : ∃ m, n / 256 ^ i = m := ⟨_, rfl⟩
    have hm2 : (m : Int) ≤ 18446744073709551615 := by
      have := Nat.div_le_self n (256 ^ i)
      omega
    have HM : Hid (n / 256 ^ i = m) := hm
    rw [hm]
    clear hm
    by_cases hlt : i < 8
    · have hltI : (i : Int) < 8 := by omega
      have HL : Hid ((leN i n).length ≤ 140737488351232) := by rw [Hid, leN_length]; omega
      go_wp2_with (at_builtin; refine append_byte rfl _ _ rfl w.heap.size wr _ (leN i n) _ hown (b8 (m % 256)) ?cc rfl rfl HL.out HG.out.size ?_)
      case cc => rw [b8_toNat (by omega)]; omega
      intro v' w1 h1 h2
      have HS : Hid (Below w.heap.size w w1) := HG.out.trans h2
      obtain ⟨a', n', cap', rfl⟩ := h1.isSlice
      go_wp2
      go_roundw
      case rel =>
        refine ⟨i + 1, by omega, by go_num, ?_, ?_, HS⟩
        · rw [pow_step, HM.out]; go_num
        · rw [leN_snoc, HM.out]; exact h1
      case measure => simp [intOf]; omega
    · have hltI : ¬ (i : Int) < 8 := by omega
      have hik : i = 8 := by omega
      subst hik
      go_wp2
      go_ret
      exact ⟨_, rfl, hown, HG.out⟩
theorem Holds.soft {w : World} {g : Nat} {t : TypeId} {xs : List Value} (h : Holds w g t xs) (j : Nat) : w.frozen? ⟨g, j, none⟩ = false := by
  obtain ⟨cur, h1, _⟩ := h
  simp [World.frozen?, h1]
theorem Holds.setCell {w : World} {g : Nat} {t : TypeId} {xs : List Value} (h : Holds w g t xs) (j : Nat) (hj : j < xs.length) (v : Value) : Holds (w.setCell ⟨g, j, none⟩ v) g t (xs.set j v) := by
  obtain ⟨cur, h1, h2⟩ := h
  refine ⟨cur.setIfInBounds j v, heap_setCell_same w g j cur t v h1, ?_⟩
  obtain ⟨r, hr⟩ := h2
  refine ⟨r, ?_⟩
  rw [Array.toList_setIfInBounds, ← hr, List.set_append_left _ _ hj]
theorem store_row (n i : Nat) (hi : i < 8) (v : Value) (hv : v = .int .u8 ((b8 (n / 256 ^ i % 256)).toNat : Int)) : (bv (leN i n) ++ List.replicate (8 - i) (Value.int .u8 0)).set i v = bv (leN (i + 1) n) ++ List.replicate (8 - (i + 1)) (Value.int .u8 0) := by
  have hl : (bv (leN i n)).length = i := by unfold bv; rw [List.length_map, leN_length]
  rw [List.set_append_right _ _ (by omega), hl, Nat.sub_self, show 8 - i = (8 - (i + 1)) + 1 by omega, List.replicate_succ, leN_snoc, bv_append, hv]
  simp [bv]
theorem SpAt.foot_lt {w : World} {S : Nat} {v : Value} {sp : Sp} (h : SpAt w S v sp) : ∀ k ∈ foot S v sp.rooms, k < w.heap.size := by
  intro k hk
  unfold foot at hk
  rcases List.mem_cons.1 hk with rfl | hk
  · exact h.lt
  · rcases List.mem_append.1 hk with hk | hk
    · exact (World.ownsRow.lt h.row k (by simpa using hk)).2
    · obtain ⟨r, hr, rfl⟩ := List.mem_map.1 hk
      exact (h.pgs r hr).lt
theorem store_val (n i : Nat) : ((n : Int) / 2 ^ (8 * i) % 256) = ((b8 (n / 256 ^ i % 256)).toNat : Int) := by
  rw [b8_toNat (by omega), pow256]
  simp [Int.natCast_pow]
set_option maxHeartbeats 1000000 in
theorem vm_Store (w : World) (S : Nat) (v : Value) (sp : Sp) (h : SpAt w S v sp) (hk : sp.ok) (a : Nat) (ha : (a : Int) ≤ 18446744073709551615) (n : Nat) (hn : (n : Int) ≤ 18446744073709551615) :
    Calls Try.prog 37 #[.pointer (some ⟨S, 0, none⟩), .int .u64 a, .int .u64 n] w fun e w' => e = .returned (.int .i64 (wrE sp a (leN 8 n))) ∧ SpAt w' S v (wrS sp a (leN 8 n)) ∧ Turn (· ∈ foot S v sp.rooms) w w' := by
  have HSP : Hid (SpAt w S v sp) := h
  clear h
  go_enter Try.func37, Try.ntmps37
  go_wp2
  go_loopw [8, 9] (fun _ vi wr => ∃ i : Nat, i ≤ 8 ∧ vi = .int .i64 i ∧ Hid (Holds wr w.heap.size 107 (bv (leN i n) ++ List.replicate (8 - i) (.int .u8 0))) ∧ Hid (Below w.heap.size w wr)) (fun _ vi _ => 8 - (intOf vi).toNat)
  case atStart => exact ⟨0, by omega, rfl, ⟨_, heap_alloc_new w _, List.prefix_rfl⟩, (Below.refl _ w).alloc (Nat.le_refl _) _⟩
  case round =>
    obtain ⟨i, hi, rfl, HH, HB⟩ := hrel
    by_cases hlt : i < 8
    · have hltI : (i : Int) < 8 := by omega
      have hltJ : 8 * (i : Int) < 64 := by omega
      have hlen : (bv (leN i n)).length = i := by unfold bv; rw [List.length_map, leN_length]
      have hc := HH.out.cell i (.int .u8 0) (by rw [List.getElem?_append_right (by omega), hlen, Nat.sub_self, List.getElem?_replicate, if_pos (by omega)])
      have hso := HH.out.soft i
      clear hlen
      go_wp2
      go_roundw
      case rel =>
        refine ⟨i + 1, by omega, by go_num, ?_, HB.out.setCell (Nat.le_refl _) _⟩
        have := HH.out.setCell i (by simp [bv, leN_length]; omega) (.int .u8 ((n : Int) / 2 ^ (8 * i) % 256))
        rw [store_row n i hlt _ (by rw [store_val])] at this
        exact this
      case measure => simp [intOf]; omega
    · have hltI : ¬ (i : Int) < 8 := by omega
      have hik : i = 8 := by omega
      subst hik
      have hsp1 := HSP.out.stay HB.out
      have hsrc : Src wr (· ∈ foot S v sp.rooms) (.slice (some ⟨w.heap.size, 0, none⟩) 8 8) (leN 8 n) := by
        refine ⟨_, 8, by rw [leN_length], by rw [leN_length]; omega, by decide, .inr ⟨_, rfl, .inr (fun hm => Nat.lt_irrefl _ (HSP.out.foot_lt _ hm)), fun j hj => ?_⟩⟩
        rw [add_lit]
        refine HH.out.cell j _ ?_
        rw [List.getElem?_append_left (by simpa [bv] using hj)]
        simp [bv, List.getElem?_eq_getElem hj]
      have hW := vm_Write wr S v sp hsp1 hk a ha _ (leN 8 n) hsrc (by rw [leN_length]; omega)
      clear hsp1 hsrc
      go_wp2_with (go_at_call 24; refine hW.mono ?_; rintro e w1 ⟨rfl, h1, h2⟩; have H1 : Hid (SpAt w1 S v (wrS sp a (leN 8 n))) := h1; have H2 : Hid (Turn (· ∈ foot S v sp.rooms) wr w1) := h2; clear h1 h2)
      go_ret
      exact ⟨rfl, H1.out, (Turn.of_below HB.out).trans H2.out⟩
end Go.Proofs.Ytdecbnmibjcnaaa
