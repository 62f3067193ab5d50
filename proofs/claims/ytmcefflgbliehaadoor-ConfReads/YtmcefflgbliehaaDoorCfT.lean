
/-
  Layer 18 (conf): numbers as texts (num.Text, the reference's Text); placeholders, plain.
-/
import Derived.Test.YtmcefflgbliehaaDoorNumB
import Derived.Test.YtmcefflgbliehaaDoorCfM
import Derived.Test.YtmcefflgbliehaaDoorCfA
import Derived.Lib.SmallJoins
set_option linter.unusedVariables false
namespace Go.Proofs.YtmcefflgbliehaaDoor
open Go.RowKit Go.PlainAid
def strLen : Value → Nat
  | .string s => s.size
  | _ => 0
theorem Text_pos (n : Nat) (w : World) (h : (n : Int) ≤ 9223372036854775807) :
    Calls Tryd.prog 61 #[.int .i64 n] w fun e w' => e = .returned (.string ⟨(digs 10 20 n).toArray⟩) ∧ Below w.heap.size w w' := by
  go_enter Tryd.func61, Tryd.ntmps61
  go_wp2_with (go_at_call 85; refine (write_10 _ _ (by omega)).mono ?_; rintro e w' ⟨rfl, hb⟩)
  go_ret
  exact ⟨rfl, hb⟩
theorem write_zero (w : World) : Calls Tryd.prog 85 #[.int .u64 0, .int .u64 10] w fun e w' => e = .returned (.string ⟨#[48]⟩) ∧ Below w.heap.size w w' := write_10 0 w (by omega)
theorem Text_neg (n : Int) (w : World) (h : n < 0) :
    Calls Tryd.prog 61 #[.int .i64 n] w fun e w' => e = .returned (.string ⟨#[48]⟩) ∧ Below w.heap.size w w' := by
  go_enter Tryd.func61, Tryd.ntmps61
  go_wp2_with (go_at_call 85; refine (write_zero _).mono ?_; rintro e w' ⟨rfl, hb⟩)
  go_ret
  exact ⟨rfl, hb⟩
/-- What holds of the text that the reference's Text gathers. -/
def TextRel (n m : Nat) (s : ByteArray) : Prop :=
  ∃ (f : Nat) (acc : List UInt8), f + acc.length = 20 ∧ s.data.toList = acc ∧
    ((1 ≤ f ∧ m < 10 ^ f ∧ 0 < m ∧ digs 10 20 n = digs 10 f m ++ acc) ∨ (m = 0 ∧ digs 10 20 n = acc))
theorem TextRel.size {n m : Nat} {s : ByteArray} (h : TextRel n m s) : s.size ≤ 20 := by
  obtain ⟨f, acc, h1, h2, _⟩ := h
  rw [size_list, h2]; omega
theorem TextRel.start (n : Nat) (h0 : 0 < n) (h : (n : Int) ≤ 18446744073709551615) : TextRel n n ⟨#[]⟩ :=
  ⟨20, [], rfl, rfl, .inl ⟨by omega, Nat.lt_of_le_of_lt (by omega) pow10_20, h0, by simp⟩⟩
theorem dg10n (d : Nat) (h : d < 10) : ((dg d).toNat : Int) = 48 + (d : Int) := by
  have : ∀ k : Fin 10, ((dg k.val).toNat : Int) = 48 + (k.val : Int) := by decide
  exact this ⟨d, h⟩
theorem TextRel.step {n m : Nat} {s t : ByteArray} (h : TextRel n m s) (h0 : 0 < m) (ht : t.data.toList = [dg (m % 10)]) :
    TextRel n (m / 10) (t ++ s) ∧ (t ++ s).size = s.size + 1 := by
  obtain ⟨f, acc, h1, h2, h3⟩ := h
  have e : (t ++ s).data.toList = dg (m % 10) :: acc := by rw [Go.Joins.data_append, ht, h2]; rfl
  refine ⟨?_, by rw [size_list, e, size_list, h2]; simp⟩
  rcases h3 with ⟨a1, a2, a3, a4⟩ | ⟨b1, b2⟩
  · refine ⟨f - 1, dg (m % 10) :: acc, by simp; omega, e, ?_⟩
    by_cases h0 : m / 10 = 0
    · exact .inr ⟨h0, digs_last_10 a1 a4 h0⟩
    · have D := digs_more_10 a1 a2 a4 h0
      exact .inl ⟨D.1, D.2.1, by omega, D.2.2⟩
  · omega
theorem TextRel.done {n : Nat} {s : ByteArray} (h : TextRel n 0 s) : s = ⟨(digs 10 20 n).toArray⟩ := by
  obtain ⟨f, acc, h1, h2, h3⟩ := h
  apply ByteArray.ext
  apply Array.toList_inj.1
  rcases h3 with ⟨a1, a2, a3, a4⟩ | ⟨b1, b2⟩
  · omega
  · rw [h2, b2]
set_option maxHeartbeats 1000000 in
set_option maxRecDepth 20000 in
theorem ref_Text_pos (n : Nat) (w : World) (h0 : 0 < n) (h : (n : Int) ≤ 9223372036854775807) :
    Calls Tryd.prog 38 #[.int .i64 n] w fun e w' => e = .returned (.string ⟨(digs 10 20 n).toArray⟩) ∧ Below w.heap.size w w' := by
  have hn0 : ¬ (n : Int) ≤ 0 := by omega
  go_enter Tryd.func38, Tryd.ntmps38
  go_wp2
  go_loopw [0, 3] (fun vn vs wr => ∃ (m : Nat) (s : ByteArray), vn = .int .i64 m ∧ vs = .string s ∧ (m : Int) ≤ 9223372036854775807 ∧ Below w.heap.size w wr ∧ TextRel n m s)
    (fun _ vs _ => 21 - strLen vs)
  case atStart => exact ⟨n, ⟨#[]⟩, rfl, rfl, h, Below.refl _ _, TextRel.start n h0 (by omega)⟩
  case round =>
    obtain ⟨m, s, rfl, rfl, hm, hbl, R⟩ := hrel
    have hsz0 := R.size
    have hsz : (s.size : Int) ≤ 20 := by omega
    by_cases hz : m = 0
    · subst hz
      have D := R.done
      clear R
      go_wp2
      go_ret
      exact ⟨by rw [D]; rfl, hbl⟩
    · have hgo : 0 < (m : Int) := by omega
      have hdt : ((dg (m % 10)).toNat : Int) = 48 + (m : Int) % 10 := dg10n (m % 10) (by omega)
      obtain ⟨t, ht, hcv⟩ : ∃ t : ByteArray, t.data.toList = [dg (m % 10)] ∧ Sem.run Tryd.prog (convert 79 9 (Value.slice (some ⟨wr.heap.size, 0, none⟩) 1 1)) (wr.alloc (Obj.cells #[Value.int IntKind.u8 (48 + (m : Int) % 10)] 5)) = .ok (.string t) (wr.alloc (Obj.cells #[Value.int IntKind.u8 (48 + (m : Int) % 10)] 5)) := by
        refine ⟨⟨[dg (m % 10)].toArray⟩, rfl, ?_⟩
        exact run_convert_bytes_back (P := Tryd.prog) _ 79 9 5 ⟨wr.heap.size, 0, none⟩ 1 [dg (m % 10)] Tryd.underlying79 Tryd.underlying5 Tryd.underlying9 (fun j hj => by
          have : j = 0 := by simpa using hj
          subst this
          simp [Addr.add, hdt])
      have S := R.step (by omega) ht
      have hts : (t.size : Int) = 1 := by rw [size_list, ht]; rfl
      have hts' : (t.size : Int) ≤ 1 := by omega
      clear R hts ht hdt
      go_wp2
      go_roundw
      case rel => exact ⟨m / 10, _, by go_num, rfl, by omega, hbl.alloc hbl.size _, S.1⟩
      case measure => have := S.2; simp [strLen] at this ⊢; omega
theorem ref_Text_zero (n : Int) (w : World) (h : n ≤ 0) :
    Calls Tryd.prog 38 #[.int .i64 n] w fun e w' => e = .returned (.string ⟨#[48]⟩) ∧ w = w' := by
  go_enter Tryd.func38, Tryd.ntmps38
  go_wp2
  go_ret
  exact ⟨rfl, rfl⟩
theorem ref_Text (n : Nat) (w : World) (h : (n : Int) ≤ 9223372036854775807) :
    Calls Tryd.prog 38 #[.int .i64 n] w fun e w' => e = .returned (.string ⟨(digs 10 20 n).toArray⟩) ∧ Below w.heap.size w w' := by
  by_cases h0 : n = 0
  · subst h0
    exact (ref_Text_zero 0 w (by omega)).mono fun e w' ⟨he, hw⟩ => ⟨he, by subst hw; exact Below.refl _ _⟩
  · exact ref_Text_pos n w (by omega) h
/-- A level as a text. -/
def levT (n : Int) : List UInt8 := if n < 0 then [48] else digs 10 20 n.toNat
theorem tn_Text (n : Int) (w : World) (h1 : -9223372036854775808 ≤ n) (h2 : n ≤ 9223372036854775807) : Calls Tryd.prog 61 #[.int .i64 n] w fun e w' => e = .returned (.string (tx (levT n))) ∧ Below w.heap.size w w' := by
  by_cases h : n < 0
  · have := Text_neg n w h
    unfold levT
    rw [if_pos h]
    exact this
  · obtain ⟨k, rfl⟩ := Int.eq_ofNat_of_zero_le (show 0 ≤ n by omega)
    have := Text_pos k w h2
    unfold levT
    rw [if_neg h]
    exact this
theorem tn_refText (n : Int) (w : World) (h1 : -9223372036854775808 ≤ n) (h2 : n ≤ 9223372036854775807) : Calls Tryd.prog 38 #[.int .i64 n] w fun e w' => e = .returned (.string (tx (levT n))) ∧ Below w.heap.size w w' := by
  by_cases h : n < 0
  · have := ref_Text_zero n w (by omega)
    unfold levT
    rw [if_pos h]
    exact this.mono fun e w' ⟨a, b⟩ => ⟨a, by rw [b]; exact Below.refl _ _⟩
  · obtain ⟨k, rfl⟩ := Int.eq_ofNat_of_zero_le (show 0 ≤ n by omega)
    have := ref_Text k w h2
    unfold levT
    rw [if_neg h]
    exact this
theorem digs_le (n : Nat) : ∀ f, (digs 10 f n).length ≤ f := by
  intro f
  induction f generalizing n with
  | zero => simp [digs]
  | succ f ih =>
    rw [digs]
    split
    · simp
    · have := ih (n / 10); simp; omega
theorem levT_le (n : Int) : (levT n).length ≤ 20 := by
  unfold levT
  split
  · simp
  · exact digs_le _ 20
end Go.Proofs.YtmcefflgbliehaaDoor
