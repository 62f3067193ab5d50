
/-
  Layer 7 (zip): what is laid into one buffer while another one stays; a text as bytes; putSizes and putLast.
-/
import Derived.Test.YtegcdddfccmljaaZpG
import Derived.Lib.ConvBytes
set_option linter.unusedVariables false
namespace Go.Proofs.Ytegcdddfccmljaa
open Go.RowKit Go.PlainAid
/-- In w' the buffer R holds l'; of what w had, its two blocks alone have turned. -/
def Lays (w w' : World) (B R : Nat) (o : Option Nat) (l' : List UInt8) : Prop := ∃ o', Bf w' B R o' l' ∧ Gr w w' R o ∧ Nx w o o'
theorem Bf.below {w w' : World} {B R : Nat} {o : Option Nat} {l : List UInt8} (h : Bf w B R o l) (hb : Below w.heap.size w w') : Bf w' B R o l := by
  obtain ⟨v, h1, h2, h3⟩ := h.row
  exact ⟨Nat.lt_of_lt_of_le h.lt hb.size, h.base, ⟨v, by rw [hb.cell (p := ⟨R, 0, none⟩) h.lt]; exact h1, h2.stay hb, h3⟩, h.far, by rw [World.frozen?_of_block (a := ⟨R, 0, none⟩) (hb.block R h.lt)]; exact h.soft⟩
theorem Gr.of_below {w w' : World} {R : Nat} {o : Option Nat} (hb : Below w.heap.size w w') : Gr w w' R o := ⟨hb.os, hb.tape, hb.output, hb.size, fun k hk _ _ => hb.block k hk⟩
theorem Lays.refl {w : World} {B R : Nat} {o : Option Nat} {l : List UInt8} (h : Bf w B R o l) : Lays w w B R o l := ⟨o, h, Gr.refl _ _ _, Nx.refl _ _⟩
theorem Lays.step {W w1 : World} {B R : Nat} {o : Option Nat} {l1 : List UInt8} (h : Lays W w1 B R o l1) : ∃ o1, Bf w1 B R o1 l1 ∧ ∀ w2 l2, Lays w1 w2 B R o1 l2 → Lays W w2 B R o l2 := by
  obtain ⟨o1, h1, h2, h3⟩ := h
  refine ⟨o1, h1, fun w2 l2 k => ?_⟩
  obtain ⟨o2, k1, k2, k3⟩ := k
  exact ⟨o2, k1, h2.trans h3 k2, h3.trans h2.size k3⟩
theorem Lays.below {W w1 w2 : World} {B R : Nat} {o : Option Nat} {l1 : List UInt8} (h : Lays W w1 B R o l1) (hb : Below w1.heap.size w1 w2) : Lays W w2 B R o l1 := by
  obtain ⟨o1, h1, h2⟩ := h.step
  exact h2 _ _ ⟨o1, h1.below hb, Gr.of_below hb, Nx.refl _ _⟩
theorem Lays.size {W w1 : World} {B R : Nat} {o : Option Nat} {l1 : List UInt8} (h : Lays W w1 B R o l1) : W.heap.size ≤ w1.heap.size := by obtain ⟨o1, h1, h2, h3⟩ := h; exact h2.size
theorem Lays.cell {W w1 : World} {B R : Nat} {o : Option Nat} {l1 : List UInt8} (h : Lays W w1 B R o l1) {p : Addr} {u : Value} (hc : W.cell? p = some u) (hR : p.block ≠ R) (ho : some p.block ≠ o) : w1.cell? p = some u := by
  obtain ⟨o1, h1, h2, h3⟩ := h
  rw [World.cell?_of_block (h2.block p.block (World.block_lt_of_cell? _ _ hc) hR ho)]; exact hc
/-- Where a block is made ahead of it. -/
theorem Lays.pre {w W w1 : World} {B R : Nat} {o : Option Nat} {l1 : List UInt8} (hb : Below w.heap.size w W) (h : Lays W w1 B R o l1) : Lays w w1 B R o l1 := by
  obtain ⟨o1, h1, h2, h3⟩ := h
  refine ⟨o1, h1, (Gr.of_below (R := R) (o := o) hb).trans (Nx.refl _ _) h2, ?_⟩
  rcases h3 with e | ⟨k, e, hk⟩
  · exact .inl e
  · exact .inr ⟨k, e, Nat.le_trans hb.size hk⟩
theorem Lays.out_below {w w1 : World} {B R : Nat} {o : Option Nat} {l l1 : List UInt8} (h : Lays w w1 B R o l1) (hb : Bf w B R o l) (hB : B ≤ w.heap.size) : Below B w w1 := by
  obtain ⟨o1, h1, h2, h3⟩ := h
  exact h2.below hb.base (fun k e => (hb.own_ge k e).1) hB
theorem Lays.lift {W w1 : World} {B R : Nat} {o : Option Nat} {l1 l2 : List UInt8} {f : FuncId} {args : Array Value} (h : Lays W w1 B R o l1)
    (k : ∀ o1, Bf w1 B R o1 l1 → Calls Try.prog f args w1 fun e w' => e = .returned (.tuple #[]) ∧ Lays w1 w' B R o1 l2) :
    Calls Try.prog f args w1 fun e w' => e = .returned (.tuple #[]) ∧ Lays W w' B R o l2 := by
  obtain ⟨o1, h1, h2⟩ := h.step
  exact (k o1 h1).mono fun e w' ⟨q1, q2⟩ => ⟨q1, h2 _ _ q2⟩
theorem lays_Put16 {W w : World} {B R : Nat} {o : Option Nat} {l : List UInt8} (h : Lays W w B R o l) (hB : B ≤ W.heap.size) (n : Nat) (hl : l.length ≤ 900000000) (hn : (n : Int) ≤ 65535) :
    Calls Try.prog 42 #[.pointer (some ⟨R, 0, none⟩), .int .u16 n] w fun e w' => e = .returned (.tuple #[]) ∧ Lays W w' B R o (l ++ leN 2 n) :=
  h.lift fun o1 h1 => le_Put16 w B R o1 l n h1 (Nat.le_trans hB h.size) hl hn
theorem lays_Put32 {W w : World} {B R : Nat} {o : Option Nat} {l : List UInt8} (h : Lays W w B R o l) (hB : B ≤ W.heap.size) (n : Nat) (hl : l.length ≤ 900000000) (hn : (n : Int) ≤ 4294967295) :
    Calls Try.prog 41 #[.pointer (some ⟨R, 0, none⟩), .int .u32 n] w fun e w' => e = .returned (.tuple #[]) ∧ Lays W w' B R o (l ++ leN 4 n) :=
  h.lift fun o1 h1 => le_Put32 w B R o1 l n h1 (Nat.le_trans hB h.size) hl hn
theorem lays_Zeros {W w : World} {B R : Nat} {o : Option Nat} {l : List UInt8} (h : Lays W w B R o l) (hB : B ≤ W.heap.size) (k : Nat) (hl : l.length ≤ 900000000) (hk : k ≤ 262144) :
    Calls Try.prog 44 #[.pointer (some ⟨R, 0, none⟩), .int .i64 k] w fun e w' => e = .returned (.tuple #[]) ∧ Lays W w' B R o (l ++ List.replicate k 0) :=
  h.lift fun o1 h1 => le_Zeros w B R o1 l k k h1 (Nat.le_trans hB h.size) (.inr (.inl ⟨rfl, hk⟩)) hl
theorem lays_Raw {W w : World} {B R : Nat} {o : Option Nat} {l m : List UInt8} (h : Lays W w B R o l) (hB : B ≤ W.heap.size) (vb : Value) (hm : Arg w vb m) (hl : l.length + m.length ≤ 1000000000) :
    Calls Try.prog 27 #[.pointer (some ⟨R, 0, none⟩), vb] w fun e w' => e = .returned (.tuple #[]) ∧ Lays W w' B R o (l ++ m) :=
  h.lift fun o1 h1 => le_Raw w B R o1 l m h1 (Nat.le_trans hB h.size) vb hm hl
theorem lays_Len {W w : World} {B R : Nat} {o : Option Nat} {l : List UInt8} (h : Lays W w B R o l) :
    Calls Try.prog 25 #[.pointer (some ⟨R, 0, none⟩)] w fun e w' => e = .returned (.int .i64 l.length) ∧ w = w' := by
  obtain ⟨o1, h1, _⟩ := h
  exact le_Len w B R o1 l h1
/-- '[]byte(s)'. -/
theorem conv_bytes {ops : Array Oper} {rest : List Oper} {o : Oper} {a : Act} {Q : Exit → Act → World → Prop} {w : World} (hgd : o.guard = none) (x : Operand) (ho : o.op = .convert 9 22 x)
    (nm : List UInt8) (hx : a.eval x = .string ⟨nm.toArray⟩) (hl : nm.length ≤ 1000000)
    (h : ∀ v' w', Arg w' v' nm → Below w.heap.size w w' → wpList Try.prog ops Q rest (a.put o.dst v') w') : wpList Try.prog ops Q (o :: rest) a w := by
  have hs : (⟨nm.toArray⟩ : ByteArray).size = nm.length := by simp [ByteArray.size]
  have hr := Lib.run_convert_string_bytes (P := Try.prog) w 9 22 5 ⟨nm.toArray⟩ Try.underlying9 Try.underlying22 Try.underlying5
  have hge := grownCap_ge w (⟨nm.toArray⟩ : ByteArray).size 0 5
  have hcm : grownCap w (⟨nm.toArray⟩ : ByteArray).size 0 5 ≤ maxLen := grownCap_le_maxLen w _ _ _ (by unfold maxLen; omega)
  refine wpList_plain hgd fun _ hK => ?_
  unfold Oper.wp execOp
  simp only [ho, hx, Sem.run_bind, Sem.run_pure, Result.andThen_ok, hr]
  refine hK _ _ (h _ _ ?_ ?_)
  · rw [hs] at hge hcm ⊢
    refine ⟨_, _, rfl, hge, hcm, by omega, .inr ⟨_, rfl, fun j hj => ?_⟩⟩
    rw [add_at, Nat.zero_add]
    unfold World.cell?
    rw [Lib.bytesWorld_at_new]
    simp [Lib.bytesCells, hj, Array.getElem?_append]
  · exact ⟨rfl, rfl, rfl, by simp [Lib.bytesWorld, World.freeze], fun k hk => Lib.bytesWorld_at_old w _ _ k hk⟩
/-- What a file's own header and its entry of the list both have. -/
def sizesB (n d : Nat) : List UInt8 := List.replicate 12 0 ++ leN 4 d ++ leN 4 d ++ leN 2 n
theorem sizesB_len (n d : Nat) : (sizesB n d).length = 22 := by simp [sizesB, leN_length]
set_option maxHeartbeats 1000000 in
theorem zip_putSizes (w : World) (B R : Nat) (o : Option Nat) (l nm : List UInt8) (h : Bf w B R o l) (hB : B ≤ w.heap.size) (a : Option Addr) (d cap : Nat) (hd : d ≤ 262144) (hn : nm.length ≤ 256) (hl : l.length ≤ 800000000) :
    Calls Try.prog 43 #[.pointer (some ⟨R, 0, none⟩), .agg #[.string ⟨nm.toArray⟩, .slice a d cap]] w fun e w' => e = .returned (.tuple #[]) ∧ Lays w w' B R o (l ++ sizesB nm.length d) := by
  have HB1 : Hid (Below w.heap.size w (w.alloc (.cells #[.string ⟨nm.toArray⟩, .slice a d cap] 50))) := (Below.refl _ w).alloc (Nat.le_refl _) _
  have x0 : (w.alloc (.cells #[.string ⟨nm.toArray⟩, .slice a d cap] 50)).cell? ⟨w.heap.size, 0, none⟩ = some (.string ⟨nm.toArray⟩) := by rw [World.cell?_alloc_at _ _ _ _ (by simp)]; simp
  have x1 : (w.alloc (.cells #[.string ⟨nm.toArray⟩, .slice a d cap] 50)).cell? ⟨w.heap.size, 1, none⟩ = some (.slice a d cap) := by rw [World.cell?_alloc_at _ _ _ _ (by simp)]; simp
  have hbf := h.below HB1.out
  have HRn : Hid (w.heap.size ≠ R ∧ some w.heap.size ≠ o) := ⟨fun e => by have := h.lt; omega, fun e => by have := (h.own_ge _ e.symm).2; omega⟩
  have HL0 := hide (Lays.refl hbf)
  have hBW := Nat.le_trans hB HB1.out.size
  have HBW := hide hBW
  have HX0 := hide x0
  have HX1 := hide x1
  have hdI : (d : Int) ≤ 262144 := by omega
  have hnI : (nm.length : Int) ≤ 256 := by omega
  have hsz : ((⟨nm.toArray⟩ : ByteArray).size : Int) = (nm.length : Int) := by simp [ByteArray.size]
  have HLL := hide hl
  clear h hB hbf hBW hl
  go_enter Try.func43, Try.ntmps43
  go_wp2_with fail
  clear x0 x1
  generalize w.alloc (.cells #[.string ⟨nm.toArray⟩, .slice a d cap] 50) = W at *
  refine (lays_Zeros HL0.out HBW.out 12 (by have := HLL.out; omega) (by omega)).mono ?_
  rintro e w1 ⟨rfl, h1⟩
  have HL1 := hide h1
  have c0 := h1.cell HX0.out HRn.out.1 HRn.out.2
  have c1 := h1.cell HX1.out HRn.out.1 HRn.out.2
  clear h1
  go_wp2_with fail
  refine (lays_Put32 HL1.out HBW.out d (by have := HLL.out; simp; omega) (by omega)).mono ?_
  rintro e w2 ⟨rfl, h2⟩
  clear c0 c1
  have HL2 := hide h2
  have c0 := h2.cell HX0.out HRn.out.1 HRn.out.2
  have c1 := h2.cell HX1.out HRn.out.1 HRn.out.2
  clear h2
  go_wp2_with fail
  refine (lays_Put32 HL2.out HBW.out d (by have := HLL.out; simp [leN_length]; omega) (by omega)).mono ?_
  rintro e w3 ⟨rfl, h3⟩
  clear c0 c1
  have HL3 := hide h3
  have c0 := h3.cell HX0.out HRn.out.1 HRn.out.2
  have c1 := h3.cell HX1.out HRn.out.1 HRn.out.2
  clear h3
  go_wp2_with fail
  refine (lays_Put16 HL3.out HBW.out nm.length (by have := HLL.out; simp [leN_length]; omega) (by omega)).mono ?_
  rintro e w4 ⟨rfl, h4⟩
  have HL4 := hide h4
  clear h4
  go_wp2
  go_end0
  refine ⟨rfl, Lays.pre HB1.out ?_⟩
  have := HL4.out
  simpa [sizesB, List.append_assoc] using this
/-- The last part, without a remark. -/
def lastB (m s a : Nat) : List UInt8 := leN 4 101010256 ++ List.replicate 4 0 ++ leN 2 m ++ leN 2 m ++ leN 4 s ++ leN 4 a ++ leN 2 0
theorem lastB_len (m s a : Nat) : (lastB m s a).length = 22 := by simp [lastB, leN_length]
set_option maxHeartbeats 1000000 in
theorem zip_putLast (w : World) (B R : Nat) (o : Option Nat) (l : List UInt8) (h : Bf w B R o l) (hB : B ≤ w.heap.size) (m s a : Nat) (hm : m ≤ 256) (hs : s ≤ 262144) (ha : a ≤ 262144) (hl : l.length ≤ 800000000) :
    Calls Try.prog 29 #[.pointer (some ⟨R, 0, none⟩), .int .i64 m, .int .i64 s, .int .i64 a] w fun e w' => e = .returned (.tuple #[]) ∧ Lays w w' B R o (l ++ lastB m s a) := by
  have HL0 := hide (Lays.refl h)
  have HBW := hide hB
  have HLL := hide hl
  have hmI : (m : Int) ≤ 256 := by omega
  have hsI : (s : Int) ≤ 262144 := by omega
  have haI : (a : Int) ≤ 262144 := by omega
  clear h hB hl
  go_enter Try.func29, Try.ntmps29
  go_wp2_with fail
  refine (lays_Put32 HL0.out HBW.out 101010256 (by have := HLL.out; omega) (by omega)).mono ?_
  rintro e w1 ⟨rfl, h1⟩
  have HL1 := hide h1
  clear h1
  go_wp2_with fail
  refine (lays_Zeros HL1.out HBW.out 4 (by have := HLL.out; simp [leN_length]; omega) (by omega)).mono ?_
  rintro e w2 ⟨rfl, h2⟩
  have HL2 := hide h2
  clear h2
  go_wp2_with fail
  refine (lays_Put16 HL2.out HBW.out m (by have := HLL.out; simp [leN_length]; omega) (by omega)).mono ?_
  rintro e w3 ⟨rfl, h3⟩
  have HL3 := hide h3
  clear h3
  go_wp2_with fail
  refine (lays_Put16 HL3.out HBW.out m (by have := HLL.out; simp [leN_length]; omega) (by omega)).mono ?_
  rintro e w4 ⟨rfl, h4⟩
  have HL4 := hide h4
  clear h4
  go_wp2_with fail
  refine (lays_Put32 HL4.out HBW.out s (by have := HLL.out; simp [leN_length]; omega) (by omega)).mono ?_
  rintro e w5 ⟨rfl, h5⟩
  have HL5 := hide h5
  clear h5
  go_wp2_with fail
  refine (lays_Put32 HL5.out HBW.out a (by have := HLL.out; simp [leN_length]; omega) (by omega)).mono ?_
  rintro e w6 ⟨rfl, h6⟩
  have HL6 := hide h6
  clear h6
  go_wp2_with fail
  refine (lays_Put16 HL6.out HBW.out 0 (by have := HLL.out; simp [leN_length]; omega) (by omega)).mono ?_
  rintro e w7 ⟨rfl, h7⟩
  have HL7 := hide h7
  clear h7
  go_wp2
  go_end0
  refine ⟨rfl, ?_⟩
  have := HL7.out
  simpa [lastB, List.append_assoc] using this
end Go.Proofs.Ytegcdddfccmljaa
