/-
  The state of the law LePuts: a buffer, a row and a call's block that lie apart; what each call makes of it.
-/
import Derived.Test.YtipnjkemiopjiaaPutsB
import Derived.Deep.Onto
set_option linter.unusedVariables false
namespace Go.Proofs.Ytipnjkemiopjiaa
open Go.RowKit Go.PlainAid
structure Sta (w0 w' : World) (X : Nat) (n u : Int) (vB : Value) (m : List UInt8) (o : Option Nat) (L : List UInt8) (vb : Value) (M : List UInt8) : Prop where
  bf : Bf w' w0.heap.size w0.heap.size o L
  own : Own w' w0.heap.size vb M
  s1 : vb.ownBlock ≠ some w0.heap.size
  s2 : vb.ownBlock = none ∨ vb.ownBlock ≠ o
  xl : X < w'.heap.size
  x0 : w0.heap.size < X
  x2 : o ≠ some X
  x3 : vb.ownBlock ≠ some X
  c1 : w'.cell? ⟨X, 1, none⟩ = some (.int .i64 n)
  c2 : w'.cell? ⟨X, 2, none⟩ = some (.int .u64 u)
  c3 : w'.cell? ⟨X, 3, none⟩ = some vB
  arg0 : Arg w0 vB m
  bel : Below w0.heap.size w0 w'
section
variable {w0 w1 w2 : World} {X : Nat} {n u : Int} {vB : Value} {m : List UInt8} {o o' : Option Nat} {L L' : List UInt8} {vb vb' : Value} {M M' : List UInt8}
theorem Sta.size (h : Sta w0 w1 X n u vB m o L vb M) : w0.heap.size ≤ w1.heap.size := h.bel.size
theorem Sta.arg (h : Sta w0 w1 X n u vB m o L vb M) : Arg w1 vB m := h.arg0.below h.bel rfl
theorem Sta.drew (h : Sta w0 w1 X n u vB m o L vb M) : Sta w0 w1.drew X n u vB m o L vb M := ⟨h.bf.drew, h.own, h.s1, h.s2, h.xl, h.x0, h.x2, h.x3, h.c1, h.c2, h.c3, h.arg0, h.bel.drew⟩
theorem Sta.f (h : Sta w0 w1 X n u vB m o L vb M) (hb : Bf w2 w0.heap.size w0.heap.size o' L') (hg : Gr w1 w2 w0.heap.size o) (hn : Nx w1 o o') : Sta w0 w2 X n u vB m o' L' vb M := by
  have hX : w2.heap[X]? = w1.heap[X]? := hg.block X h.xl (by have := h.x0; omega) (fun e => h.x2 e.symm)
  have hbel : Below w0.heap.size w1 w2 := hg.below (Nat.le_refl _) (fun k hk => (h.bf.own_ge k hk).1) h.size
  refine ⟨hb, h.own.gr hg h.s1 h.s2, h.s1, ?_, Nat.lt_of_lt_of_le h.xl hg.size, h.x0, ?_, h.x3, ?_, ?_, ?_, h.arg0, h.bel.trans hbel⟩
  · rcases hn with rfl | ⟨k, rfl, hk⟩
    · exact h.s2
    · right
      intro e
      have := (h.own.base k e).2
      omega
  · rcases hn with rfl | ⟨k, rfl, hk⟩
    · exact h.x2
    · intro e; have := Option.some.inj e; have := h.xl; omega
  · rw [World.cell?_of_block (a := ⟨X, 1, none⟩) hX]; exact h.c1
  · rw [World.cell?_of_block (a := ⟨X, 2, none⟩) hX]; exact h.c2
  · rw [World.cell?_of_block (a := ⟨X, 3, none⟩) hX]; exact h.c3
theorem Bf.other {w w' : World} {B : Nat} {o r : Option Nat} {l : List UInt8} (h : Bf w B B o l) (hg : w.grownBy w' r) (h1 : r ≠ some B) (h2 : r = none ∨ r ≠ o) : Bf w' B B o l := by
  obtain ⟨v, c, ow, e⟩ := h.row
  have hB : w'.heap[B]? = w.heap[B]? := hg.block B h.lt (fun e => h1 e.symm)
  have hGr : Gr w w' B r := ⟨hg.os, hg.tape, hg.output, hg.size, fun k hk _ hr => hg.block k hk hr⟩
  refine ⟨Nat.lt_of_lt_of_le h.lt hg.size, h.base, ⟨v, ?_, ow.gr hGr (by rw [e]; exact h.far) ?_, e⟩, h.far, ?_⟩
  · rw [World.cell?_of_block (a := ⟨B, 0, none⟩) hB]; exact c
  · rw [e]
    rcases h2 with h2 | h2
    · rw [h2]
      cases o with
      | none => exact .inl rfl
      | some q => exact .inr (by simp)
    · exact .inr (fun e => h2 e.symm)
  · rw [World.frozen?_of_block (a := ⟨B, 0, none⟩) hB]; exact h.soft
theorem Sta.b (h : Sta w0 w1 X n u vB m o L vb M) (ho : Own w2 w0.heap.size vb' M') (hx : Gx w1 w2 vb vb') : Sta w0 w2 X n u vB m o L vb' M' := by
  obtain ⟨hg, hn⟩ := hx
  have hX : w2.heap[X]? = w1.heap[X]? := hg.block X h.xl (fun e => h.x3 e.symm)
  have hlt := h.bf.lt
  refine ⟨h.bf.other hg h.s1 h.s2, ho, ?_, ?_, Nat.lt_of_lt_of_le h.xl hg.size, h.x0, h.x2, ?_, ?_, ?_, ?_, h.arg0, h.bel.grown hg h.size (fun k hk => (h.own.base k hk).1)⟩
  · rcases hn with e | ⟨k, e, hk⟩
    · rw [e]; exact h.s1
    · rw [e]; intro e2; have := Option.some.inj e2; omega
  · rcases hn with e | ⟨k, e, hk⟩
    · rw [e]; exact h.s2
    · rw [e]; right; intro e2
      have := (h.bf.own_ge k e2.symm).2
      omega
  · rcases hn with e | ⟨k, e, hk⟩
    · rw [e]; exact h.x3
    · rw [e]; intro e2; have := Option.some.inj e2; have := h.xl; omega
  · rw [World.cell?_of_block (a := ⟨X, 1, none⟩) hX]; exact h.c1
  · rw [World.cell?_of_block (a := ⟨X, 2, none⟩) hX]; exact h.c2
  · rw [World.cell?_of_block (a := ⟨X, 3, none⟩) hX]; exact h.c3
theorem Sta.below (h : Sta w0 w1 X n u vB m o L vb M) (hb : Below w1.heap.size w1 w2) : Sta w0 w2 X n u vB m o L vb M := by
  have hX : w2.heap[X]? = w1.heap[X]? := hb.block X h.xl
  refine ⟨h.bf.below hb, h.own.stay hb, h.s1, h.s2, Nat.lt_of_lt_of_le h.xl hb.size, h.x0, h.x2, h.x3, ?_, ?_, ?_, h.arg0, h.bel.trans (hb.mono h.size)⟩
  · rw [World.cell?_of_block (a := ⟨X, 1, none⟩) hX]; exact h.c1
  · rw [World.cell?_of_block (a := ⟨X, 2, none⟩) hX]; exact h.c2
  · rw [World.cell?_of_block (a := ⟨X, 3, none⟩) hX]; exact h.c3
theorem Sta.swap (h : Sta w0 w1 X n u vB m o L vb M) (hb : Below w1.heap.size w1 w2) (ho : Own w2 w1.heap.size vb' M') : Sta w0 w2 X n u vB m o L vb' M' := by
  have h2 := h.below hb
  have hlt := h.bf.lt
  refine ⟨h2.bf, ?_, ?_, ?_, h2.xl, h2.x0, h2.x2, ?_, h2.c1, h2.c2, h2.c3, h2.arg0, h2.bel⟩
  · exact World.ownsRow.mono ho h.size
  · intro e; have := (ho.base _ e).1; omega
  · cases hv : vb'.ownBlock with
    | none => exact .inl rfl
    | some g =>
      right; intro e
      have h3 := (ho.base g hv).1
      have h4 := (h.bf.own_ge g e.symm).2
      omega
  · intro e; have := (ho.base _ e).1; have := h.xl; omega
theorem Arg.head {w : World} {a : Option Addr} {N cap : Nat} {l : List UInt8} (h : Arg w (.slice a N cap) l) (p : Nat) (hp : p ≤ l.length) : Arg w (.slice a p cap) (l.take p) := by
  obtain ⟨a', cap', he, h1, h2, h3, h4⟩ := h
  simp only [Value.slice.injEq] at he
  obtain ⟨rfl, _, rfl⟩ := he
  have hl : (l.take p).length = p := by simp; omega
  refine ⟨a, cap, by rw [hl], by omega, h2, by omega, ?_⟩
  rcases h4 with ⟨rfl, rfl, rfl⟩ | ⟨x, rfl, hc⟩
  · exact .inl ⟨rfl, by simp, rfl⟩
  · refine .inr ⟨x, rfl, fun j hj => ?_⟩
    rw [hl] at hj
    rw [hc j (by omega)]
    simp
theorem leN_mod : ∀ (k n j : Nat), k ≤ j → leN k (n % 256 ^ j) = leN k n
  | 0, _, _, _ => rfl
  | k + 1, n, j, h => by
    obtain ⟨i, rfl⟩ : ∃ i, j = i + 1 := ⟨j - 1, by omega⟩
    have e1 : n % 256 ^ (i + 1) % 256 = n % 256 := Nat.mod_mod_of_dvd _ ⟨256 ^ i, by rw [Nat.pow_succ, Nat.mul_comm]⟩
    have e2 : n % 256 ^ (i + 1) / 256 = n / 256 % 256 ^ i := by rw [Nat.pow_succ, Nat.mul_comm, Nat.mod_mul_right_div_self]
    simp only [leN]
    rw [e1, e2, leN_mod k (n / 256) i (by omega)]
theorem p_Put16 (h : Hid (Sta w0 w1 X n u vB m o L vb M)) (hl : Hid (L.length ≤ 900000000)) (z : Int) (hz : z = u % 65536) (hu : 0 ≤ u) :
    Calls Try.prog 21 #[.pointer (some ⟨w0.heap.size, 0, none⟩), .int .u16 z] w1 fun e w' => e = .returned (.tuple #[]) ∧ ∃ o', Hid (Sta w0 w' X n u vB m o' (L ++ leN (2 : Int).toNat u.toNat) vb M) := by
  obtain ⟨k, rfl⟩ : ∃ k : Nat, u = k := ⟨u.toNat, by omega⟩
  have hz2 : z = ((k % 65536 : Nat) : Int) := by omega
  subst hz2
  refine (le_Put16 w1 _ _ o L _ h.out.bf h.out.size hl.out (by omega)).mono ?_
  rintro e w' ⟨rfl, o', h1, h2, h3⟩
  have e := leN_mod 2 k 2 (Nat.le_refl _)
  have e2 : (256 : Nat) ^ 2 = 65536 := by decide
  rw [e2] at e
  rw [e] at h1
  have h1' : Bf w' w0.heap.size w0.heap.size o' (L ++ leN (2 : Int).toNat (k : Int).toNat) := h1
  exact ⟨rfl, o', h.out.f h1' h2 h3⟩
theorem p_Put32 (h : Hid (Sta w0 w1 X n u vB m o L vb M)) (hl : Hid (L.length ≤ 900000000)) (z : Int) (hz : z = u % 4294967296) (hu : 0 ≤ u) :
    Calls Try.prog 23 #[.pointer (some ⟨w0.heap.size, 0, none⟩), .int .u32 z] w1 fun e w' => e = .returned (.tuple #[]) ∧ ∃ o', Hid (Sta w0 w' X n u vB m o' (L ++ leN (4 : Int).toNat u.toNat) vb M) := by
  obtain ⟨k, rfl⟩ : ∃ k : Nat, u = k := ⟨u.toNat, by omega⟩
  have hz2 : z = ((k % 4294967296 : Nat) : Int) := by omega
  subst hz2
  refine (le_Put32 w1 _ _ o L _ h.out.bf h.out.size hl.out (by omega)).mono ?_
  rintro e w' ⟨rfl, o', h1, h2, h3⟩
  have e := leN_mod 4 k 4 (Nat.le_refl _)
  have e2 : (256 : Nat) ^ 4 = 4294967296 := by decide
  rw [e2] at e
  rw [e] at h1
  have h1' : Bf w' w0.heap.size w0.heap.size o' (L ++ leN (4 : Int).toNat (k : Int).toNat) := h1
  exact ⟨rfl, o', h.out.f h1' h2 h3⟩
theorem p_Put64 (h : Hid (Sta w0 w1 X n u vB m o L vb M)) (hl : Hid (L.length ≤ 900000000)) (z : Int) (hz : z = u % 18446744073709551616) (hu : 0 ≤ u) :
    Calls Try.prog 24 #[.pointer (some ⟨w0.heap.size, 0, none⟩), .int .u64 z] w1 fun e w' => e = .returned (.tuple #[]) ∧ ∃ o', Hid (Sta w0 w' X n u vB m o' (L ++ leN (8 : Int).toNat u.toNat) vb M) := by
  obtain ⟨k, rfl⟩ : ∃ k : Nat, u = k := ⟨u.toNat, by omega⟩
  have hz2 : z = ((k % 18446744073709551616 : Nat) : Int) := by omega
  subst hz2
  refine (le_Put64 w1 _ _ o L _ h.out.bf h.out.size hl.out (by omega)).mono ?_
  rintro e w' ⟨rfl, o', h1, h2, h3⟩
  have e := leN_mod 8 k 8 (Nat.le_refl _)
  have e2 : (256 : Nat) ^ 8 = 18446744073709551616 := by decide
  rw [e2] at e
  rw [e] at h1
  have h1' : Bf w' w0.heap.size w0.heap.size o' (L ++ leN (8 : Int).toNat (k : Int).toNat) := h1
  exact ⟨rfl, o', h.out.f h1' h2 h3⟩
theorem p_Raw (h : Hid (Sta w0 w1 X n u vB m o L vb M)) (hl : Hid (L.length ≤ 900000000)) (hm : Hid (m.length ≤ 256)) :
    Calls Try.prog 25 #[.pointer (some ⟨w0.heap.size, 0, none⟩), vB] w1 fun e w' => e = .returned (.tuple #[]) ∧ ∃ o', Hid (Sta w0 w' X n u vB m o' (L ++ m) vb M) := by
  have hl2 := hl.out
  have hm2 := hm.out
  refine (le_Raw w1 _ _ o L m h.out.bf h.out.size vB h.out.arg (by omega)).mono ?_
  rintro e w' ⟨rfl, o', h1, h2, h3⟩
  exact ⟨rfl, o', h.out.f h1 h2 h3⟩
theorem p_Zeros (h : Hid (Sta w0 w1 X n u vB m o L vb M)) (hl : Hid (L.length ≤ 900000000)) (hn : n ≤ 4096) :
    Calls Try.prog 26 #[.pointer (some ⟨w0.heap.size, 0, none⟩), .int .i64 n] w1 fun e w' => e = .returned (.tuple #[]) ∧ ∃ o', Hid (Sta w0 w' X n u vB m o' (L ++ List.replicate n.toNat 0) vb M) := by
  have hl2 := hl.out
  refine (le_Zeros w1 _ _ o L n n.toNat h.out.bf h.out.size (by omega) (by omega)).mono ?_
  rintro e w' ⟨rfl, o', h1, h2, h3⟩
  exact ⟨rfl, o', h.out.f h1 h2 h3⟩
theorem p_To (h : Hid (Sta w0 w1 X n u vB m o L vb M)) (hl : Hid (L.length ≤ 900000000)) (q : Nat) (hq : Hid (ToIs L.length n q)) (h0 : -9223372036854775808 ≤ n) (h4 : n ≤ 4096) :
    Calls Try.prog 28 #[.pointer (some ⟨w0.heap.size, 0, none⟩), .int .i64 n] w1 fun e w' => e = .returned (.tuple #[]) ∧ ∃ o', Hid (Sta w0 w' X n u vB m o' (L ++ List.replicate q 0) vb M) := by
  have hl2 := hl.out
  rcases hq.out with ⟨h1, h2, h3, h5⟩ | ⟨h1, h2⟩
  · have hp := isPow_pos h1
    have e : n = ((n.toNat : Nat) : Int) := by omega
    subst h3
    have hT := le_To_yes w1 _ _ o L n.toNat h.out.bf h.out.size (by rw [← e]; exact h1) (by omega) hl2
    rw [← e] at hT
    refine hT.mono ?_
    rintro e w' ⟨rfl, o', h1, h2, h3⟩
    exact ⟨rfl, o', h.out.f h1 h2 h3⟩
  · subst h2
    refine (le_To_no w1 _ _ o L n h.out.bf (by omega) h1 h0 (by omega)).mono ?_
    rintro e w' ⟨rfl, rfl⟩
    exact ⟨rfl, o, by rw [Hid]; simpa using h.out⟩
theorem p_Set64_no (h : Hid (Sta w0 w1 X n u vB m o L vb M)) (hl : Hid (L.length ≤ 900000000)) (hno : n < 0 ∨ (L.length : Int) < n + 8) (h0 : -9223372036854775808 ≤ n) (h4 : n ≤ 4096) :
    Calls Try.prog 30 #[.pointer (some ⟨w0.heap.size, 0, none⟩), .int .i64 n, .int .u64 u] w1 fun e w' => e = .returned (.bool false) ∧ Hid (Sta w0 w' X n u vB m o L vb M) := by
  have hl2 := hl.out
  refine (le_Set64_no w1 _ _ o L n u h.out.bf (by omega) h0 h4 hno).mono ?_
  rintro e w' ⟨rfl, rfl⟩
  exact ⟨rfl, h⟩
theorem p_Set64_yes (h : Hid (Sta w0 w1 X n u vB m o L vb M)) (hl : Hid (L.length ≤ 900000000)) (hyes : 0 ≤ n ∧ n + 8 ≤ (L.length : Int)) (hu : 0 ≤ u ∧ u ≤ 18446744073709551615) :
    Calls Try.prog 30 #[.pointer (some ⟨w0.heap.size, 0, none⟩), .int .i64 n, .int .u64 u] w1 fun e w' => e = .returned (.bool true) ∧ Hid (Sta w0 w' X n u vB m o (putAt L n.toNat 8 u.toNat) vb M) := by
  have hl2 := hl.out
  have e1 : n = ((n.toNat : Nat) : Int) := by omega
  have e2 : u = ((u.toNat : Nat) : Int) := by omega
  have hT := le_Set64_yes w1 _ _ o L n.toNat u.toNat h.out.bf (by omega) (by omega) (by omega)
  rw [← e1, ← e2] at hT
  refine hT.mono ?_
  rintro e w' ⟨rfl, h1, h2⟩
  exact ⟨rfl, h.out.f h1 h2 (Nx.refl _ _)⟩
theorem p_Len {a : Option Addr} {N cap : Nat} (h : Hid (Sta w0 w1 X n u vB m o L (.slice a N cap) L)) :
    Calls Try.prog 31 #[.pointer (some ⟨w0.heap.size, 0, none⟩)] w1 fun e w' => e = .returned (.int .i64 N) ∧ w1 = w' := by
  have hL := le_Len w1 _ _ o L h.out.bf
  obtain ⟨a', cap', he, _⟩ := h.out.own.slice
  simp only [Value.slice.injEq] at he
  rw [← he.2.1] at hL
  exact hL
theorem r_ret {e : Ending} {w' : World} (h : Hid (Sta w0 w1 X n u vB m o L vb M)) (hr : ∃ v', e = .returned v' ∧ Own w' w0.heap.size v' M' ∧ Gx w1 w' vb v') :
    ∃ a N cap, e = .returned (.slice a N cap) ∧ Hid (Sta w0 w' X n u vB m o L (.slice a N cap) M') ∧ Hid (N = M'.length) := by
  obtain ⟨v', rfl, h1, h2⟩ := hr
  obtain ⟨a, cap, rfl, _⟩ := h1.slice
  exact ⟨a, _, cap, rfl, h.out.b h1 h2, rfl⟩
theorem r_Put (h : Hid (Sta w0 w1 X n u vB m o L vb M)) (hl : Hid (M.length ≤ 900000000)) (hu : 0 ≤ u ∧ u ≤ 18446744073709551615) (z : Int) (hz0 : 0 ≤ z) (hk : z ≤ 8) :
    Calls Try.prog 22 #[vb, .int .u64 u, .int .i64 z] w1 fun e w' => ∃ a N cap, e = .returned (.slice a N cap) ∧ Hid (Sta w0 w' X n u vB m o L (.slice a N cap) (M ++ leN z.toNat u.toNat)) ∧ Hid (N = (M ++ leN z.toNat u.toNat).length) := by
  have hl2 := hl.out
  have e2 : u = ((u.toNat : Nat) : Int) := by omega
  have e3 : z = ((z.toNat : Nat) : Int) := by omega
  have hT := ref_Put w1 _ vb M u.toNat z.toNat h.out.own h.out.size (by omega) (by omega)
  rw [← e2, ← e3] at hT
  exact hT.mono fun e w' he => r_ret h he
theorem r_Zeros (h : Hid (Sta w0 w1 X n u vB m o L vb M)) (hl : Hid (M.length ≤ 900000000)) (hn : n ≤ 4096) :
    Calls Try.prog 27 #[vb, .int .i64 n] w1 fun e w' => ∃ a N cap, e = .returned (.slice a N cap) ∧ Hid (Sta w0 w' X n u vB m o L (.slice a N cap) (M ++ List.replicate n.toNat 0)) ∧ Hid (N = (M ++ List.replicate n.toNat (0 : UInt8)).length) := by
  exact (ref_Zeros w1 _ vb M n h.out.own h.out.size hl.out hn).mono fun e w' he => r_ret h he
theorem r_To (h : Hid (Sta w0 w1 X n u vB m o L vb M)) (hl : Hid (M.length ≤ 900000000)) (q : Nat) (hq : Hid (ToIs M.length n q)) (h0 : -9223372036854775808 ≤ n) (h4 : n ≤ 4096) :
    Calls Try.prog 29 #[vb, .int .i64 n] w1 fun e w' => ∃ a N cap, e = .returned (.slice a N cap) ∧ Hid (Sta w0 w' X n u vB m o L (.slice a N cap) (M ++ List.replicate q 0)) ∧ Hid (N = (M ++ List.replicate q (0 : UInt8)).length) := by
  exact (ref_To w1 _ vb M n q h.out.own h.out.size hl.out h0 h4 hq.out).mono fun e w' he => r_ret h he
end
end Go.Proofs.Ytipnjkemiopjiaa
