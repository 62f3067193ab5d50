/-
  LePuts returns true for every row of calls, and the row reads afterwards as it read before: no condition.
-/
import Derived.Test.YtipnjkemiopjiaaRows
import Derived.Test.YtipnjkemiopjiaaPutsC
import Derived.WalkKit
import Derived.Deep.RegionHeldLaw
import Derived.Deep.Onto
import Derived.ProofKit
import Derived.OpenShut
import Derived.ShutString
import Derived.ChangeOld
import Derived.Below
set_option linter.unusedVariables false
namespace Go.Proofs.Ytipnjkemiopjiaa
namespace LLePuts
open Go.ChangeShapes Go.WideShapes Go.ChangeAt Go.RowKit
open Go.ChangeMaps (open_string shut_string)
/-- What holds between two rounds. -/
def Rnd (w0 w' : World) (vb : Value) (L : List UInt8) : Prop :=
  ∃ o, Bf w' w0.heap.size w0.heap.size o L ∧ Own w' w0.heap.size vb L ∧ vb.ownBlock ≠ some w0.heap.size ∧ (vb.ownBlock = none ∨ vb.ownBlock ≠ o) ∧ Below w0.heap.size w0 w'
theorem Rnd.start {w0 w' : World} {vb : Value} {L : List UInt8} (h : Rnd w0 w' vb L) (k n u : Int) (vB : Value) (m : List UInt8) (ha : Arg w0 vB m) :
    ∃ o, Sta w0 (w'.alloc (.cells #[.int .i64 k, .int .i64 n, .int .u64 u, vB] 51)) w'.heap.size n u vB m o L vb L := by
  obtain ⟨o, h1, h2, h3, h4, h5⟩ := h
  have hb : Below w'.heap.size w' (w'.alloc (.cells #[.int .i64 k, .int .i64 n, .int .u64 u, vB] 51)) := (Below.refl _ _).alloc (Nat.le_refl _) _
  refine ⟨o, h1.below hb, h2.stay hb, h3, h4, by simp, ?_, ?_, ?_, by simp, by simp, by simp, ha, h5.trans (hb.mono h5.size)⟩
  · exact h1.lt
  · intro e; have := (h1.own_ge _ e).2; omega
  · intro e; have := (h2.base _ e).2; omega
theorem Rnd.of {w0 w' : World} {X : Nat} {n u : Int} {vB : Value} {m : List UInt8} {o : Option Nat} {L : List UInt8} {vb : Value} (h : Sta w0 w' X n u vB m o L vb L) : Rnd w0 w' vb L := ⟨o, h.bf, h.own, h.s1, h.s2, h.bel⟩
theorem kind7 (k : Int) : ∃ Q, (wrap64 (k.tmod 7 + 7)).tmod 7 = Q ∧ (Q = 0 ∨ Q = 1 ∨ Q = 2 ∨ Q = 3 ∨ Q = 4 ∨ Q = 5 ∨ Q = 6) := by
  refine ⟨_, rfl, ?_⟩
  have h1 := Int.tmod_lt_of_pos k (show (0 : Int) < 7 by omega)
  have h2 := Int.lt_tmod_of_pos k (show (0 : Int) < 7 by omega)
  have e : wrap64 (k.tmod 7 + 7) = k.tmod 7 + 7 := by unfold wrap64; omega
  rw [e]
  generalize k.tmod 7 = r at *
  rw [Int.tmod_eq_emod_of_nonneg (by omega)]
  omega
theorem grow_le {a i : Nat} (h : Hid (a ≤ i * 300000)) : Hid (a ≤ (i + 1) * 300000) := by
  exact Nat.le_trans h.out (Nat.mul_le_mul_right _ (Nat.le_succ i))
theorem arg_tail {w : World} {g N cap q : Nat} {l : List UInt8} (h : Arg w (.slice (some ⟨g, 0, none⟩) N cap) l) (hN : N = l.length) (hq : q ≤ N) (hc : cap ≠ q) : Arg w (.slice (some ⟨g, q, none⟩) (N - q) (cap - q)) (l.drop q) := by
  subst hN
  have h2 := h.cut q (l.length - q) (by omega) hc
  have e : win l q (l.length - q) = l.drop q := by unfold win; rw [List.take_of_length_le (by simp)]
  rw [e] at h2
  simp only [Option.map_some, add_at, Nat.zero_add] at h2
  exact h2
theorem arg_tail0 {w : World} {g N cap q : Nat} {l : List UInt8} (h : Arg w (.slice (some ⟨g, 0, none⟩) N cap) l) (hN : N = l.length) (hq : q ≤ N) (hc : cap = q) (hm : N ≤ cap) : Arg w (.slice (some ⟨g, 0, none⟩) 0 0) (l.drop q) := by
  subst hN
  have h2 := h.cut0 q 0 (by omega) hc
  have e : win l q 0 = l.drop q := by unfold win; rw [List.take_zero, List.drop_of_length_le (by omega)]
  rw [e] at h2
  exact h2
/-- The reference's Put onto a new row: what lay there before stays. -/
theorem n_Put {w2 w5 : World} {v : Value} {A : List UInt8} {u : Int} (h : Hid (Own w5 w2.heap.size v A)) (hb : Hid (Below w2.heap.size w2 w5)) (hA : Hid (A.length ≤ 100000000)) (hu : 0 ≤ u ∧ u ≤ 18446744073709551615) :
    Calls Try.prog 22 #[v, .int .u64 u, .int .i64 8] w5 fun e w' => ∃ a N cap, e = .returned (.slice a N cap) ∧ Hid (Own w' w2.heap.size (.slice a N cap) (A ++ leN 8 u.toNat)) ∧ Hid (Below w2.heap.size w2 w') := by
  have hA2 := hA.out
  have e2 : u = ((u.toNat : Nat) : Int) := by omega
  have hT := ref_Put w5 _ v A u.toNat 8 h.out hb.out.size (by omega) (by omega)
  rw [← e2] at hT
  refine hT.mono ?_
  rintro e w' ⟨v', rfl, h1, h2⟩
  obtain ⟨a, cap, rfl, _⟩ := h1.slice
  exact ⟨a, _, cap, rfl, h1, hb.out.grown h2.1 hb.out.size (fun k hk => (h.out.base k hk).1)⟩
theorem r_row {w0 w1 w2 : World} {X : Nat} {n u : Int} {vB : Value} {m : List UInt8} {o : Option Nat} {L : List UInt8} {vb v' : Value} {M M' : List UInt8} (h : Hid (Sta w0 w1 X n u vB m o L vb M)) (q1 : Own w2 w0.heap.size v' M') (q2 : w1.grownBy w2 vb.ownBlock)
    (q3 : v'.ownBlock = vb.ownBlock ∨ v'.ownBlock = some w1.heap.size) : ∃ a N cap, v' = .slice a N cap ∧ Hid (Sta w0 w2 X n u vB m o L (.slice a N cap) M') ∧ Hid (N = M'.length) := by
  have hx : Gx w1 w2 vb v' := ⟨q2, by rcases q3 with e | e; exact .inl e; exact .inr ⟨_, e, Nat.le_refl _⟩⟩
  obtain ⟨a, cap, rfl, _⟩ := q1.slice
  exact ⟨a, _, cap, rfl, h.out.b q1 hx, rfl⟩
theorem Rnd.below {w0 w1 w2 : World} {vb : Value} {L : List UInt8} (h : Rnd w0 w1 vb L) (hb : Below w1.heap.size w1 w2) : Rnd w0 w2 vb L := by
  obtain ⟨o, h1, h2, h3, h4, h5⟩ := h
  exact ⟨o, h1.below hb, h2.stay hb, h3, h4, h5.trans (hb.mono h5.size)⟩
theorem Rnd.drew {w0 w1 : World} {vb : Value} {L : List UInt8} (h : Rnd w0 w1 vb L) : Rnd w0 w1.drew vb L := by
  obtain ⟨o, h1, h2, h3, h4, h5⟩ := h
  exact ⟨o, h1.drew, h2, h3, h4, h5.drew⟩
/-- What stays while the last row is reckoned. -/
abbrev Kq (w : World) (vb : Value) (L : List UInt8) (w' : World) : Prop :=
  Sem.run Try.prog (convert 22 9 vb) w' = .ok (.string ⟨L.toArray⟩) w' ∧ Hid (Rnd w w' vb L)
theorem Kq.mk {w : World} {vb : Value} {L : List UInt8} {w' : World} (hL : Hid (L.length ≤ 100000000)) (h : Rnd w w' vb L) : Kq w vb L w' := by
  have hL2 := hL.out
  have h0 := h
  obtain ⟨o, h1, h2, h3, h4, h5⟩ := h
  exact ⟨(h2.arg (by omega)).text, h0⟩
theorem kq_Bytes {w : World} {vb : Value} {L : List UInt8} {w1 : World} (hL : Hid (L.length ≤ 100000000)) (h : Kq w vb L w1) :
    Calls Try.prog 32 #[.pointer (some ⟨w.heap.size, 0, none⟩)] w1 fun e w' => ∃ vz, e = .returned vz ∧ Kq w vb L w' ∧ Sem.run Try.prog (convert 22 9 vz) w' = .ok (.string ⟨L.toArray⟩) w' := by
  have hL2 := hL.out
  obtain ⟨o, h1, _⟩ := h.2.out
  refine (le_Bytes _ _ _ o _ h1 (by omega)).mono ?_
  rintro e w2 ⟨vz, rfl, oz, b2⟩
  exact ⟨_, rfl, Kq.mk hL (h.2.out.below b2), (oz.arg (by omega)).text⟩
theorem kq_alive {w : World} {vb : Value} {L : List UInt8} {w1 : World} (hL : Hid (L.length ≤ 100000000)) (h : Kq w vb L w1) :
    Calls Try.prog 15 #[] w1 fun e w' => e = .returned (.bool true) ∧ Kq w vb L w' := by
  refine (alive02 _).mono ?_
  rintro e w2 ⟨rfl, b2⟩
  exact ⟨rfl, Kq.mk hL (h.2.out.below b2)⟩
theorem kq_bel {w : World} {vb : Value} {L : List UInt8} {w1 : World} (h : Kq w vb L w1) : Below w.heap.size w w1 := by
  obtain ⟨o, _, _, _, _, h5⟩ := h.2.out
  exact h5
set_option maxHeartbeats 8000000 in
set_option maxRecDepth 20000 in
theorem core (w : World) (b off len cap : Nat) (hlen : len ≤ 40) (hcap : len ≤ cap) (hcm : cap ≤ maxLen) (hx : ∀ i, i < len → ∃ k n u s bl bc zs, IsOp w ((⟨b, off, none⟩ : Addr).add (i * 4)) k n u s bl bc zs) :
    Calls Try.prog 5 #[.slice (some ⟨b, off, none⟩) len cap] w fun e w' => e = .returned (.bool true) ∧ Below w.heap.size w w' := by
  have HX : Hid (∀ i, i < len → ∃ k n u s bl bc zs, IsOp w ((⟨b, off, none⟩ : Addr).add (i * 4)) k n u s bl bc zs) := hx
  have hl40 : ¬ 40 < (len : Int) := by omega
  have hcap2 : cap ≤ 9223372036854775807 := by unfold maxLen at hcm; omega
  clear hx
  go_enter Try.func5, Try.ntmps5
  go_wp2_with fail
  refine (le_New _).mono ?_
  rintro e w1 ⟨rfl, hb1, b1, s1⟩
  have hR1 : Hid (Rnd w w1 (.slice none 0 0) []) := ⟨_, hb1, Own.nil _ _, by simp [Value.ownBlock], .inl rfl, b1⟩
  clear hb1 s1 b1
  go_wp2
  go_loopw [4, 5] (fun vb vi wr => ∃ (i : Nat) (L : List UInt8), i ≤ len ∧ vi = .int .i64 i ∧ Hid (Rnd w wr vb L) ∧ Hid (L.length ≤ i * 300000)) (fun _ vi _ => len - (intOf vi).toNat)
  case atStart => exact ⟨0, [], by omega, rfl, hR1, by simp [Hid]⟩
  case round =>
    obtain ⟨i, L, hi, rfl, HR, HL⟩ := hrel
    obtain ⟨a0, N0, cap0, rfl⟩ := (HR.out.choose_spec.2.1).isSlice
    have hN0 : N0 = L.length := by
      obtain ⟨_, _, h2, _⟩ := HR.out
      obtain ⟨_, _, he, _⟩ := h2.slice
      simp only [Value.slice.injEq] at he
      exact he.2.1
    have HB : Hid (Below w.heap.size w wr) := HR.out.choose_spec.2.2.2.2
    by_cases hlt : i < len
    · obtain ⟨k, n, u, sb, bl, bc, zs, I⟩ := HX.out i hlt
      have hbw : b < w.heap.size := by have := World.block_lt_of_cell? _ _ I.c0; simpa [add_at] using this
      have c0 : wr.cell? ⟨b, off + i * 4, none⟩ = some (.int .i64 k) := by rw [HB.out.cell (p := ⟨b, off + i * 4, none⟩) hbw]; simpa [add_at] using I.c0
      have c1 : wr.cell? ⟨b, off + i * 4 + 1, none⟩ = some (.int .i64 n) := by rw [HB.out.cell (p := ⟨b, off + i * 4 + 1, none⟩) hbw]; simpa [add_at] using I.c1
      have c2 : wr.cell? ⟨b, off + i * 4 + 2, none⟩ = some (.int .u64 u) := by rw [HB.out.cell (p := ⟨b, off + i * 4 + 2, none⟩) hbw]; simpa [add_at] using I.c2
      have c3 : wr.cell? ⟨b, off + i * 4 + 3, none⟩ = some (.slice sb bl bc) := by rw [HB.out.cell (p := ⟨b, off + i * 4 + 3, none⟩) hbw]; simpa [add_at] using I.c3
      have hk := I.k0
      have hn := I.n0
      have hu := I.u0
      have hltI : (i : Int) < (len : Int) := by omega
      have HI : Hid _ := I
      have hblm : bl ≤ 9223372036854775807 := by
        rcases I.row with ⟨_, h, _⟩ | ⟨_, _, h1, h2, _⟩
        · omega
        · unfold maxLen at h2; omega
      clear I
      by_cases hb256 : 256 < bl
      · have hbI : 256 < (bl : Int) := by omega
        go_wp2
        go_ret
        exact ⟨rfl, HB.out.alloc HB.out.size _⟩
      · have hbI : ¬ 256 < (bl : Int) := by omega
        by_cases hn4 : 4096 < n
        · go_wp2
          go_ret
          exact ⟨rfl, HB.out.alloc HB.out.size _⟩
        · obtain ⟨hr1, hr2⟩ := HI.out.row.arg (by omega)
          obtain ⟨m, hm⟩ : ∃ m, rowOf zs bl = m := ⟨_, rfl⟩
          rw [hm] at hr1 hr2
          obtain ⟨o, hS⟩ := HR.out.start k n u (.slice sb bl bc) m hr2
          have H0 : Hid _ := hS
          have HM : Hid (m.length ≤ 256) := by rw [Hid]; omega
          have hL9 : L.length ≤ 12000000 := by have := HL.out; omega
          have HL9 : Hid (L.length ≤ 900000000) := by rw [Hid]; omega
          obtain ⟨q, hq⟩ := toIs L.length n
          have HQ : Hid (ToIs L.length n q) := hq
          have hq2 : q ≤ 4096 := by rcases hq with ⟨_, _, _, h2⟩ | ⟨_, h⟩ <;> omega
          have hn4' : n ≤ 4096 := by omega
          have hN09 : N0 ≤ 12000000 := by omega
          have HN0 : Hid (N0 = L.length) := hN0
          clear hm hr1 hr2 hS hq hN0 hL9
          obtain ⟨Q, hQ, hQ7⟩ := kind7 k
          rcases hQ7 with rfl | rfl | rfl | rfl | rfl | rfl | rfl
          · go_wp2_with (first
              | (go_at_call 21; refine (p_Put16 H0 HL9 _ (by first | omega | (rw [IntKind.wrap_u16])) hu.1).mono ?_; rintro e w2 ⟨rfl, o2, H2⟩; have d1 := H2.out.c1; have d2 := H2.out.c2; have d3 := H2.out.c3)
              | (go_at_call 22; refine (r_Put H2 HL9 hu _ (by omega) (by omega)).mono ?_; rintro e w3 ⟨a3, N3, cap3, rfl, H3, HN3⟩)
              | (go_at_call 31; refine (p_Len H3).mono ?_; rintro e w4 ⟨rfl, rfl⟩))
            refine ⟨⟨i + 1, _, by omega, by go_num, Rnd.of H3.out, ?_⟩, ?_⟩
            · have := HL.out; rw [Hid, List.length_append, leN_length]; simp; omega
            · simp [intOf]; omega
          · go_wp2_with (first
              | (go_at_call 23; refine (p_Put32 H0 HL9 _ (by first | omega | (rw [IntKind.wrap_u32])) hu.1).mono ?_; rintro e w2 ⟨rfl, o2, H2⟩; have d1 := H2.out.c1; have d2 := H2.out.c2; have d3 := H2.out.c3)
              | (go_at_call 22; refine (r_Put H2 HL9 hu _ (by omega) (by omega)).mono ?_; rintro e w3 ⟨a3, N3, cap3, rfl, H3, HN3⟩)
              | (go_at_call 31; refine (p_Len H3).mono ?_; rintro e w4 ⟨rfl, rfl⟩))
            refine ⟨⟨i + 1, _, by omega, by go_num, Rnd.of H3.out, ?_⟩, ?_⟩
            · have := HL.out; rw [Hid, List.length_append, leN_length]; simp; omega
            · simp [intOf]; omega
          · go_wp2_with (first
              | (go_at_call 24; refine (p_Put64 H0 HL9 _ (by omega) hu.1).mono ?_; rintro e w2 ⟨rfl, o2, H2⟩; have d1 := H2.out.c1; have d2 := H2.out.c2; have d3 := H2.out.c3)
              | (go_at_call 22; refine (r_Put H2 HL9 hu _ (by omega) (by omega)).mono ?_; rintro e w3 ⟨a3, N3, cap3, rfl, H3, HN3⟩)
              | (go_at_call 31; refine (p_Len H3).mono ?_; rintro e w4 ⟨rfl, rfl⟩))
            refine ⟨⟨i + 1, _, by omega, by go_num, Rnd.of H3.out, ?_⟩, ?_⟩
            · have := HL.out; rw [Hid, List.length_append, leN_length]; simp; omega
            · simp [intOf]; omega
          · go_wp2_with (first
              | (go_at_call 25; refine (p_Raw H0 HL9 HM).mono ?_; rintro e w2 ⟨rfl, o2, H2⟩; have d1 := H2.out.c1; have d2 := H2.out.c2; have d3 := H2.out.c3)
              | (at_builtin; refine append_arg rfl _ _ rfl w.heap.size _ _ L H2.out.own _ m H2.out.arg rfl rfl (by have := HL9.out; have := HM.out; omega) H2.out.size ?_; intro v' w3 q1 q2 q3; obtain ⟨a3, N3, cap3, hv3, H3, HN3⟩ := r_row H2 q1 q2 q3; subst hv3; clear q1 q2 q3)
              | (go_at_call 31; refine (p_Len H3).mono ?_; rintro e w4 ⟨rfl, rfl⟩))
            refine ⟨⟨i + 1, _, by omega, by go_num, Rnd.of H3.out, ?_⟩, ?_⟩
            · have := HL.out; have := HM.out; rw [Hid, List.length_append]; omega
            · simp [intOf]; omega
          · go_wp2_with (first
              | (go_at_call 26; refine (p_Zeros H0 HL9 hn4').mono ?_; rintro e w2 ⟨rfl, o2, H2⟩; have d1 := H2.out.c1; have d2 := H2.out.c2; have d3 := H2.out.c3)
              | (go_at_call 27; refine (r_Zeros H2 HL9 hn4').mono ?_; rintro e w3 ⟨a3, N3, cap3, rfl, H3, HN3⟩)
              | (go_at_call 31; refine (p_Len H3).mono ?_; rintro e w4 ⟨rfl, rfl⟩))
            refine ⟨⟨i + 1, _, by omega, by go_num, Rnd.of H3.out, ?_⟩, ?_⟩
            · have := HL.out; rw [Hid, List.length_append, List.length_replicate]; omega
            · simp [intOf]; omega
          · go_wp2_with (first
              | (go_at_call 28; refine (p_To H0 HL9 q HQ hn.1 hn4').mono ?_; rintro e w2 ⟨rfl, o2, H2⟩; have d1 := H2.out.c1; have d2 := H2.out.c2; have d3 := H2.out.c3)
              | (go_at_call 29; refine (r_To H2 HL9 q HQ hn.1 hn4').mono ?_; rintro e w3 ⟨a3, N3, cap3, rfl, H3, HN3⟩)
              | (go_at_call 31; refine (p_Len H3).mono ?_; rintro e w4 ⟨rfl, rfl⟩))
            refine ⟨⟨i + 1, _, by omega, by go_num, Rnd.of H3.out, ?_⟩, ?_⟩
            · have := HL.out; rw [Hid, List.length_append, List.length_replicate]; omega
            · simp [intOf]; omega
          · by_cases hmay : 0 ≤ n ∧ n + 8 ≤ (N0 : Int)
            · obtain ⟨p, rfl⟩ : ∃ p : Nat, n = p := ⟨n.toNat, by omega⟩
              obtain ⟨g0, cap1, he0, hg0, hg1, hc0, hc1, _⟩ := H0.out.own.form (by intro e; have := HN0.out; rw [e] at this; simp at this; omega)
              simp only [Value.slice.injEq] at he0
              obtain ⟨rfl, hx0, rfl⟩ := he0
              clear hx0
              have hcN : N0 ≤ cap0 := by have := HN0.out; omega
              have hcm0 : cap0 ≤ 9223372036854775807 := by unfold maxLen at hc1; omega
              have hp8 : p + 8 ≤ N0 := by omega
              have hpc : (p : Int) ≤ (cap0 : Int) := by omega
              have hpc8 : (p : Int) + 8 ≤ (cap0 : Int) := by omega
              have hm8 : 8 ≤ (N0 : Int) := by omega
              have hm9 : (p : Int) ≤ (N0 : Int) - 8 := by omega
              have hpn : ¬ (p : Int) < 0 := by omega
              have HY : Hid (0 ≤ (p : Int) ∧ (p : Int) + 8 ≤ (L.length : Int)) := by have := HN0.out; rw [Hid]; omega
              have hT : Hid (Int.toNat (p : Int) = p) := by rw [Hid]; omega
              clear hmay hc0 hc1
              by_cases hcp : cap0 = p + 8
              · obtain rfl : N0 = p + 8 := by omega
                subst hcp
                go_wp2_with (first
                  | (go_at_call 30; refine (p_Set64_yes H0 HL9 HY.out hu).mono ?_; rintro e w2 ⟨rfl, H2⟩; have d1 := H2.out.c1; have d2 := H2.out.c2; have d3 := H2.out.c3; have dl := H2.out.xl; have dA : (w2.alloc (Obj.cells #[] 5)).cell? ⟨wr.heap.size, 1, none⟩ = some (.int .i64 p) := (World.cell?_of_block (a := ⟨wr.heap.size, 1, none⟩) (Below.heap_alloc w2 _ wr.heap.size dl)).trans d1; have HA1 : Hid _ := ((H2.out.own.arg (by have := HL9.out; omega)).head p (by have := HY.out; omega)).alloc (Obj.cells #[] 5))
                  | (go_at_call 22; refine (n_Put H5 B5 HA5 hu).mono ?_; rintro e w6 ⟨a6, N6, c6, rfl, H6, B6⟩; have S6 := H2.out.below B6.out; have f1 := S6.c1; have HA6 : Hid _ := arg_tail0 (S6.own.arg (by have := HL9.out; omega)) HN0.out (Nat.le_refl _) rfl (Nat.le_refl _); clear S6)
                  | (at_builtin; refine append_arg rfl _ _ rfl w2.heap.size _ _ (L.take p ++ leN 8 u.toNat) H6.out _ (L.drop (p + 8)) (by simp [Act.eval]; exact HA6.out) rfl rfl (by have := HL9.out; have := HY.out; simp [leN_length]; omega) B6.out.size ?_; intro v7 w7 q1 q2 q3; have B7 : Hid (Below w2.heap.size w2 w7) := B6.out.grown q2 B6.out.size (fun k hk => (H6.out.base k hk).1); have S7 := H2.out.swap B7.out q1; obtain ⟨a3, N3, cap3, rfl⟩ := q1.isSlice; have H3 : Hid (Sta w w7 wr.heap.size p u (.slice sb bl bc) m o (putAt L p 8 u.toNat) (.slice a3 N3 cap3) (putAt L p 8 u.toNat)) := S7; clear q1 q2 q3 S7)
                  | (at_builtin; refine append_arg rfl _ _ rfl w2.heap.size _ _ [] (own_empty w2) _ (L.take p) HA1.out rfl rfl (by have := HL9.out; simp; omega) (by simp) ?_; intro vc w5 q1 q2 q3; rw [List.nil_append] at q1; have B5 : Hid (Below w2.heap.size w2 w5) := empty_grown q2; have S5 := H2.out.below B5.out; have e2 := S5.c2; obtain ⟨ac, Nc, cc, rfl⟩ := q1.isSlice; have H5 : Hid (Own w5 w2.heap.size (.slice ac Nc cc) (L.take p)) := q1; have HA5 : Hid ((L.take p).length ≤ 100000000) := (by have := HY.out; rw [Hid, List.length_take]; omega); clear q1 q2 q3 S5)
                  | (go_at_call 31; refine (p_Len H3).mono ?_; rintro e w4 ⟨rfl, rfl⟩))
                refine ⟨⟨i + 1, _, by omega, by go_num, Rnd.of H3.out, ?_⟩, ?_⟩
                · rw [putAt_len _ _ _ _ (by have := HY.out; omega)]
                  exact grow_le HL
                · simp [intOf]; omega
              · go_wp2_with (first
                  | (go_at_call 30; refine (p_Set64_yes H0 HL9 HY.out hu).mono ?_; rintro e w2 ⟨rfl, H2⟩; have d1 := H2.out.c1; have d2 := H2.out.c2; have d3 := H2.out.c3; have dl := H2.out.xl; have dA : (w2.alloc (Obj.cells #[] 5)).cell? ⟨wr.heap.size, 1, none⟩ = some (.int .i64 p) := (World.cell?_of_block (a := ⟨wr.heap.size, 1, none⟩) (Below.heap_alloc w2 _ wr.heap.size dl)).trans d1; have HA1 : Hid _ := ((H2.out.own.arg (by have := HL9.out; omega)).head p (by have := HY.out; omega)).alloc (Obj.cells #[] 5))
                  | (go_at_call 22; refine (n_Put H5 B5 HA5 hu).mono ?_; rintro e w6 ⟨a6, N6, c6, rfl, H6, B6⟩; have S6 := H2.out.below B6.out; have f1 := S6.c1; have HA6 : Hid _ := arg_tail (S6.own.arg (by have := HL9.out; omega)) HN0.out hp8 hcp; clear S6)
                  | (at_builtin; refine append_arg rfl _ _ rfl w2.heap.size _ _ (L.take p ++ leN 8 u.toNat) H6.out _ (L.drop (p + 8)) HA6.out rfl rfl (by have := HL9.out; have := HY.out; simp [leN_length]; omega) B6.out.size ?_; intro v7 w7 q1 q2 q3; have B7 : Hid (Below w2.heap.size w2 w7) := B6.out.grown q2 B6.out.size (fun k hk => (H6.out.base k hk).1); have S7 := H2.out.swap B7.out q1; obtain ⟨a3, N3, cap3, rfl⟩ := q1.isSlice; have H3 : Hid (Sta w w7 wr.heap.size p u (.slice sb bl bc) m o (putAt L p 8 u.toNat) (.slice a3 N3 cap3) (putAt L p 8 u.toNat)) := S7; clear q1 q2 q3 S7)
                  | (at_builtin; refine append_arg rfl _ _ rfl w2.heap.size _ _ [] (own_empty w2) _ (L.take p) HA1.out rfl rfl (by have := HL9.out; simp; omega) (by simp) ?_; intro vc w5 q1 q2 q3; rw [List.nil_append] at q1; have B5 : Hid (Below w2.heap.size w2 w5) := empty_grown q2; have S5 := H2.out.below B5.out; have e2 := S5.c2; obtain ⟨ac, Nc, cc, rfl⟩ := q1.isSlice; have H5 : Hid (Own w5 w2.heap.size (.slice ac Nc cc) (L.take p)) := q1; have HA5 : Hid ((L.take p).length ≤ 100000000) := (by have := HY.out; rw [Hid, List.length_take]; omega); clear q1 q2 q3 S5)
                  | (go_at_call 31; refine (p_Len H3).mono ?_; rintro e w4 ⟨rfl, rfl⟩))
                refine ⟨⟨i + 1, _, by omega, by go_num, Rnd.of H3.out, ?_⟩, ?_⟩
                · rw [putAt_len _ _ _ _ (by have := HY.out; omega)]
                  exact grow_le HL
                · simp [intOf]; omega
            · have HNO : Hid (n < 0 ∨ (L.length : Int) < n + 8) := by have := HN0.out; rw [Hid]; omega
              by_cases hmn : 0 ≤ n
              · by_cases hm8 : 8 ≤ (N0 : Int)
                · have hm9 : ¬ n ≤ (N0 : Int) - 8 := by omega
                  clear hmay
                  go_wp2_with (first
                    | (go_at_call 30; refine (p_Set64_no H0 HL9 HNO.out hn.1 hn4').mono ?_; rintro e w2 ⟨rfl, H3⟩)
                    | (go_at_call 31; refine (p_Len H3).mono ?_; rintro e w4 ⟨rfl, rfl⟩))
                  refine ⟨⟨i + 1, L, by omega, by go_num, Rnd.of H3.out, ?_⟩, ?_⟩
                  · exact grow_le HL
                  · simp [intOf]; omega
                · clear hmay
                  go_wp2_with (first
                    | (go_at_call 30; refine (p_Set64_no H0 HL9 HNO.out hn.1 hn4').mono ?_; rintro e w2 ⟨rfl, H3⟩)
                    | (go_at_call 31; refine (p_Len H3).mono ?_; rintro e w4 ⟨rfl, rfl⟩))
                  refine ⟨⟨i + 1, L, by omega, by go_num, Rnd.of H3.out, ?_⟩, ?_⟩
                  · exact grow_le HL
                  · simp [intOf]; omega
              · clear hmay
                go_wp2_with (first
                  | (go_at_call 30; refine (p_Set64_no H0 HL9 HNO.out hn.1 hn4').mono ?_; rintro e w2 ⟨rfl, H3⟩)
                  | (go_at_call 31; refine (p_Len H3).mono ?_; rintro e w4 ⟨rfl, rfl⟩))
                refine ⟨⟨i + 1, L, by omega, by go_num, Rnd.of H3.out, ?_⟩, ?_⟩
                · exact grow_le HL
                · simp [intOf]; omega
    · have hge : ¬ (i : Int) < (len : Int) := by omega
      have HL0 : Hid (L.length ≤ 100000000) := by have h8 := HL.out; have h9 : i * 300000 ≤ 40 * 300000 := Nat.mul_le_mul_right _ (by omega); exact Nat.le_trans h8 (Nat.le_trans h9 (by decide))
      clear hN0
      have HL4 : Hid (L.length ≤ 100000000) := HL0
      have hKq : Kq w (.slice a0 N0 cap0) L wr.drew := Kq.mk HL4 HR.out.drew
      go_wp2_with fail
      try simp only [List.append_eq, List.cons_append, List.nil_append]
      go_region_held_law (fun w' => Kq w (.slice a0 N0 cap0) L w')
        (first | assumption | go_keep)
        (first
          | (go_at_call 32; refine (kq_Bytes HL4 (by assumption)).mono ?_; rintro e w12 ⟨vz, rfl, hk12, tz⟩)
          | (go_at_call 15; refine (kq_alive HL4 (by assumption)).mono ?_; rintro e w13 ⟨rfl, hk13⟩))
      all_goals go_wp2
      go_ret
      exact ⟨rfl, kq_bel hk13⟩
set_option maxHeartbeats 2000000 in
set_option maxRecDepth 20000 in
theorem core0 (a : Option Addr) (cap : Nat) (w : World) :
    Calls Try.prog 5 #[.slice a 0 cap] w fun e w' => e = .returned (.bool true) ∧ Below w.heap.size w w' := by
  go_enter Try.func5, Try.ntmps5
  go_wp2_with fail
  refine (le_New _).mono ?_
  rintro e w1 ⟨rfl, hb1, b1, s1⟩
  have hR1 : Hid (Rnd w w1 (.slice none 0 0) []) := ⟨_, hb1, Own.nil _ _, by simp [Value.ownBlock], .inl rfl, b1⟩
  clear hb1 s1 b1
  go_wp2
  go_loopw [4, 5] (fun vb vi wr => vi = .int .i64 0 ∧ vb = .slice none 0 0 ∧ Hid (Rnd w wr (.slice none 0 0) [])) (fun _ vi _ => 0)
  case atStart => exact ⟨rfl, rfl, hR1⟩
  case round =>
    obtain ⟨rfl, rfl, HR⟩ := hrel
    have HR' : ∃ L, Hid (Rnd w wr (.slice none 0 0) L) ∧ Hid (L.length ≤ 100000000) := ⟨[], HR, Nat.zero_le _⟩
    clear HR
    obtain ⟨L, HR, HL4⟩ := HR'
    have hKq : Kq w (.slice none 0 0) L wr.drew := Kq.mk HL4 HR.out.drew
    go_wp2_with fail
    try simp only [List.append_eq, List.cons_append, List.nil_append]
    go_region_held_law (fun w' => Kq w (.slice none 0 0) L w')
      (first | assumption | go_keep)
      (first
        | (go_at_call 32; refine (kq_Bytes HL4 (by assumption)).mono ?_; rintro e w12 ⟨vz, rfl, hk12, tz⟩)
        | (go_at_call 15; refine (kq_alive HL4 (by assumption)).mono ?_; rintro e w13 ⟨rfl, hk13⟩))
    all_goals go_wp2
    go_ret
    exact ⟨rfl, kq_bel hk13⟩
theorem walk (w : World) (s0 : Option Addr) (len0 cap0 : Nat) (h : IsOps w s0 len0 cap0) :
    Calls Try.prog 5 #[.slice s0 len0 cap0] w fun e w' => e = .returned (.bool true) ∧ Below w.heap.size w w' := by
  rcases h with ⟨rfl, rfl, rfl⟩ | ⟨x, rfl, hl, hm, hx⟩
  · exact core0 none 0 w
  · by_cases hl0 : len0 = 0
    · subst hl0; exact core0 _ cap0 w
    · by_cases h40 : 40 < len0
      · have hl2 : 40 < (len0 : Int) := by omega
        have hlm : len0 ≤ 9223372036854775807 := by unfold maxLen at hm; omega
        clear hx
        go_enter Try.func5, Try.ntmps5
        go_wp2_with fail
        refine (le_New _).mono ?_
        rintro e w1 ⟨rfl, hb1, b1, s1⟩
        clear hb1 s1
        go_wp2
        go_ret
        exact ⟨rfl, b1⟩
      · obtain ⟨b, off, spot⟩ := x
        obtain ⟨_, _, _, _, _, _, _, I⟩ := hx 0 (by omega)
        have hspot : spot = none := by simpa [Addr.add] using World.cell?_spot I.c0
        subst hspot
        exact core w b off len0 cap0 (by omega) hl hm hx
theorem own : ownKnob Try.prog.godebug = none := by kernel_rfl
theorem laidOut : laidOutB Try.prog = true := by kernel_rfl
set_option maxRecDepth 100000 in
theorem lifted (os : Os) (started : os.Started) (H : Type) (enc : TypeId × Value → H) :
    ReturnsInHanded {} Try.checked os 5 .any (Rows.lePutsSpec.pre6 enc Try.prog Try.f5 Rows.lePutsRow.domain false) (Rows.lePutsSpec.post enc Try.prog Try.f5 false true false false) := by
  refine returnsInHanded_of_change (C := Try.checked) own started (by kernel_rfl) Try.func5
    (ChangeSpec.witness6 (enc := enc) (C := Try.checked) false ⟨#[], #[.slice none 0 0], []⟩ 8 (by kernel_rfl) (by kernel_rfl) (by kernel_rfl) (by kernel_rfl)) ?_
  intro W base args ds gs before hval0 hW hcnd _
  have hval : ∀ (j : Nat) t v, Try.f5.params[j]? = some t → args[j]? = some v → Value.okWide Try.prog W .any base t v := hval0
  have hW' := hW
  obtain ⟨p, q, hA0, hV, rfl, hfz, hnd⟩ := hW
  have hA : DataW.TrodAll enc Try.prog W 0 (fun _ => true) true Try.f5.params.toList args.toList ds p := hA0
  rw [Try.params5] at hA hval
  obtain ⟨v0, vs0, d0, ds0, p0, q0, hargs, rfl, rfl, h0, r0⟩ := trodAll_cons hA
  obtain ⟨rfl, rfl, rfl⟩ := trodAll_nil r0
  obtain rfl : args = #[v0] := by cases args; simp_all
  obtain ⟨rfl, rfl⟩ := trodVars_none hV
  have k0 := h0
  have lt0 : ∀ x ∈ p0, x.block < W.heap.size := by obtain ⟨m, hm⟩ := k0; exact DataW.trod_lt m _ _ _ hm
  obtain ⟨s0, len0, cap0, rfl⟩ := okWide_slice Try.underlying47 (hval 0 47 v0 rfl rfl)
  have w0 := isOps_of h0
  clear hA0 hval0
  refine (walk W s0 len0 cap0 w0).mono fun e W' ⟨he, bel⟩ => ?_
  subst he
  exact ⟨_, rfl, _, _, _, [], _, [], hW', trodAll_mk1 (shut_bool Try.underlying4 _), (trodAll_cons_mk (Below.trod laidOut (by kernel_rfl) (of_decide_eq_true (by kernel_rfl)) k0 bel lt0) trodAll_mk0), rfl, bel.frame _, fun h => by cases h⟩

theorem over : Rows.lePutsRow.holds Try.pinned (OpenSpec.ofChange Rows.lePutsSpec) :=
  OpenClaim.holds_of_wide 5 Try.f5 rfl rfl rfl rfl rfl rfl rfl ⟨rfl, rfl, rfl, rfl, rfl⟩ rfl rfl rfl rfl rfl (by kernel_rfl) Try.func5 (by kernel_rfl)
    (of_decide_eq_true (by kernel_rfl)) (by unfold Func.isWrapper; first | (rw [if_pos (by decide +kernel)]; kernel_rfl) | (rw [if_neg (by decide +kernel)]; exact ⟨rfl, rfl⟩))
    (fun os started H enc _ => lifted os started H enc)
end LLePuts
theorem LePuts_proved : Rows.LePutsSaid := LLePuts.over
end Go.Proofs.Ytipnjkemiopjiaa
