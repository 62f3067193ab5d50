
/-
  Layer 12 (rels): the reference's Encode.
-/
import Derived.Test.YtkelipoiopkokaaRlG
set_option linter.unusedVariables false
namespace Go.Proofs.Ytkelipoiopkokaa
open Go.RowKit Go.PlainAid Go.Sort
/-- A row of bytes that grows, beside a known block. -/
structure Py (w W : World) (B g : Nat) (T : TypeId) (cs : Array Value) (v : Value) (l : List UInt8) : Prop where
  own : Own W B v l
  block : W.heap[g]? = some (.cells cs T (0, 0))
  far : v.ownBlock ≠ some g
  size : B ≤ W.heap.size
  below : Below B w W
theorem py_Put {w W : World} {B g : Nat} {T : TypeId} {cs : Array Value} {v : Value} {l : List UInt8} (h : Py w W B g T cs v l) (n k : Nat) (hl : l.length + k ≤ 1000000000) (hn : (n : Int) ≤ 18446744073709551615) :
    Calls Try.prog 20 #[v, .int .u64 n, .int .i64 k] W fun e w' => ∃ v', e = .returned v' ∧ Py w w' B g T cs v' (l ++ leN k n) := by
  refine (ref_Put W B v l n k h.own h.size hl hn).mono ?_
  rintro e w' ⟨v', rfl, h1, h2, h3⟩
  have hg := (Array.getElem?_eq_some_iff.1 h.block).1
  refine ⟨v', rfl, h1, ?_, ?_, Nat.le_trans h.size h2.size, h.below.grown h2 h.size (fun k hk => (h.own.base k hk).1)⟩
  · rw [h2.block g hg (fun e => h.far e.symm)]; exact h.block
  · rcases h3 with e | ⟨q, e, hq⟩
    · rw [e]; exact h.far
    · rw [e]; intro e2; have := Option.some.inj e2; omega
set_option maxHeartbeats 4000000 in
set_option maxRecDepth 20000 in
theorem ref12_Encode (w : World) (v : Value) (l : List Rl) (h : ArgR w v l) (rela : Bool) (hl : l.length ≤ 1000000) :
    Calls Try.prog 13 #[v, .bool rela] w fun e w' => EncIs w' w.heap.size (encR l rela) e ∧ Below w.heap.size w w' := by
  obtain ⟨a, cap, rfl, p1, p2⟩ := h.form
  have HA := hide h
  have HB : Hid (Below w.heap.size w w) := Below.refl _ _
  obtain ⟨O, hO⟩ : ∃ O, encR l rela = O := ⟨_, rfl⟩
  have HO := hide hO
  rw [hO]
  clear h hO
  by_cases hlen : 512 < l.length
  · have HF : Hid (O = none) := by rw [Hid, ← HO.out]; exact encR_long hlen
    go_enter Try.func13, Try.ntmps13
    go_wp2
    go_ret2
    exact ⟨by rw [HF.out]; rfl, HB.out⟩
  · go_enter Try.func13, Try.ntmps13
    go_wp2
    go_loopw [6, 7, 8] (fun vb vi _ wr => ∃ i : Nat, i ≤ l.length ∧ vi = .int .i64 (i : Int) ∧ Hid ((l.take i).all (rlGood rela) = true) ∧ Hid (Own wr w.heap.size vb (flatB (l.take i))) ∧ Hid (Below w.heap.size w wr)) (fun _ vi _ _ => l.length - (intOf vi).toNat)
    case atStart => exact ⟨0, by omega, rfl, rfl, Own.nil _ _, Below.refl _ _⟩
    case round =>
      obtain ⟨i, hi, rfl, HGd, HGb, HBr⟩ := hrel
      by_cases hlt : i < l.length
      · have hltI : (i : Int) < (l.length : Int) := by omega
        have hcap : (l.length : Int) ≤ (cap : Int) := by omega
        obtain ⟨g, og, rfl, y0, y1, y2, y3, y4⟩ := (HA.out.below HBr.out).at i hlt
        have HOk : Hid (l[i].ok) := HA.out.1 _ (List.getElem_mem hlt)
        have HBad : Hid (rlGood rela l[i] = false → O = none) := fun k => by rw [← HO.out]; exact encR_bad i hlt k
        have HGd2 : Hid (rlGood rela l[i] = true → (l.take (i + 1)).all (rlGood rela) = true) := fun k => take_good i hlt HGd.out k
        have HFl : Hid (flatB (l.take i) ++ rlB l[i] = flatB (l.take (i + 1))) := take_flat i hlt
        have HSh : Hid (∀ m : List UInt8, m.length ≤ 1000 → (flatB (l.take i) ++ m).length + 8 ≤ 1000000000) := fun m hm => by have := flat_short (l := l) (by omega) i; rw [List.length_append]; omega
        have HSh0 : Hid ((flatB (l.take i)).length + 8 ≤ 1000000000) := by have := flat_short (l := l) (by omega) i; rw [Hid]; omega
        have HZ : Hid ((wr.alloc (.cells #[.int .u64 0, .int .u32 0, .int .u32 0, .int .i64 0, .bool false] 43)).heap[wr.heap.size]? = some (.cells #[.int .u64 0, .int .u32 0, .int .u32 0, .int .i64 0, .bool false] 43 (0, 0))) := heap_alloc_new _ _
        have HBZ : Hid (Below wr.heap.size wr (wr.alloc (.cells #[.int .u64 0, .int .u32 0, .int .u32 0, .int .i64 0, .bool false] 43))) := Below.alloc (Below.refl _ _) (Nat.le_refl _) _
        generalize l[i] = r at *
        obtain ⟨n0, n1, n2, n3, b⟩ := r
        simp only at y0 y1 y2 y3 y4
        go_wp2_with ((with_reducible refine at_storeRl ?_); refine store_part rfl _ _ _ rfl wr.heap.size 0 43 _ [.int .u64 n0, .int .u32 n1, .int .u32 n2, .int .i64 n3, .bool b] #[.int .u64 n0, .int .u32 n1, .int .u32 n2, .int .i64 n3, .bool b] HZ.out rfl rfl rl_size (rl_one _ _ _ _ _) (Nat.le_refl 5) (by rfl) ?_)
        intro w1 h1 h2
        have hb1 : Below wr.heap.size wr w1 := HBZ.out.grown h2 (by simp) (fun k hk => by have := Option.some.inj hk; omega)
        have HB1 : Hid (Below w.heap.size w w1) := HBr.out.trans (hb1.mono HBr.out.size)
        have HP : Hid (Py w w1 w.heap.size wr.heap.size 43 #[.int .u64 n0, .int .u32 n1, .int .u32 n2, .int .i64 n3, .bool b] _ (flatB (l.take i))) := ⟨HGb.out.stay hb1, h1, fun e => by have := (HGb.out.base _ e).2; omega, HB1.out.size, HB1.out⟩
        have x0 := cells_of_block h1 0 _ rfl
        have x3 := cells_of_block h1 3 _ rfl
        have x4 := cells_of_block h1 4 _ rfl
        clear h1 h2 hb1 y0 y1 y2 y3 y4
        by_cases hgood : rlGood rela ⟨n0, n1, n2, n3, b⟩ = true
        · have HGd3 := hide (HGd2.out hgood)
          obtain ⟨rfl, hadd⟩ : b = rela ∧ (rela = true ∨ n3 = 0) := by
            simp only [rlGood, Bool.and_eq_true, beq_iff_eq, Bool.or_eq_true] at hgood
            exact hgood
          obtain ⟨r0, r1, r2, r3, r4⟩ := HOk.out
          simp only at r0 r1 r2 r3 r4
          obtain ⟨u3, hu3⟩ : ∃ u, us n3 = u := ⟨_, rfl⟩
          have hw3 : IntKind.u64.wrap n3 = (u3 : Int) := by rw [← hu3, us_is]
          have hu3b : (u3 : Int) ≤ 18446744073709551615 := by have := us_lt n3; omega
          have HFF : Hid (flatB (l.take (i + 1)) = flatB (l.take i) ++ leN 8 n0 ++ leN 4 n1 ++ leN 4 n2 ++ (if b then leN 8 u3 else [])) := by
            rw [Hid, ← HFl.out]; unfold rlB; rw [hu3]; simp
          clear hgood HBad HGd2 hu3
          cases b
          · have h0 : n3 = 0 := by simpa using hadd
            subst h0
            clear hadd
            go_wp2_with fail
            refine (py_Put HP.out n0 8 HSh0.out (by omega)).mono ?_
            rintro e w2 ⟨v2, rfl, hp⟩
            have HP2 := hide hp
            have z1 := cells_of_block HP2.out.block 1 _ rfl
            clear hp x0 x3 x4
            go_wp2_with fail
            refine (py_Put HP2.out n1 4 (by have := HSh.out (leN 8 n0) (by rw [leN_length]; omega); omega) (by omega)).mono ?_
            rintro e w3 ⟨v3, rfl, hp⟩
            have HP3 := hide hp
            have z2 := cells_of_block HP3.out.block 2 _ rfl
            clear hp z1
            go_wp2_with fail
            refine (py_Put HP3.out n2 4 (by have := HSh.out (leN 8 n0 ++ leN 4 n1) (by rw [List.length_append, leN_length, leN_length]; omega); rw [← List.append_assoc] at this; omega) (by omega)).mono ?_
            rintro e w4 ⟨v4, rfl, hp⟩
            have HP4 := hide hp
            have z3 := cells_of_block HP4.out.block 3 _ rfl
            clear hp z2
            have HG2 : Hid (Own w4 w.heap.size v4 (flatB (l.take (i + 1)))) := by rw [Hid, HFF.out, if_neg (by simp), List.append_nil]; exact HP4.out.own
            have HB2 := hide HP4.out.below
            go_wp2
            go_roundw
            case rel => exact ⟨i + 1, by omega, by go_num, HGd3, HG2, HB2⟩
            case measure => simp [intOf]; omega
          · clear hadd
            obtain ⟨zz, hzz⟩ : ∃ zz, (n3 != 0) = zz := ⟨_, rfl⟩
            cases zz
            · go_wp2_with fail
              refine (py_Put HP.out n0 8 HSh0.out (by omega)).mono ?_
              rintro e w2 ⟨v2, rfl, hp⟩
              have HP2 := hide hp
              have z1 := cells_of_block HP2.out.block 1 _ rfl
              clear hp x0 x3 x4
              go_wp2_with fail
              refine (py_Put HP2.out n1 4 (by have := HSh.out (leN 8 n0) (by rw [leN_length]; omega); omega) (by omega)).mono ?_
              rintro e w3 ⟨v3, rfl, hp⟩
              have HP3 := hide hp
              have z2 := cells_of_block HP3.out.block 2 _ rfl
              clear hp z1
              go_wp2_with fail
              refine (py_Put HP3.out n2 4 (by have := HSh.out (leN 8 n0 ++ leN 4 n1) (by rw [List.length_append, leN_length, leN_length]; omega); rw [← List.append_assoc] at this; omega) (by omega)).mono ?_
              rintro e w4 ⟨v4, rfl, hp⟩
              have HP4 := hide hp
              have z3 := cells_of_block HP4.out.block 3 _ rfl
              clear hp z2
              go_wp2_with fail
              refine (py_Put HP4.out u3 8 (by rw [List.append_assoc, List.append_assoc]; exact HSh.out _ (by rw [List.length_append, List.length_append, leN_length, leN_length, leN_length]; omega)) hu3b).mono ?_
              rintro e w5 ⟨v5, rfl, hp⟩
              have HG2 : Hid (Own w5 w.heap.size v5 (flatB (l.take (i + 1)))) := by rw [Hid, HFF.out, if_pos (by trivial)]; exact hp.own
              have HB2 := hide hp.below
              clear hp
              go_wp2
              go_roundw
              case rel => exact ⟨i + 1, by omega, by go_num, HGd3, HG2, HB2⟩
              case measure => simp [intOf]; omega
            · go_wp2_with fail
              refine (py_Put HP.out n0 8 HSh0.out (by omega)).mono ?_
              rintro e w2 ⟨v2, rfl, hp⟩
              have HP2 := hide hp
              have z1 := cells_of_block HP2.out.block 1 _ rfl
              clear hp x0 x3 x4
              go_wp2_with fail
              refine (py_Put HP2.out n1 4 (by have := HSh.out (leN 8 n0) (by rw [leN_length]; omega); omega) (by omega)).mono ?_
              rintro e w3 ⟨v3, rfl, hp⟩
              have HP3 := hide hp
              have z2 := cells_of_block HP3.out.block 2 _ rfl
              clear hp z1
              go_wp2_with fail
              refine (py_Put HP3.out n2 4 (by have := HSh.out (leN 8 n0 ++ leN 4 n1) (by rw [List.length_append, leN_length, leN_length]; omega); rw [← List.append_assoc] at this; omega) (by omega)).mono ?_
              rintro e w4 ⟨v4, rfl, hp⟩
              have HP4 := hide hp
              have z3 := cells_of_block HP4.out.block 3 _ rfl
              clear hp z2
              go_wp2_with fail
              refine (py_Put HP4.out u3 8 (by rw [List.append_assoc, List.append_assoc]; exact HSh.out _ (by rw [List.length_append, List.length_append, leN_length, leN_length, leN_length]; omega)) hu3b).mono ?_
              rintro e w5 ⟨v5, rfl, hp⟩
              have HG2 : Hid (Own w5 w.heap.size v5 (flatB (l.take (i + 1)))) := by rw [Hid, HFF.out, if_pos (by trivial)]; exact hp.own
              have HB2 := hide hp.below
              clear hp
              go_wp2
              go_roundw
              case rel => exact ⟨i + 1, by omega, by go_num, HGd3, HG2, HB2⟩
              case measure => simp [intOf]; omega
        · have HF : Hid (O = none) := HBad.out (by simpa using hgood)
          have hbad : b ≠ rela ∨ (b = false ∧ rela = false ∧ n3 ≠ 0) := by
            simp only [rlGood, Bool.and_eq_true, beq_iff_eq, Bool.or_eq_true, not_and, not_or] at hgood
            by_cases e : b = rela
            · have := hgood e
              subst e
              cases b
              · exact .inr ⟨rfl, rfl, this.2⟩
              · exact absurd rfl this.1
            · exact .inl e
          clear hgood HBad HGd2 HP
          rcases hbad with hne | ⟨rfl, rfl, hne⟩
          · cases b <;> cases rela
            · exact absurd rfl hne
            · go_wp2
              go_ret2
              exact ⟨by rw [HF.out]; rfl, HB1.out⟩
            · go_wp2
              go_ret2
              exact ⟨by rw [HF.out]; rfl, HB1.out⟩
            · exact absurd rfl hne
          · go_wp2
            go_ret2
            exact ⟨by rw [HF.out]; rfl, HB1.out⟩
      · have him : i = l.length := by omega
        subst him
        have HF : Hid (O = some (flatB (l.take l.length))) := by rw [Hid, ← HO.out]; exact encR_yes (by omega) HGd.out
        go_wp2
        go_ret2
        exact ⟨by rw [HF.out]; exact ⟨_, rfl, HGb.out⟩, HBr.out⟩
end Go.Proofs.Ytkelipoiopkokaa
