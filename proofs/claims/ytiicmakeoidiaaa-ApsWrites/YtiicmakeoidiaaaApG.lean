
/-
  Layer 14 (aps), the program: what is laid down so far, in memory (Wt); put keeps its contract.
-/
import Derived.Test.YtiicmakeoidiaaaApN
import Derived.Test.YtiicmakeoidiaaaApF
import Derived.ArgAppend
import Derived.Deep.RegionHeldLaw
set_option linter.unusedVariables false
namespace Go.Proofs.Ytiicmakeoidiaaa
open Go.RowKit Go.PlainAid
/-- A row of bytes of the call's own, or the constant with which a list begins. -/
def Bw (w : World) (B : Nat) (v : Value) (l : List UInt8) : Prop :=
  Own w B v l ∨ (∃ g, v = .slice (some ⟨g, 0, none⟩) 4 4 ∧ l = [65, 80, 83, 50] ∧ B ≤ g ∧ w.heap[g]? = some magicO)
theorem Own.move {w w' : World} {B : Nat} {v : Value} {l : List UInt8} (h : Own w B v l) (ho : ∀ k, v.ownBlock = some k → w'.heap[k]? = w.heap[k]?) : Own w' B v l := by
  unfold Own at h ⊢
  refine ⟨h.1, ?_⟩
  rcases h.2 with hn | ⟨k, cap, cur, rfl, hB, hg, rest⟩
  · exact .inl hn
  · refine .inr ⟨k, cap, cur, rfl, hB, ?_, rest⟩
    rw [ho k rfl]; exact hg
theorem Bw.move {w w' : World} {B : Nat} {v : Value} {l : List UInt8} (h : Bw w B v l) (ho : ∀ k, v.ownBlock = some k → w'.heap[k]? = w.heap[k]?) : Bw w' B v l := by
  rcases h with h | ⟨g, rfl, h1, h2, h3⟩
  · exact .inl (h.move ho)
  · exact .inr ⟨g, rfl, h1, h2, by rw [ho g rfl]; exact h3⟩
theorem Bw.base {w : World} {B : Nat} {v : Value} {l : List UInt8} (h : Bw w B v l) : ∀ k, v.ownBlock = some k → B ≤ k ∧ k < w.heap.size := by
  intro k hk
  rcases h with h | ⟨g, rfl, h1, h2, h3⟩
  · exact h.base k hk
  · simp [Value.ownBlock] at hk
    subst hk
    exact ⟨h2, bk_lt h3⟩
theorem Bw.slice {w : World} {B : Nat} {v : Value} {l : List UInt8} (h : Bw w B v l) : ∃ a n c, v = .slice a n c := by
  rcases h with h | ⟨g, rfl, _⟩
  · obtain ⟨a, cap, rfl, _⟩ := h.slice; exact ⟨_, _, _, rfl⟩
  · exact ⟨_, _, _, rfl⟩
theorem run_append_bw (W : World) (ty : TypeId) (B : Nat) (v : Value) (l : List UInt8) (h : Bw W B v l) (hB : B ≤ W.heap.size) (g m c : Nat) (x : List UInt8) (hm : x.length = m) (h0 : 0 < m) (hx : ∀ j (hj : j < x.length), W.cell? ⟨g, j, none⟩ = some (.int .u8 (x[j].toNat : Int))) (hl : l.length + m ≤ 1000000000) :
    ∃ v' w', (Builtin.append_ #[42, 42] ty #[v, .slice (some ⟨g, 0, none⟩) m c]).run Try.prog W = .ok v' w' ∧ Own w' B v' (l ++ x) ∧ W.grownBy w' v.ownBlock ∧ (∀ k, v'.ownBlock = some k → v.ownBlock = some k ∨ W.heap.size ≤ k) := by
  obtain ⟨i, hi, hz0, hz1, hz2⟩ := info_parts Try.info8
  have hnews : ∀ j u, (bv x)[j]? = some u → W.cell? ((⟨g, 0, none⟩ : Addr).add j) = some u := by
    intro j u hj
    obtain ⟨q, hq, rfl⟩ := bv_get x j u hj
    obtain ⟨hlt, hq2⟩ := List.getElem?_eq_some_iff.1 hq
    rw [add_at, Nat.zero_add, hx j hlt, hq2]
  have hone : ∀ u ∈ bv x, u.oneCell' = true := by intro u hu; unfold bv at hu; obtain ⟨c, _, rfl⟩ := List.mem_map.mp hu; rfl
  have hbl : (bv x).length = m * 1 := by simp [bv, hm]
  rcases h with h | ⟨g0, rfl, rfl, h2, h3⟩
  · obtain ⟨v', w', hr, k1, k2, k3, k4⟩ := run_append_own_at (P := Try.prog) W B 42 ty 5 i (.int .u8 0) 1 1 Try.underlying42 hi hz0 hz1 hz2 rfl (by decide) v l.length (bv l) h ⟨g, 0, none⟩ m c (bv x) hbl hnews hone (by unfold maxLen; omega) (by omega) hB
    refine ⟨v', w', hr, ?_, k2, fun k hk => ?_⟩
    · unfold Own; rw [List.length_append, bv_append, hm]; exact k1
    · rcases k4 with e | e
      · left; rw [← e]; exact hk
      · right; rw [e] at hk; injection hk with hk; omega
  · have holds : ∀ j u, (bv [65, 80, 83, 50])[j]? = some u → W.cell? ((⟨g0, 0, none⟩ : Addr).add j) = some u := by
      intro j u hj
      rw [add_at, Nat.zero_add, cell_of_row W g0 j _ _ _ h3]
      simpa [bv] using hj
    obtain ⟨v', w', hr, k1, k2⟩ := run_append_arg_grows (P := Try.prog) W 42 ty 5 i (.int .u8 0) 1 1 Try.underlying42 hi hz0 hz1 hz2 rfl (by decide) ⟨g0, 0, none⟩ 4 4 (bv [65, 80, 83, 50]) rfl holds ⟨g, 0, none⟩ m c (bv x) hbl hnews (by omega) (by unfold maxLen; simp at hl; omega) (by simp at hl; omega)
    refine ⟨v', w', hr, ?_, k2.but _, fun k hk => .inr (World.ownsRow.lt k1 k hk).1⟩
    unfold Own
    rw [List.length_append, bv_append, hm]
    refine ⟨k1.1, ?_⟩
    rcases k1.2 with hn | ⟨k, cap, cur, rfl, hB2, rest⟩
    · exact .inl hn
    · exact .inr ⟨k, cap, cur, rfl, by omega, rest⟩
/-- The append as a step of a drawn region. -/
theorem step_append_bw {ops : Array Oper} {o : Oper} {a : Act} {W : World} {K : Act → World → Prop} {Q : Exit → Act → World → Prop} {E : Prop} (hgd : o.guard = none) (s y : Operand)
    (ho : o.op = .call { callee := .builtin .append, args := #[s, y], argTypes := #[42, 42] })
    (B : Nat) (v : Value) (l : List UInt8) (hw : Bw W B v l) (hB : B ≤ W.heap.size) (g m c : Nat) (x : List UInt8) (hm : x.length = m) (h0 : 0 < m) (hx : ∀ j (hj : j < x.length), W.cell? ⟨g, j, none⟩ = some (.int .u8 (x[j].toNat : Int))) (hl : l.length + m ≤ 1000000000)
    (hs : a.eval s = v) (hy : a.eval y = .slice (some ⟨g, 0, none⟩) m c)
    (h : ∀ v' w', Own w' B v' (l ++ x) → W.grownBy w' v.ownBlock → (∀ k, v'.ownBlock = some k → v.ownBlock = some k ∨ W.heap.size ≤ k) → K (a.put o.dst v') w') :
    if Region.wanted o (yielded ops a.tmps) = true then Oper.wp Try.prog o a W K Q else E := by
  have hwt : Region.wanted o (yielded ops a.tmps) = true := by simp [Region.wanted, hgd]
  rw [if_pos hwt]
  obtain ⟨v', w', hr, h2, h3, h4⟩ := run_append_bw W o.type B v l hw hB g m c x hm h0 hx hl
  unfold Oper.wp execOp
  simp only [ho, resolve, invoke, builtin, Sem.run_bind, Sem.run_pure, Result.andThen_ok, List.map_toArray, List.map_cons, List.map_nil, hs, hy, hr]
  exact h v' w' h2 h3 h4
/-- What is laid down, in memory: the block T. -/
structure Wt (w : World) (B T : Nat) (v : Value) (l : List UInt8) (rela : Bool) (pl : Nat) (ad : Int) : Prop where
  block : w.heap[T]? = some (.cells #[v, .bool rela, .int .u64 (pl : Nat), .int .i64 ad] 53 (0, 0))
  row : Bw w B v l
  lo : B ≤ T
  far : v.ownBlock ≠ some T
theorem Wt.size {w : World} {B T : Nat} {v : Value} {l : List UInt8} {rela : Bool} {pl : Nat} {ad : Int} (h : Wt w B T v l rela pl ad) : T < w.heap.size := bk_lt h.block
theorem Wt.move {w w' : World} {B T : Nat} {v : Value} {l : List UInt8} {rela : Bool} {pl : Nat} {ad : Int} (h : Wt w B T v l rela pl ad) (hT : w'.heap[T]? = w.heap[T]?) (ho : ∀ k, v.ownBlock = some k → w'.heap[k]? = w.heap[k]?) : Wt w' B T v l rela pl ad :=
  ⟨by rw [hT]; exact h.block, h.row.move ho, h.lo, h.far⟩
theorem Wt.below {w w' : World} {B T : Nat} {v : Value} {l : List UInt8} {rela : Bool} {pl : Nat} {ad : Int} (h : Wt w B T v l rela pl ad) (hb : Below w.heap.size w w') : Wt w' B T v l rela pl ad :=
  h.move (hb.block _ h.size) (fun k hk => hb.block k (h.row.base k hk).2)
theorem Fp.lowW {w w' : World} {B T : Nat} {v v' : Value} {l : List UInt8} {rela : Bool} {pl : Nat} {ad : Int} (h : Wt w B T v l rela pl ad) (f : Fp w w' T T v v') : Below B w w' :=
  ⟨f.os, f.tape, f.output, f.size, fun k hk => f.block k (by have := h.lo; have := h.size; omega) (by have := h.lo; omega) (by have := h.lo; omega) (fun e => by have := (h.row.base k e).1; omega)⟩
/-- Behind the append and the store of the new row. -/
theorem put_fin {w W1 W6 : World} {B T : Nat} {v v6 : Value} {l l6 : List UInt8} {rela : Bool} {pl : Nat} {ad : Int} (h : Wt w B T v l rela pl ad) (hb : Below w.heap.size w W1) (o6 : Own W6 B v6 l6) (g6 : W1.grownBy W6 v.ownBlock) (x6 : ∀ k, v6.ownBlock = some k → v.ownBlock = some k ∨ W1.heap.size ≤ k) :
    Wt (W6.setCell ⟨T, 0, none⟩ v6) B T v6 l6 rela pl ad ∧ Fp w (W6.setCell ⟨T, 0, none⟩ v6) T T v v6 := by
  have hT := h.size
  have ho : ∀ k, k ≠ T → (W6.setCell ⟨T, 0, none⟩ v6).heap[k]? = W6.heap[k]? := fun k hk => set_bother _ _ _ _ _ hk
  have h6 : ∀ k, k < w.heap.size → v.ownBlock ≠ some k → W6.heap[k]? = w.heap[k]? := fun k hk hne => by
    rw [g6.block k (Nat.lt_of_lt_of_le hk hb.size) (fun e => hne e.symm), hb.block k hk]
  have hne6 : ∀ k, v6.ownBlock = some k → k ≠ T := by
    intro k hk e
    subst e
    rcases x6 _ hk with e | e
    · exact h.far e
    · have := hb.size; omega
  refine ⟨⟨?_, .inl (o6.move (fun k hk => ho k (hne6 k hk))), h.lo, fun e => hne6 T e rfl⟩, ⟨g6.os.trans hb.os, g6.tape.trans hb.tape, g6.output.trans hb.output, ?_, fun k hk k1 k2 k3 => ?_, fun k hk => ?_⟩⟩
  · have e := h6 T hT h.far
    rw [h.block] at e
    rw [set_bk _ _ _ _ _ _ _ e]; rfl
  · simp; exact Nat.le_trans hb.size g6.size
  · rw [ho k k2, h6 k hk k3]
  · rcases x6 k hk with e | e
    · exact .inl e
    · exact .inr (Nat.le_trans hb.size e)
/-- Numbers that lie in a block of their own. -/
def IntsAt (w : World) (g : Nat) (ns : List Int) : Prop := ∀ j (hj : j < ns.length), w.cell? ⟨g, j, none⟩ = some (.int .i64 ns[j])
theorem lebS_ne (n : Int) : lebS 10 n ≠ [] := by unfold lebS; split <;> simp
theorem lebs_snoc (ns : List Int) (i : Nat) (h : i < ns.length) : lebs (ns.take (i + 1)) = lebs (ns.take i) ++ lebS 10 ns[i] := by
  rw [List.take_succ_eq_append_getElem h, lebs_app]; simp [lebs]
set_option maxHeartbeats 4000000 in
set_option maxRecDepth 20000 in
theorem ap_put (w : World) (B T : Nat) (v : Value) (l : List UInt8) (rela : Bool) (pl : Nat) (ad : Int) (h : Wt w B T v l rela pl ad) (hB : B ≤ w.heap.size) (g n cap : Nat) (ns : List Int) (hn : ns.length = n) (hc : n ≤ cap) (hcap : cap ≤ 1000000) (hi : IntsAt w g ns) (hg : g < w.heap.size) (hgT : g ≠ T) (hgv : v.ownBlock ≠ some g)
    (hr : ∀ n ∈ ns, i64r n) (hl : l.length + 10 * n ≤ 1000000) :
    Calls Try.prog 22 #[.pointer (some ⟨T, 0, none⟩), .slice (some ⟨g, 0, none⟩) n cap] w fun e w' => e = .returned (.tuple #[]) ∧ ∃ v', Wt w' B T v' (l ++ lebs ns) rela pl ad ∧ Fp w w' T T v v' := by
  have HW := hide h
  have HI := hide hi
  have HR := hide hr
  have HN := hide hn
  have HG := hide hg
  have HGT := hide hgT
  have HGV := hide hgv
  have HBS := hide hB
  clear h hi hr hn hg hgT hgv hB
  go_enter Try.func22, Try.ntmps22
  go_wp2_with fail
  go_loopw [5, 8] (fun v5 vi wr => ∃ (i : Nat) (v' : Value), i ≤ n ∧ vi = .int .i64 (i : Int) ∧ Hid (Wt wr B T v' (l ++ lebs (ns.take i)) rela pl ad) ∧ Hid (Fp w wr T T v v')) (fun _ vi _ => n - (intOf vi).toNat)
  case atStart => exact ⟨0, v, by omega, rfl, by simpa [lebs] using HW, Fp.refl _ _ _ _⟩
  case round =>
    obtain ⟨i, v', hi, rfl, HW2, HF2⟩ := hrel
    by_cases hlt : i < n
    · have hltI : (i : Int) < (n : Int) := by omega
      have hiN : i < ns.length := by have := HN.out; omega
      have hcell : wr.cell? ⟨g, i, none⟩ = some (.int .i64 ns[i]) := by
        have hb : wr.heap[g]? = w.heap[g]? := HF2.out.block g HG.out HGT.out HGT.out HGV.out
        rw [World.cell?_of_block (a := ⟨g, i, none⟩) hb]; exact HI.out i hiN
      have hx := HR.out ns[i] (by simp)
      have HSN := hide (lebs_snoc ns i hiN)
      have hll : (l ++ lebs (ns.take i)).length + 10 ≤ 1000000 := by
        have := lebs_len (ns.take i)
        rw [List.length_take] at this
        rw [List.length_append]; omega
      generalize ns[i] = x at *
      have HLL := hide hll
      have hD := HW2.out.below ((Below.refl _ _).drew)
      have t0 := cells_of_block hD.block 0 v' rfl
      have HD := hide hD
      have HBW : Hid (B ≤ wr.heap.size) := Nat.le_trans HBS.out HF2.out.size
      have HP := hide (fun W => leb_PutS x W hx.1 hx.2)
      clear hD hll hx
      go_wp2_with fail
      go_region_law (first
        | (refine step_append_bw rfl (.tmp 16) (.tmp 18) rfl B v' _ HW3.out.row HB3.out _ _ _ (lebS 10 x) rfl HPO.out HXC.out (by have := lebS_len 10 x; have := HLL.out; omega) rfl rfl ?_; intro v6 W6 o6 g6 x6; have HO6 := hide o6; have HG6 := hide g6; have HX6 := hide x6; have hT6 := (g6.block T HW3.out.size (fun e => HW3.out.far e.symm)).trans HW3.out.block; have z0 := cells_of_block hT6 0 v' rfl; have y0 := frozen_bk hT6 0; obtain ⟨a6, c6, hv6, _⟩ := o6.slice; have HLN := hide (rfl : (l ++ lebs (ns.take i) ++ lebS 10 x).length = (l ++ lebs (ns.take i) ++ lebS 10 x).length); generalize (l ++ lebs (ns.take i) ++ lebS 10 x).length = n6 at hv6; subst hv6; clear o6 g6 x6 hT6)
        | (go_simp; refine (HP.out _).mono ?_; rintro e W1 ⟨v1, rfl, ho1, hb1⟩; have HB1 := hide hb1; have HW3 := hide (HD.out.below hb1); have HB3 := hide (Nat.le_trans HBW.out hb1.size); have t0 := cells_of_block HW3.out.block 0 v' rfl; have HPO := hide (List.length_pos_iff.2 (lebS_ne x)); obtain ⟨g1, c1, hv1, _, _, _, _, hxc, _⟩ := ho1.form (lebS_ne x); subst hv1; have HXC := hide hxc; clear ho1 hb1 hxc))
      all_goals
        have HFIN := hide (put_fin HD.out HB1.out HO6.out HG6.out HX6.out)
        have HF3 : Hid (Fp w wr.drew T T v v') := HF2.out.trans (Fp.of_below ((Below.refl _ _).drew) _ _ _)
        have hi5 : (i : Int) ≤ 1000000 := by omega
        go_wp2
        go_roundw
        case rel => exact ⟨i + 1, _, by omega, by go_num, by rw [HSN.out, ← List.append_assoc]; exact HFIN.out.1, HF3.out.trans HFIN.out.2⟩
        case measure => simp [intOf]; omega
    · have hltI : decide ((i : Int) < (n : Int)) = false := decide_eq_false (by omega)
      have hltN : decide (i < n) = false := decide_eq_false hlt
      have hin : i = n := by omega
      have HE : Hid (Wt wr B T v' (l ++ lebs ns) rela pl ad) := by
        have := HW2.out; rw [hin, List.take_of_length_le (by have := HN.out; omega)] at this; exact this
      clear hlt hin HW2
      go_wp2
      go_end0
      exact ⟨rfl, v', HE.out, HF2.out⟩
end Go.Proofs.Ytiicmakeoidiaaa
