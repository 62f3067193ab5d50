/-
  LebLong returns true for all numbers, and they read afterwards as they read before: no condition.
-/
import Derived.Test.YtbpajkoaeopnfacRows
import Derived.Test.YtbpajkoaeopnfacRdF
import Derived.Test.YtbpajkoaeopnfacLebM
import Derived.WalkKit
import Derived.ProofKit
import Derived.OpenShut
import Derived.ShutString
import Derived.ChangeOld
import Derived.Below
set_option linter.unusedVariables false
namespace Go.Proofs.Ytbpajkoaeopnfac
namespace LLebLong
open Go.ChangeShapes Go.WideShapes Go.ChangeAt Go.RowKit
open Go.ChangeMaps (open_string shut_string)
theorem heap_setCell {w : World} {g j : Nat} {cur : Array Value} {e : TypeId} {fr : Nat × Nat} {x : Value} (h : w.heap[g]? = some (.cells cur e fr)) :
    (w.setCell ⟨g, j, none⟩ x).heap[g]? = some (.cells (cur.setIfInBounds j x) e fr) := by
  simp [World.setCell, Array.getElem?_modify, h]
theorem own_set {w : World} {B g cap : Nat} {l : List UInt8} (h : Own w B (.slice (some ⟨g, 0, none⟩) l.length cap) l) (hne : l ≠ []) (j : Nat) (hj : j < l.length) (c : UInt8) :
    Own (w.setCell ⟨g, j, none⟩ (.int .u8 (c.toNat : Int))) B (.slice (some ⟨g, 0, none⟩) l.length cap) (l.set j c) := by
  unfold Own at h ⊢
  refine ⟨by simp [bv], ?_⟩
  rcases h.2 with ⟨hn, h0⟩ | ⟨g', cap', cur, hv, hb, hg, hn, hm, hc, ht⟩
  · exact absurd (List.length_eq_zero_iff.mp h0) hne
  · simp only [Value.slice.injEq, Option.some.injEq, Addr.mk.injEq, true_and, and_true] at hv
    obtain ⟨rfl, rfl⟩ := hv
    refine .inr ⟨g, cap, cur.setIfInBounds j (.int .u8 (c.toNat : Int)), by simp, hb, heap_setCell hg, by simpa using hn, hm, by simpa using hc, ?_⟩
    simp only [List.length_set, Array.toList_setIfInBounds]
    rw [List.take_set, ht]
    simp [bv, List.map_set]
theorem append_byte' {ops : Array Oper} {rest : List Oper} {o : Oper} {a : Act} {Q : Exit → Act → World → Prop} (hgd : o.guard = none) (s x : Operand)
    (ho : o.op = .call { callee := .builtin .append, args := #[s, x], argTypes := #[26, 26] })
    (B : Nat) (wr : World) (v : Value) (acc : List UInt8) (n : Int) (hown : Own wr B v acc) (c : UInt8) (hn : n = (c.toNat : Int)) (hs : a.eval s = v) (H : Nat) (hH : wr.heap.size = H)
    (hx : a.eval x = .slice (some ⟨H, 0, none⟩) 1 1) (hlen : acc.length ≤ 1000000000000) (hB : B ≤ wr.heap.size)
    (h : ∀ v' w', Own w' B v' (acc ++ [c]) → Below B wr w' → wpList Try.prog ops Q rest (a.put o.dst v') w') :
    wpList Try.prog ops Q (o :: rest) a (wr.alloc (.cells #[.int .u8 n] 5)) :=
  append_byte hgd s x ho B wr v acc n hown c hn hs (by rw [hx, hH]) hlen hB h
theorem ends_init {l : List UInt8} (h : Ends l) : ∃ (i : List UInt8) (c : UInt8), l = i ++ [c] ∧ c.toNat < 128 ∧ l.getD (l.length - 1) 0 = c ∧ (∀ j, j < i.length → ¬ (i.getD j 0).toNat < 128) := by
  have e := List.dropLast_concat_getLast h.1
  have hp := List.length_pos_iff.mpr h.1
  have hl := (h.2 (l.length - 1) (by omega)).mpr rfl
  have hgd : l.getD (l.length - 1) 0 = l.getLast h.1 := by
    rw [List.getLast_eq_getElem]; simp [List.getD, List.getElem?_eq_getElem (show l.length - 1 < l.length by omega)]
  refine ⟨l.dropLast, l.getLast h.1, e.symm, by rw [← hgd]; exact hl, hgd, fun j hj => ?_⟩
  simp at hj
  have h2 := h.2 j (by omega)
  have e2 : l.dropLast.getD j 0 = l.getD j 0 := by
    conv => rhs; rw [← e]
    exact (getD_app _ _ _ (by simpa using hj)).symm
  rw [e2, h2]; omega
theorem ends_grow {i : List UInt8} {c d : UInt8} (hi : ∀ j, j < i.length → ¬ (i.getD j 0).toNat < 128) (hc : c.toNat < 128) (hd : d.toNat < 128) : Ends (i ++ [b8 (c.toNat + 128)] ++ [d]) := by
  induction i with
  | nil => exact ends_cons _ _ (by rw [b8_hi _ hc]; omega) (ends_one _ hd)
  | cons x i ih =>
    refine ends_cons x _ (by simpa using hi 0 (by simp)) (ih fun j hj => ?_)
    simpa using hi (j + 1) (by simpa using hj)
theorem gss_grow {i : List UInt8} {c d : UInt8} (hc : c.toNat < 128) (hd : (64 ≤ c.toNat ∧ d.toNat = 127) ∨ (c.toNat < 64 ∧ d.toNat = 0)) : gss (i ++ [b8 (c.toNat + 128)] ++ [d]) = gss (i ++ [c]) := by
  have e1 : (i ++ [b8 (c.toNat + 128)] ++ [d]).getD ((i ++ [b8 (c.toNat + 128)] ++ [d]).length - 1) 0 = d := by simp
  have e2 : (i ++ [c]).getD ((i ++ [c]).length - 1) 0 = c := by simp
  unfold gss
  rw [e1, e2, gs_append, gs_append, gs_append]
  simp only [List.length_append, List.length_cons, List.length_nil, gs, b8_hi _ hc, Nat.zero_add]
  rw [Nat.pow_succ 128 (i.length + 1), Nat.pow_succ 128 i.length]
  have q1 : (c.toNat + 128) % 128 = c.toNat := by omega
  have q2 : c.toNat % 128 = c.toNat := by omega
  rw [q1, q2]
  rcases hd with ⟨h1, h2⟩ | ⟨h1, h2⟩
  · rw [h2, if_pos (by omega), if_pos h1]; omega
  · rw [h2, if_neg (by omega), if_neg (by omega)]; simp
theorem or128c (c : UInt8) : bits .or .u8 (c.toNat : Int) 128 = ((b8 (c.toNat % 128 + 128)).toNat : Int) := by
  have h2 : ∀ k : Fin 256, bits .or .u8 (k.val : Int) 128 = ((b8 (k.val % 128 + 128)).toNat : Int) := by decide +kernel
  exact h2 ⟨c.toNat, c.toNat_lt⟩
set_option maxHeartbeats 2000000 in
theorem core (n : Int) (h0 : -9223372036854775808 ≤ n) (h1 : n ≤ 9223372036854775807) (k : Int) (k0 : -9223372036854775808 ≤ k) (k1 : k ≤ 9223372036854775807) (w : World) :
    Calls Try.prog 7 #[.int .i64 n, .int .i64 k] w fun e w' => e = .returned (.bool true) ∧ Below w.heap.size w w' := by
  have hP := fun w => leb_PutS n w h0 h1
  have S := lebS_says 10 n (by omega) (roomS_start h0 h1)
  obtain ⟨S1, S2, S3⟩ := S
  have hlen0 := List.length_pos_iff.mpr S1.1
  generalize lebS 10 n = l0 at *
  have hne0 : ((l0.length : Int) == 0) = false := by
    have hz : l0 ≠ [] := S1.1
    simpa using hz
  have hmod : ∃ t, ((0 ≤ k ∧ k % 10 = t) ∨ (k < 0 ∧ k.tmod 10 = t)) ∧ -10 < t ∧ t < 10 := by
    by_cases hk : 0 ≤ k
    · exact ⟨k % 10, .inl ⟨hk, rfl⟩, by omega, by omega⟩
    · have ht := Int.tmod_eq_emod (a := k) (b := 10)
      refine ⟨k.tmod 10, .inr ⟨by omega, rfl⟩, ?_, ?_⟩
      · rw [ht]; split <;> omega
      · rw [ht]; split <;> omega
  obtain ⟨t, ht, t0, t1⟩ := hmod
  obtain ⟨m2, hm2⟩ : ∃ m2, (t + 10) % 10 = m2 := ⟨_, rfl⟩
  have m20 : 0 ≤ m2 := by omega
  have m21 : m2 ≤ 9 := by omega
  have H1 : Hid (Ends l0) := S1
  have H2 : Hid (gss l0 = n) := S2
  clear S1 S2
  rcases ht with ⟨hk, ht⟩ | ⟨hk, ht⟩
  all_goals
    go_enter Try.func7, Try.ntmps7
    go_wp2_with fail
    refine (hP _).mono ?_
    rintro e w1 ⟨v1, rfl, o1, b1⟩
    obtain ⟨a1, cap1, rfl, _⟩ := o1.slice
    go_wp2
    go_loopw [5, 6] (fun vb vi wr => ∃ (i : Nat) (l : List UInt8), i ≤ 10 ∧ vi = .int .i64 i ∧ l.length ≤ 10 ∧ Hid (Ends l) ∧ Hid (gss l = n) ∧ Own wr w.heap.size vb l ∧ Below w.heap.size w wr)
      (fun _ vi _ => 11 - (intOf vi).toNat)
    case atStart => exact ⟨0, l0, by omega, rfl, S3, H1, H2, o1, b1⟩
    case round =>
      obtain ⟨i, l, hi, rfl, hl10, HE, HG, hown, hbl⟩ := hrel
      obtain ⟨g, cap, rfl, gB, glt, k3, k4, hc, hfz⟩ := hown.form HE.out.1
      have hlp := List.length_pos_iff.mpr HE.out.1
      by_cases hgo : (i : Int) < m2 ∧ (l.length : Int) < 10
      · obtain ⟨g1, g2⟩ := hgo
        obtain ⟨ini, c, hlc, hc128, hgd, hini⟩ := ends_init HE.out
        have hcell := hc (l.length - 1) (by omega)
        have hce : l[l.length - 1]'(by omega) = c := by rw [← hgd]; simp [List.getD, List.getElem?_eq_getElem (show l.length - 1 < l.length by omega)]
        rw [hce] at hcell
        have hsoft := hfz (l.length - 1)
        have ho := or128c c
        have ha := and64 (c.toNat : Int) (by omega) (by omega)
        rw [show c.toNat % 128 = c.toNat by omega] at ho
        obtain ⟨d, hdd⟩ : ∃ d, b8 (c.toNat + 128) = d := ⟨_, rfl⟩
        rw [hdd] at ho
        have hset := own_set hown HE.out.1 (l.length - 1) (by omega) d
        have hls : l.set (l.length - 1) d = ini ++ [d] := by
          rw [hlc]; simp
        rw [hls] at hset
        have HLEN : Hid (l.length = ini.length + 1) := by rw [hlc]; simp [Hid]
        have HD : Hid (b8 (c.toNat + 128) = d) := hdd
        have HL : Hid (l = ini ++ [c]) := hlc
        have HI : Hid (∀ j, j < ini.length → ¬ (ini.getD j 0).toNat < 128) := hini
        have hl1 : (1 : Int) ≤ (l.length : Int) := by omega
        have bset : Below w.heap.size w (wr.setCell ⟨g, l.length - 1, none⟩ (.int .u8 (d.toNat : Int))) := hbl.setCell gB _
        clear hc hfz hlc hini hgd hce hdd hls
        by_cases h64 : 64 ≤ c.toNat
        · have hd64 : decide (64 ≤ (c.toNat : Int)) = true := by simp; omega
          rw [hd64] at ha
          clear hd64
          go_wp2_with (at_builtin; refine append_byte' rfl _ _ rfl w.heap.size _ _ (ini ++ [d]) _ hset 127 rfl rfl wr.heap.size (by simp) rfl (by simp; have := HLEN.out; omega) bset.size ?_)
          intro v' w2 q1 q2
          go_wp2
          go_roundw
          case rel =>
            refine ⟨i + 1, ini ++ [d] ++ [127], by omega, by go_num, by have := HLEN.out; simp; omega, ?_, ?_, by simpa using q1, bset.trans q2⟩
            · have := ends_grow (d := 127) HI.out hc128 (by decide)
              rw [HD.out] at this; exact this
            · have := gss_grow (i := ini) (d := 127) hc128 (.inl ⟨h64, rfl⟩)
              rw [HD.out, ← HL.out] at this
              exact this.trans HG.out
          case measure => simp [intOf]; omega
        · have hd64 : decide (64 ≤ (c.toNat : Int)) = false := by simp; omega
          rw [hd64] at ha
          clear hd64
          go_wp2_with (at_builtin; refine append_byte' rfl _ _ rfl w.heap.size _ _ (ini ++ [d]) _ hset 0 rfl rfl wr.heap.size (by simp) rfl (by simp; have := HLEN.out; omega) bset.size ?_)
          intro v' w2 q1 q2
          go_wp2
          go_roundw
          case rel =>
            refine ⟨i + 1, ini ++ [d] ++ [0], by omega, by go_num, by have := HLEN.out; simp; omega, ?_, ?_, by simpa using q1, bset.trans q2⟩
            · have := ends_grow (d := 0) HI.out hc128 (by decide)
              rw [HD.out] at this; exact this
            · have := gss_grow (i := ini) (d := 0) hc128 (.inr ⟨by omega, rfl⟩)
              rw [HD.out, ← HL.out] at this
              exact this.trans HG.out
          case measure => simp [intOf]; omega
      · have hARG := hown.arg (by omega)
        have W := ends_whole (m := []) HE.out hl10
        have SR := S_reads (m := []) HE.out hl10 HG.out h0 h1
        rw [List.append_nil] at W SR
        have hor : ((i : Int) < m2 ∧ ¬ (l.length : Int) < 10) ∨ ¬ (i : Int) < m2 := by omega
        clear hc hfz hgo
        rcases hor with ⟨e1, e2⟩ | e1
        all_goals
          go_wp2_with fail
          refine (leb_Read l _ _ hARG).mono ?_
          rintro e w2 ⟨R, rfl, hr2, hR, hb2⟩
          have q2 := hbl.trans (hb2.mono hbl.size)
          have hRB : w.heap.size ≤ R := Nat.le_trans hbl.size hR
          have hS := leb_S_yes R l 0 w2 hr2 W.1 SR.1
          rw [W.2.1, SR.2, W.2.2.2] at hS
          go_wp2_with fail
          refine hS.mono ?_
          rintro e w3 ⟨rfl, hr3, hg3⟩
          have q3 := q2.grown hg3 q2.size (fun k hk => by simp at hk; omega)
          go_wp2_with fail
          refine (leb_Fail R _ _ _ hr3).mono ?_
          rintro e w4 ⟨rfl, rfl⟩
          go_wp2_with fail
          refine (leb_Left R _ _ _ hr3).mono ?_
          rintro e w4 ⟨rfl, rfl⟩
          go_wp2_with fail
          refine (alive03 _).mono ?_
          rintro e w5 ⟨rfl, b5⟩
          go_wp2
          go_ret
          exact ⟨rfl, q3.trans (b5.mono q3.size)⟩
theorem walk (a0 : Int) (w0 : (Lit.int .i64 a0).wf = true) (a1 : Int) (w1 : (Lit.int .i64 a1).wf = true) (w : World) :
    Calls Try.prog 7 #[.int .i64 a0, .int .i64 a1] w fun e w' => e = .returned (.bool true) ∧ Below w.heap.size w w' := by
  obtain ⟨h0, h1⟩ := bounds_i64 w0
  obtain ⟨h2, h3⟩ := bounds_i64 w1
  exact core a0 h0 h1 a1 h2 h3 w
theorem own : ownKnob Try.prog.godebug = none := by kernel_rfl
theorem laidOut : laidOutB Try.prog = true := by kernel_rfl
set_option maxRecDepth 100000 in
theorem lifted (os : Os) (started : os.Started) (H : Type) (enc : TypeId × Value → H) :
    ReturnsInHanded {} Try.checked os 7 .any (Rows.lebLongSpec.pre6 enc Try.prog Try.f7 Rows.lebLongRow.domain false) (Rows.lebLongSpec.post enc Try.prog Try.f7 false true false false) := by
  refine returnsInHanded_of_change (C := Try.checked) own started (by kernel_rfl) Try.func7
    (ChangeSpec.witness6 (enc := enc) (C := Try.checked) false ⟨#[], #[.int .i64 0, .int .i64 0], []⟩ 8 (by kernel_rfl) (by kernel_rfl) (by kernel_rfl) (by kernel_rfl)) ?_
  intro W base args ds gs before hval0 hW hcnd _
  have hval : ∀ (j : Nat) t v, Try.f7.params[j]? = some t → args[j]? = some v → Value.okWide Try.prog W .any base t v := hval0
  have hW' := hW
  obtain ⟨p, q, hA0, hV, rfl, hfz, hnd⟩ := hW
  have hA : DataW.TrodAll enc Try.prog W 0 (fun _ => true) true Try.f7.params.toList args.toList ds p := hA0
  rw [Try.params7] at hA hval
  obtain ⟨v0, vs0, d0, ds0, p0, q0, hargs, rfl, rfl, h0, r0⟩ := trodAll_cons hA
  obtain ⟨v1, vs1, d1, ds1, p1, q1, rfl, rfl, rfl, h1, r1⟩ := trodAll_cons r0
  obtain ⟨rfl, rfl, rfl⟩ := trodAll_nil r1
  obtain rfl : args = #[v0, v1] := by cases args; simp_all
  obtain ⟨rfl, rfl⟩ := trodVars_none hV
  have k0 := h0
  have lt0 : ∀ x ∈ p0, x.block < W.heap.size := by obtain ⟨m, hm⟩ := k0; exact DataW.trod_lt m _ _ _ hm
  have k1 := h1
  have lt1 : ∀ x ∈ p1, x.block < W.heap.size := by obtain ⟨m, hm⟩ := k1; exact DataW.trod_lt m _ _ _ hm
  obtain ⟨a0, rfl, rfl, rfl, w0⟩ := open_int Try.underlying2 (hval 0 2 v0 rfl rfl) h0
  obtain ⟨a1, rfl, rfl, rfl, w1⟩ := open_int Try.underlying3 (hval 1 3 v1 rfl rfl) h1
  clear hA0 hval0
  refine (walk a0 w0 a1 w1 W).mono fun e W' ⟨he, bel⟩ => ?_
  subst he
  exact ⟨_, rfl, _, _, _, [], _, [], hW', trodAll_mk1 (shut_bool Try.underlying4 _), (trodAll_cons_mk (Below.trod laidOut (by kernel_rfl) (of_decide_eq_true (by kernel_rfl)) k0 bel lt0) (trodAll_cons_mk (Below.trod laidOut (by kernel_rfl) (of_decide_eq_true (by kernel_rfl)) k1 bel lt1) trodAll_mk0)), rfl, bel.frame _, fun h => by cases h⟩

theorem over : Rows.lebLongRow.holds Try.pinned (OpenSpec.ofChange Rows.lebLongSpec) :=
  OpenClaim.holds_of_wide 7 Try.f7 rfl rfl rfl rfl rfl rfl rfl ⟨rfl, rfl, rfl, rfl, rfl⟩ rfl rfl rfl rfl rfl (by kernel_rfl) Try.func7 (by kernel_rfl)
    (of_decide_eq_true (by kernel_rfl)) (by unfold Func.isWrapper; first | (rw [if_pos (by decide +kernel)]; kernel_rfl) | (rw [if_neg (by decide +kernel)]; exact ⟨rfl, rfl⟩))
    (fun os started H enc _ => lifted os started H enc)
end LLebLong
theorem LebLong_proved : Rows.LebLongSaid := LLebLong.over
end Go.Proofs.Ytbpajkoaeopnfac
