
/-
  RelsBack returns true for any row of relocations, any row of bytes and both kinds of list, and the rows read afterwards as they read before: no condition.
-/
import Derived.Test.YtkelipoiopkokaaRows
import Derived.Test.YtkelipoiopkokaaRlJ
import Derived.WalkKit
import Derived.ProofKit
import Derived.OpenShut
import Derived.ShutString
import Derived.ChangeOld
import Derived.Below
set_option linter.unusedVariables false
namespace Go.Proofs.Ytkelipoiopkokaa
namespace LRelsBack
open Go.ChangeShapes Go.WideShapes Go.ChangeAt Go.RowKit Go.PlainAid Go.Sort
open Classical
theorem enc_len {l : List Rl} {rela : Bool} {x : List UInt8} (hx : encR l rela = some x) : x.length ≤ 100000 := by
  unfold encR at hx
  split at hx
  · rename_i hc
    injection hx with hx
    have := flat_short (l := l) hc.1 l.length
    rw [List.take_length] at this
    rw [← hx]; omega
  · cases hx
theorem rels_nil (rela : Bool) : relsZ [] rela = some [] := by cases rela <;> kernel_rfl
set_option maxHeartbeats 4000000 in
set_option maxRecDepth 20000 in
theorem core (w : World) (v u : Value) (l : List Rl) (b : List UInt8) (h : ArgR w v l) (hb : Arg w u b) (hl : l.length ≤ 1000) (hbl : b.length ≤ 20000) (rela : Bool) :
    Calls Try.prog 5 #[v, u, .bool rela] w fun e w' => e = .returned (.bool true) ∧ Below w.heap.size w w' := by
  have HA := hide h
  have HU := hide hb
  have hT := rels_Encode w v l h rela (by omega)
  have HZ := hide (fun W hW => rels_Decode W u b hW rela (by omega))
  have HZA := hide (fun L => rels_again b rela L)
  have HZO := hide (fun L => relsZ_ok (l := b) (rela := rela) (L := L))
  have HBK := hide (fun x hx => rels_back l rela x h.1 hx)
  have HEL := hide (fun x => enc_len (l := l) (rela := rela) (x := x))
  obtain ⟨a, cap, rfl, _⟩ := h.form
  obtain ⟨ua, ucap, rfl, _⟩ := hb.isSlice
  obtain ⟨n, hn⟩ : ∃ n, l.length = n := ⟨_, rfl⟩
  obtain ⟨k, hk⟩ : ∃ k, b.length = k := ⟨_, rfl⟩
  rw [hn] at hl hT HA ⊢
  rw [hk] at hbl HU HZ ⊢
  have hnI : ¬ (1000 : Int) < (n : Int) := by omega
  have hkI : ¬ (20000 : Int) < (k : Int) := by omega
  clear h hb hn hk
  have HAL := hide alive12
  have SECOND : ∀ w1, Below w.heap.size w w1 → ∃ z g Z, Hid (Calls Try.prog 7 #[.slice ua k ucap, .bool rela] w1 fun e w' => (∃ v, e = .returned (.tuple #[v, .int .i64 z]) ∧ ArgR w' v Z) ∧ Below w1.heap.size w1 w') ∧
      ((z = 120 ∧ Z = [] ∧ g = false) ∨ (z = 0 ∧ g = true ∧ encR Z rela = some b ∧ Z.length ≤ 512)) := by
    intro w1 hb1
    have hD := HZ.out w1 (HU.out.below' hb1)
    cases hO : relsZ b rela with
    | none =>
      rw [hO] at hD
      refine ⟨120, false, [], ?_, .inl ⟨rfl, rfl, rfl⟩⟩
      refine hD.mono ?_
      rintro e w' ⟨he, hb⟩
      exact ⟨⟨_, he, nilR _⟩, hb⟩
    | some L =>
      rw [hO] at hD
      have k1 := HZO.out L hO
      refine ⟨0, true, L, ?_, .inr ⟨rfl, rfl, HZA.out L hO, k1.2.1⟩⟩
      refine hD.mono ?_
      rintro e w' ⟨⟨v, he, ho⟩, hb⟩
      exact ⟨⟨_, he, ho.arg k1.1⟩, hb⟩
  have HSEC := hide SECOND
  clear SECOND HZ HZA HZO
  go_enter Try.func5, Try.ntmps5
  go_wp2_with fail
  refine hT.mono ?_
  rintro e w1 ⟨hE, hb1⟩
  have HB1 := hide hb1
  obtain ⟨O, hO⟩ : ∃ O, encR l rela = O := ⟨_, rfl⟩
  rw [hO] at hE
  clear hT hb1
  obtain ⟨x, q, L, hq, hx⟩ : ∃ (x : List UInt8) (q : Int) (L : List Rl), relsZ x rela = some L ∧ ((O = none ∧ x = [] ∧ q = 120) ∨ (O = some x ∧ q = 0 ∧ L = l ∧ x.length ≤ 100000)) := by
    cases O with
    | none => exact ⟨[], 120, [], rels_nil rela, .inl ⟨rfl, rfl, rfl⟩⟩
    | some x => exact ⟨x, 0, l, HBK.out x hO, .inr ⟨rfl, rfl, rfl, HEL.out x hO⟩⟩
  have hxl : x.length ≤ 100000 := by
    rcases hx with ⟨_, rfl, _⟩ | ⟨_, _, _, h⟩
    · simp
    · exact h
  obtain ⟨v1, hE1, hA1⟩ : ∃ v1, e = .returned (.tuple #[v1, .int .i64 q]) ∧ Arg w1 v1 x := by
    rcases hx with ⟨rfl, rfl, rfl⟩ | ⟨rfl, rfl, _⟩
    · exact ⟨_, hE, nilA _⟩
    · obtain ⟨v1, e1, o1⟩ := hE
      exact ⟨v1, e1, o1.arg (by omega)⟩
  subst hE1
  have hD := rels_Decode w1 v1 x hA1 rela (by omega)
  rw [hq] at hD
  have hok := (relsZ_ok hq).1
  obtain ⟨xa, xc, rfl, _⟩ := hA1.isSlice
  clear hE hA1 hO
  go_wp2_with fail
  refine hD.mono ?_
  rintro e w2 ⟨⟨v2, rfl, o2⟩, hb2⟩
  have HB2 : Hid (Below w.heap.size w w2) := HB1.out.trans (hb2.mono HB1.out.size)
  have HA2 := hide (o2.arg hok)
  clear hD o2 hb2 hok hq
  rcases hx with ⟨_, rfl, rfl⟩ | ⟨_, rfl, rfl, _⟩
  · obtain ⟨z, g, Z, hZc, hz⟩ := HSEC.out w2 HB2.out
    clear HSEC
    simp only [List.length_nil] at *
    go_wp2_with fail
    refine hZc.out.mono ?_
    rintro e w5 ⟨⟨v5, rfl, ha5⟩, hb5⟩
    have HB5 : Hid (Below w.heap.size w w5) := HB2.out.trans (hb5.mono HB2.out.size)
    have HA5 := hide ha5
    clear hZc ha5 hb5
    obtain ⟨a5, c5, rfl, _⟩ := HA5.out.form
    rcases hz with ⟨rfl, rfl, rfl⟩ | ⟨rfl, rfl, hEnc, hZl⟩
    · simp only [List.length_nil] at *
      have hAl := HAL.out w5
      go_wp2_with fail
      refine hAl.mono ?_
      rintro e w6 ⟨rfl, hb6⟩
      have HB6 : Hid (Below w.heap.size w w6) := HB5.out.trans (hb6.mono HB5.out.size)
      clear hAl hb6
      go_wp2
      go_ret
      exact ⟨rfl, HB6.out⟩
    · have hE5 := rels_Encode w5 _ Z HA5.out rela (by omega)
      rw [hEnc] at hE5
      obtain ⟨zl, hzl2⟩ : ∃ zl, Z.length = zl := ⟨_, rfl⟩
      rw [hzl2] at hE5 ⊢
      clear hEnc hZl hzl2
      go_wp2_with fail
      refine hE5.mono ?_
      rintro e w6 ⟨⟨v6, rfl, o6⟩, hb6⟩
      have HB6 : Hid (Below w.heap.size w w6) := HB5.out.trans (hb6.mono HB5.out.size)
      have hA6 := o6.arg (by omega)
      have t1 := hA6.text
      have t2 := (HU.out.below' HB6.out).text
      obtain ⟨a6, c6, rfl, _⟩ := hA6.isSlice
      have hAl := HAL.out w6
      clear hE5 o6 hb6 hA6
      generalize b.length = bl at *
      generalize b.toArray = BA at *
      go_wp2_with fail
      refine hAl.mono ?_
      rintro e w7 ⟨rfl, hb7⟩
      have HB7 : Hid (Below w.heap.size w w7) := HB6.out.trans (hb7.mono HB6.out.size)
      clear hAl hb7
      go_wp2
      go_ret
      exact ⟨rfl, HB7.out⟩
  · have hS := ref12_Same w2 _ _ L L HA2.out (HA.out.below HB2.out)
    rw [show decide (L = L) = true by simp] at hS
    obtain ⟨xl, hxl2⟩ : ∃ xl, x.length = xl := ⟨_, rfl⟩
    rw [hxl2]
    clear hxl2 hxl
    go_wp2_with fail
    refine hS.mono ?_
    rintro e w3 ⟨rfl, hb3⟩
    have HB3 : Hid (Below w.heap.size w w3) := HB2.out.trans (hb3.mono HB2.out.size)
    obtain ⟨z, g, Z, hZc, hz⟩ := HSEC.out w3 HB3.out
    clear HSEC hS hb3
    go_wp2_with fail
    refine hZc.out.mono ?_
    rintro e w5 ⟨⟨v5, rfl, ha5⟩, hb5⟩
    have HB5 : Hid (Below w.heap.size w w5) := HB3.out.trans (hb5.mono HB3.out.size)
    have HA5 := hide ha5
    clear hZc ha5 hb5
    obtain ⟨a5, c5, rfl, _⟩ := HA5.out.form
    rcases hz with ⟨rfl, rfl, rfl⟩ | ⟨rfl, rfl, hEnc, hZl⟩
    · simp only [List.length_nil] at *
      have hAl := HAL.out w5
      go_wp2_with fail
      refine hAl.mono ?_
      rintro e w6 ⟨rfl, hb6⟩
      have HB6 : Hid (Below w.heap.size w w6) := HB5.out.trans (hb6.mono HB5.out.size)
      clear hAl hb6
      go_wp2
      go_ret
      exact ⟨rfl, HB6.out⟩
    · have hE5 := rels_Encode w5 _ Z HA5.out rela (by omega)
      rw [hEnc] at hE5
      obtain ⟨zl, hzl2⟩ : ∃ zl, Z.length = zl := ⟨_, rfl⟩
      rw [hzl2] at hE5 ⊢
      clear hEnc hZl hzl2
      go_wp2_with fail
      refine hE5.mono ?_
      rintro e w6 ⟨⟨v6, rfl, o6⟩, hb6⟩
      have HB6 : Hid (Below w.heap.size w w6) := HB5.out.trans (hb6.mono HB5.out.size)
      have hA6 := o6.arg (by omega)
      have t1 := hA6.text
      have t2 := (HU.out.below' HB6.out).text
      obtain ⟨a6, c6, rfl, _⟩ := hA6.isSlice
      have hAl := HAL.out w6
      clear hE5 o6 hb6 hA6
      generalize b.length = bl at *
      generalize b.toArray = BA at *
      go_wp2_with fail
      refine hAl.mono ?_
      rintro e w7 ⟨rfl, hb7⟩
      have HB7 : Hid (Below w.heap.size w w7) := HB6.out.trans (hb7.mono HB6.out.size)
      clear hAl hb7
      go_wp2
      go_ret
      exact ⟨rfl, HB7.out⟩
theorem walk (w : World) (s0 : Option Addr) (len0 cap0 : Nat) (h : IsRels w s0 len0 cap0) (s1 : Option Addr) (len1 cap1 : Nat) (z1 : List Int) (h1 : IsRow .u8 w s1 len1 cap1 z1) (rela : Bool) :
    Calls Try.prog 5 #[.slice s0 len0 cap0, .slice s1 len1 cap1, .bool rela] w fun e w' => e = .returned (.bool true) ∧ Below w.heap.size w w' := by
  obtain ⟨p1, p2, l, rfl, ha⟩ := h
  unfold maxLen at p2
  have hlm : len1 ≤ 9223372036854775807 := by
    rcases h1 with ⟨_, rfl, _⟩ | ⟨_, _, h1, h2, _⟩
    · omega
    · unfold maxLen at h2; omega
  by_cases hl : l.length ≤ 1000 ∧ len1 ≤ 20000
  · obtain ⟨e, hb⟩ := h1.arg (by omega)
    exact core w _ _ _ _ ha hb hl.1 (by omega) rela
  · have HBR : Hid (Below w.heap.size w w) := Below.refl _ _
    clear ha h1
    generalize l.length = n at *
    by_cases hn : n ≤ 1000
    · have hnI : ¬ (1000 : Int) < (n : Int) := by omega
      have hkI : (20000 : Int) < (len1 : Int) := by omega
      clear hl
      go_enter Try.func5, Try.ntmps5
      go_wp2
      go_ret
      exact ⟨rfl, HBR.out⟩
    · have hnI : (1000 : Int) < (n : Int) := by omega
      clear hl
      go_enter Try.func5, Try.ntmps5
      go_wp2
      go_ret
      exact ⟨rfl, HBR.out⟩
theorem own : ownKnob Try.prog.godebug = none := by kernel_rfl
theorem laidOut : laidOutB Try.prog = true := by kernel_rfl
set_option maxRecDepth 100000 in
theorem lifted (os : Os) (started : os.Started) (H : Type) (enc : TypeId × Value → H) :
    ReturnsInHanded {} Try.checked os 5 .any (Rows.relsBackSpec.pre6 enc Try.prog Try.f5 Rows.relsBackRow.domain false) (Rows.relsBackSpec.post enc Try.prog Try.f5 false true false false) := by
  refine returnsInHanded_of_change (C := Try.checked) own started (by kernel_rfl) Try.func5
    (ChangeSpec.witness6 (enc := enc) (C := Try.checked) false ⟨#[], #[.slice none 0 0, .slice none 0 0, .bool false], []⟩ 8 (by kernel_rfl) (by kernel_rfl) (by kernel_rfl) (by kernel_rfl)) ?_
  intro W base args ds gs before hval0 hW hcnd _
  have hval : ∀ (j : Nat) t v, Try.f5.params[j]? = some t → args[j]? = some v → Value.okWide Try.prog W .any base t v := hval0
  have hW' := hW
  obtain ⟨p, q, hA0, hV, rfl, hfz, hnd⟩ := hW
  have hA : DataW.TrodAll enc Try.prog W 0 (fun _ => true) true Try.f5.params.toList args.toList ds p := hA0
  rw [Try.params5] at hA hval
  obtain ⟨v0, vs0, d0, ds0, p0, q0, hargs, rfl, rfl, h0, r0⟩ := trodAll_cons hA
  obtain ⟨v1, vs1, d1, ds1, p1, q1, rfl, rfl, rfl, h1, r1⟩ := trodAll_cons r0
  obtain ⟨v2, vs2, d2, ds2, p2, q2, rfl, rfl, rfl, h2, r2⟩ := trodAll_cons r1
  obtain ⟨rfl, rfl, rfl⟩ := trodAll_nil r2
  obtain rfl : args = #[v0, v1, v2] := by cases args; simp_all
  obtain ⟨rfl, rfl⟩ := trodVars_none hV
  have k0 := h0
  have lt0 : ∀ x ∈ p0, x.block < W.heap.size := by obtain ⟨m, hm⟩ := k0; exact DataW.trod_lt m _ _ _ hm
  have k1 := h1
  have lt1 : ∀ x ∈ p1, x.block < W.heap.size := by obtain ⟨m, hm⟩ := k1; exact DataW.trod_lt m _ _ _ hm
  have k2 := h2
  have lt2 : ∀ x ∈ p2, x.block < W.heap.size := by obtain ⟨m, hm⟩ := k2; exact DataW.trod_lt m _ _ _ hm
  obtain ⟨s0, len0, cap0, rfl⟩ := okWide_slice Try.underlying23 (hval 0 23 v0 rfl rfl)
  have w0 := isOps_of h0
  obtain ⟨s1, len1, cap1, rfl⟩ := okWide_slice Try.underlying22 (hval 1 22 v1 rfl rfl)
  obtain ⟨z1, w1⟩ : ∃ zs, IsRow .u8 W s1 len1 cap1 zs := by
    obtain ⟨fuel, hf⟩ := h1
    rcases open_ints Try.underlying22 Try.underlying5 (by kernel_rfl) hf with ⟨hcs, _⟩ | ⟨x, l, c, zs, hcs, _, hl, hm, hz, _, hcell, hwz⟩
    · simp [Value.cells] at hcs
      obtain ⟨rfl, rfl, rfl⟩ := hcs
      exact ⟨[], .inl ⟨rfl, rfl, rfl, rfl⟩⟩
    · simp [Value.cells] at hcs
      obtain ⟨rfl, rfl, rfl⟩ := hcs
      exact ⟨zs, .inr ⟨_, rfl, hl, hm, by simpa using hz, hcell, hwz⟩⟩
  obtain ⟨a2, rfl, rfl, rfl⟩ := open_bool Try.underlying4 (hval 2 4 v2 rfl rfl) h2
  clear hA0 hval0
  refine (walk W s0 len0 cap0 w0 s1 len1 cap1 z1 w1 a2).mono fun e W' ⟨he, bel⟩ => ?_
  subst he
  exact ⟨_, rfl, _, _, _, [], _, [], hW', trodAll_mk1 (shut_bool Try.underlying4 _), (trodAll_cons_mk (Below.trod laidOut (by kernel_rfl) (of_decide_eq_true (by kernel_rfl)) k0 bel lt0) (trodAll_cons_mk (Below.trod laidOut (by kernel_rfl) (of_decide_eq_true (by kernel_rfl)) k1 bel lt1) (trodAll_cons_mk (Below.trod laidOut (by kernel_rfl) (of_decide_eq_true (by kernel_rfl)) k2 bel lt2) trodAll_mk0))), rfl, bel.frame _, fun h => by cases h⟩

theorem over : Rows.relsBackRow.holds Try.pinned (OpenSpec.ofChange Rows.relsBackSpec) :=
  OpenClaim.holds_of_wide 5 Try.f5 rfl rfl rfl rfl rfl rfl rfl ⟨rfl, rfl, rfl, rfl, rfl⟩ rfl rfl rfl rfl rfl (by kernel_rfl) Try.func5 (by kernel_rfl)
    (of_decide_eq_true (by kernel_rfl)) (by unfold Func.isWrapper; first | (rw [if_pos (by decide +kernel)]; kernel_rfl) | (rw [if_neg (by decide +kernel)]; exact ⟨rfl, rfl⟩))
    (fun os started H enc _ => lifted os started H enc)
end LRelsBack
theorem RelsBack_proved : Rows.RelsBackSaid := LRelsBack.over
end Go.Proofs.Ytkelipoiopkokaa
