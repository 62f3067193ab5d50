
/-
  ZipWithin returns true for every row of bytes and every name, and the row reads afterwards as it read before: no condition.
-/
import Derived.Test.YtegcdddfccmljabRows
import Derived.Test.YtegcdddfccmljabZpM
import Derived.WalkKit
import Derived.ProofKit
import Derived.OpenShut
import Derived.ShutString
import Derived.ChangeOld
import Derived.Below
set_option linter.unusedVariables false
namespace Go.Proofs.Ytegcdddfccmljab
namespace LZipWithin
open Go.ChangeShapes Go.WideShapes Go.ChangeAt Go.RowKit
open Go.ChangeMaps (open_string shut_string)
/-- What is found, and what List says. -/
theorem says (l nm : List UInt8) :
    ((findZ l nm).2.2 ≠ 0 ∧ (findZ l nm).1 = 0 ∧ (findZ l nm).2.1 = 0 ∧ (readZ l = none → (findZ l nm).2.2 = 70)) ∨
    ∃ es f e, readZ l = some (es, f) ∧ es.find? (named nm) = some e ∧ e.method = 0 ∧ (findZ l nm).2.2 = 0 ∧ (findZ l nm).1 % 256 = 0 ∧ (findZ l nm).2.1 = e.size ∧ e.pos < (findZ l nm).1 ∧ (findZ l nm).1 + e.size ≤ l.length := by
  unfold findZ
  cases hR : readZ l with
  | none => exact .inl ⟨by dsimp only; decide, rfl, rfl, fun _ => rfl⟩
  | some y =>
    obtain ⟨es, f⟩ := y
    dsimp only
    cases hF : es.find? (named nm) with
    | none => exact .inl ⟨by dsimp only; decide, rfl, rfl, fun h => by cases h⟩
    | some e =>
      dsimp only
      by_cases hm : e.method = 0
      · rw [if_pos hm]
        cases hB : beginZ (win l 0 f) e with
        | none => exact .inl ⟨by dsimp only; decide, rfl, rfl, fun h => by cases h⟩
        | some a =>
          dsimp only
          by_cases ha : a % 256 = 0
          · rw [if_pos ha]
            obtain ⟨h1, h2⟩ := beginZ_le hB
            have h3 : (win l 0 f).length ≤ l.length := by unfold win; simp; omega
            exact .inr ⟨es, f, e, rfl, hF, hm, rfl, ha, rfl, h2, by dsimp only; omega⟩
          · rw [if_neg ha]
            exact .inl ⟨by dsimp only; decide, rfl, rfl, fun h => by cases h⟩
      · rw [if_neg hm]
        exact .inl ⟨by dsimp only; decide, rfl, rfl, fun h => by cases h⟩
theorem find_drop {p : En → Bool} {es : List En} {i : Nat} (h : i < es.length) : (es.drop i).find? p = if p es[i] = true then some es[i] else (es.drop (i + 1)).find? p := by
  rw [List.drop_eq_getElem_cons h, List.find?_cons]
  cases p es[i] <;> simp
set_option maxHeartbeats 4000000 in
set_option maxRecDepth 20000 in
theorem core (w : World) (v : Value) (l nm : List UInt8) (h : Arg w v l) (hl : l.length ≤ 263144) :
    Calls Try.prog 3 #[v, .string ⟨nm.toArray⟩] w fun e w' => e = .returned (.bool true) ∧ Below w.heap.size w w' := by
  have HA := hide h
  have hF := zip_Find w v l nm h
  obtain ⟨a, cap, rfl, _⟩ := h.isSlice
  have hS := says l nm
  obtain ⟨n, hn⟩ : ∃ n, l.length = n := ⟨_, rfl⟩
  have hnI : ¬ (263144 : Int) < (n : Int) := by omega
  have hRO := fun es f => readZ_ok (l := l) (es := es) (f := f)
  obtain ⟨P, hP⟩ : ∃ P, findZ l nm = P := ⟨_, rfl⟩
  obtain ⟨RZ, hRZ⟩ : ∃ R, readZ l = R := ⟨_, rfl⟩
  have HLS := hide (fun W hW => zip_List W (.slice a l.length cap) l hW)
  rw [hP] at hF hS
  rw [hRZ] at hS HLS hRO
  obtain ⟨p, s, c⟩ := P
  simp only [findV] at hF hS
  rw [hn] at hF hS HLS HA hl ⊢
  have HRO := hide hRO
  clear h hn hP hRZ hRO
  go_enter Try.func3, Try.ntmps3
  go_wp2_with fail
  refine hF.mono ?_
  rintro e w1 ⟨rfl, hb1⟩
  have HB1 := hide hb1
  have hLL := HLS.out w1 (HA.out.below hb1 rfl)
  clear hb1 hF HLS
  go_wp2_with fail
  refine hLL.mono ?_
  rintro e w2 ⟨hE, hb2⟩
  have HB2 : Hid (Below w.heap.size w w2) := HB1.out.trans (hb2.mono HB1.out.size)
  clear hb2 hLL HB1
  have hAl := alive07 w2
  rcases hS with ⟨hc, rfl, rfl, h70⟩ | ⟨es, f, e, rfl, h1, h2, rfl, h4, rfl, h6, h7⟩
  · have hcb : (c != 0) = true := by simpa using hc
    cases RZ with
    | none =>
      obtain rfl := h70 rfl
      have hE' : e = _ := hE
      subst hE'
      clear hE h70 hc
      go_wp2_with fail
      refine hAl.mono ?_
      rintro e w3 ⟨rfl, hb3⟩
      go_wp2
      go_ret
      exact ⟨rfl, HB2.out.trans (hb3.mono HB2.out.size)⟩
    | some y =>
      obtain ⟨es, f⟩ := y
      obtain ⟨v2, rfl, _⟩ := hE
      clear h70 hc
      go_wp2_with fail
      refine hAl.mono ?_
      rintro e w3 ⟨rfl, hb3⟩
      go_wp2
      go_ret
      exact ⟨rfl, HB2.out.trans (hb3.mono HB2.out.size)⟩
  · obtain ⟨v2, rfl, hown⟩ := hE
    obtain ⟨hok, hlen⟩ := HRO.out es f rfl
    have H1 := hide h1
    have hkk : e ∈ es := List.mem_of_find?_eq_some h1
    have hs := (hok e hkk).s
    have hne : 0 < es.length := List.length_pos_of_mem hkk
    obtain ⟨g, cap', rfl, hc1, hc2, hg, hcc⟩ := hown.cells hne
    have hcap : cap' ≤ 9223372036854775807 := by unfold maxLen at hc2; omega
    have HCC := hide hcc
    have h4b : (((p : Int) % 256) != 0) = false := by simp; omega
    have h7I : (p : Int) + (e.size : Int) ≤ (n : Int) := by omega
    have h7D : decide ((n : Int) < (p : Int)) = false := decide_eq_false (by omega)
    have h7E : decide ((n : Int) - (p : Int) < (e.size : Int)) = false := decide_eq_false (by omega)
    have h6I : (e.pos : Int) < (p : Int) := by omega
    have H2 := hide h2
    clear h1 h2 hcc hown hok hkk h4 HRO
    go_wp2
    go_loopw [10] (fun v10 wr => wr = w2 ∧ ∃ i : Nat, i ≤ es.length ∧ v10 = .int .i64 i ∧ Hid ((es.drop i).find? (named nm) = some e)) (fun v10 _ => es.length - (intOf v10).toNat)
    case atStart => exact ⟨rfl, 0, by omega, rfl, H1⟩
    case round =>
      obtain ⟨rfl, i, hi, rfl, HF⟩ := hrel
      by_cases hlt : i < es.length
      · have hltI : (i : Int) < (es.length : Int) := by omega
        obtain ⟨k0, k1, k2, k3, k4⟩ := HCC.out i hlt
        have hF := HF.out
        rw [find_drop hlt] at hF
        unfold named at hF
        cases hp : (es[i].name == nm) with
        | true =>
          rw [if_pos hp] at hF
          simp only [Option.some.injEq] at hF
          have hm := H2.out
          rw [← hF] at hm h6I hs h7I h7E
          have hmb : ((es[i].method : Int) == 0) = true := by rw [hm]; rfl
          have hsb : ((es[i].size : Int) == (es[i].size : Int)) = true := by simp
          subst hF
          clear HF h7I h7E
          generalize es[i] = y at *
          go_wp2_with (go_at_call 7; refine hAl.mono ?_; rintro e w3 ⟨rfl, hb3⟩)
          go_ret
          exact ⟨rfl, HB2.out.trans (hb3.mono HB2.out.size)⟩
        | false =>
          rw [if_neg (by rw [hp]; simp)] at hF
          have HF2 : Hid ((es.drop (i + 1)).find? (named nm) = some e) := hF
          clear HF hF k1 k2 k3 k4
          generalize es[i] = y at *
          go_wp2
          go_roundw
          case rel => exact ⟨trivial, i + 1, by omega, by go_num, HF2⟩
          case measure => simp [intOf]; omega
      · have hie : i = es.length := by omega
        have hF := HF.out
        rw [hie, List.drop_length] at hF
        simp at hF
theorem walk (w : World) (s0 : Option Addr) (len0 cap0 : Nat) (z0 : List Int) (h : IsRow .u8 w s0 len0 cap0 z0) (p : ByteArray) (hp : p.size ≤ maxLen) :
    Calls Try.prog 3 #[.slice s0 len0 cap0, .string p] w fun e w' => e = .returned (.bool true) ∧ Below w.heap.size w w' := by
  by_cases hl : len0 ≤ 263144
  · obtain ⟨e, ha⟩ := h.arg (by omega)
    have e1 : p = ⟨p.data.toList.toArray⟩ := by cases p; simp
    rw [e1]
    exact core w _ _ _ ha (by omega)
  · have hl2 : (263144 : Int) < (len0 : Int) := by omega
    have HBR : Hid (Below w.heap.size w w) := Below.refl _ _
    have hlm : len0 ≤ 9223372036854775807 := by
      rcases h with ⟨_, rfl, _⟩ | ⟨_, _, h1, h2, _⟩
      · omega
      · unfold maxLen at h2; omega
    clear h
    go_enter Try.func3, Try.ntmps3
    go_wp2
    go_ret
    exact ⟨rfl, HBR.out⟩
theorem own : ownKnob Try.prog.godebug = none := by kernel_rfl
theorem laidOut : laidOutB Try.prog = true := by kernel_rfl
set_option maxRecDepth 100000 in
theorem lifted (os : Os) (started : os.Started) (H : Type) (enc : TypeId × Value → H) :
    ReturnsInHanded {} Try.checked os 3 .any (Rows.zipWithinSpec.pre6 enc Try.prog Try.f3 Rows.zipWithinRow.domain false) (Rows.zipWithinSpec.post enc Try.prog Try.f3 false true false false) := by
  refine returnsInHanded_of_change (C := Try.checked) own started (by kernel_rfl) Try.func3
    (ChangeSpec.witness6 (enc := enc) (C := Try.checked) false ⟨#[], #[.slice none 0 0, .string ByteArray.empty], []⟩ 8 (by kernel_rfl) (by kernel_rfl) (by kernel_rfl) (by kernel_rfl)) ?_
  intro W base args ds gs before hval0 hW hcnd _
  have hval : ∀ (j : Nat) t v, Try.f3.params[j]? = some t → args[j]? = some v → Value.okWide Try.prog W .any base t v := hval0
  have hW' := hW
  obtain ⟨p, q, hA0, hV, rfl, hfz, hnd⟩ := hW
  have hA : DataW.TrodAll enc Try.prog W 0 (fun _ => true) true Try.f3.params.toList args.toList ds p := hA0
  rw [Try.params3] at hA hval
  obtain ⟨v0, vs0, d0, ds0, p0, q0, hargs, rfl, rfl, h0, r0⟩ := trodAll_cons hA
  obtain ⟨v1, vs1, d1, ds1, p1, q1, rfl, rfl, rfl, h1, r1⟩ := trodAll_cons r0
  obtain ⟨rfl, rfl, rfl⟩ := trodAll_nil r1
  obtain rfl : args = #[v0, v1] := by cases args; simp_all
  obtain ⟨rfl, rfl⟩ := trodVars_none hV
  have k0 := h0
  have lt0 : ∀ x ∈ p0, x.block < W.heap.size := by obtain ⟨m, hm⟩ := k0; exact DataW.trod_lt m _ _ _ hm
  have k1 := h1
  have lt1 : ∀ x ∈ p1, x.block < W.heap.size := by obtain ⟨m, hm⟩ := k1; exact DataW.trod_lt m _ _ _ hm
  obtain ⟨s0, len0, cap0, rfl⟩ := okWide_slice Try.underlying22 (hval 0 22 v0 rfl rfl)
  obtain ⟨z0, w0⟩ : ∃ zs, IsRow .u8 W s0 len0 cap0 zs := by
    obtain ⟨fuel, hf⟩ := h0
    rcases open_ints Try.underlying22 Try.underlying5 (by kernel_rfl) hf with ⟨hcs, _⟩ | ⟨x, l, c, zs, hcs, _, hl, hm, hz, _, hcell, hwz⟩
    · simp [Value.cells] at hcs
      obtain ⟨rfl, rfl, rfl⟩ := hcs
      exact ⟨[], .inl ⟨rfl, rfl, rfl, rfl⟩⟩
    · simp [Value.cells] at hcs
      obtain ⟨rfl, rfl, rfl⟩ := hcs
      exact ⟨zs, .inr ⟨_, rfl, hl, hm, by simpa using hz, hcell, hwz⟩⟩
  obtain ⟨a1, rfl, rfl, rfl, w1⟩ := open_string Try.underlying9 (hval 1 9 v1 rfl rfl) h1
  clear hA0 hval0
  refine (walk W s0 len0 cap0 z0 w0 a1 w1).mono fun e W' ⟨he, bel⟩ => ?_
  subst he
  exact ⟨_, rfl, _, _, _, [], _, [], hW', trodAll_mk1 (shut_bool Try.underlying4 _), (trodAll_cons_mk (Below.trod laidOut (by kernel_rfl) (of_decide_eq_true (by kernel_rfl)) k0 bel lt0) (trodAll_cons_mk (Below.trod laidOut (by kernel_rfl) (of_decide_eq_true (by kernel_rfl)) k1 bel lt1) trodAll_mk0)), rfl, bel.frame _, fun h => by cases h⟩

theorem over : Rows.zipWithinRow.holds Try.pinned (OpenSpec.ofChange Rows.zipWithinSpec) :=
  OpenClaim.holds_of_wide 3 Try.f3 rfl rfl rfl rfl rfl rfl rfl ⟨rfl, rfl, rfl, rfl, rfl⟩ rfl rfl rfl rfl rfl (by kernel_rfl) Try.func3 (by kernel_rfl)
    (of_decide_eq_true (by kernel_rfl)) (by unfold Func.isWrapper; first | (rw [if_pos (by decide +kernel)]; kernel_rfl) | (rw [if_neg (by decide +kernel)]; exact ⟨rfl, rfl⟩))
    (fun os started H enc _ => lifted os started H enc)
end LZipWithin
theorem ZipWithin_proved : Rows.ZipWithinSaid := LZipWithin.over
end Go.Proofs.Ytegcdddfccmljab
