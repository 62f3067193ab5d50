
/-
  lay keeps its contract.
-/
import Derived.Test.YtdecbnmibjcnaaaVmH
set_option linter.unusedVariables false
namespace Go.Proofs.Ytdecbnmibjcnaaa
open Go.RowKit Go.PlainAid Go.Sort
/-- What holds between two rounds of lay. -/
structure LayAt (w wr : World) (g : Nat) (A M Z : List Sh) (f : Nat) (d : List UInt8) (i f' : Nat) (vd : Value) (D R : List Sh) (d' : List UInt8) : Prop where
  len : D.length = i
  all : M.length = i + R.length
  fle : f' ≤ 255
  src : Src wr (· = g) vd d'
  holds : Holds wr g 88 (flatS (A ++ D ++ (R ++ Z)))
  eq : D ++ layL R f' d' = layL M f d
  each : ∀ s ∈ A ++ D ++ (R ++ Z), s.data.length = 256
  turn : Turn (· = g) w wr
def LayI (w wr : World) (g : Nat) (A M Z : List Sh) (f : Nat) (d : List UInt8) (i f' : Nat) (vd : Value) : Prop := ∃ D R d', LayAt w wr g A M Z f d i f' vd D R d'
theorem add_add (x : Addr) (k j : Nat) : (x.add k).add j = x.add (k + j) := by
  unfold Addr.add
  by_cases hk : k = 0
  · subst hk; simp
  · by_cases hj : j = 0
    · subst hj; simp
    · rw [if_neg hk, if_neg hj, if_neg (by omega)]; simp [Nat.add_assoc]
theorem Src.drop {w : World} {F : Nat → Prop} {sa : Option Addr} {sc n : Nat} {d : List UInt8} (h : Src w F (.slice sa n sc) d) (k : Nat) (hk : k ≤ d.length) : Src w F (.slice (sa.map (·.add k)) (d.length - k) (sc - k)) (d.drop k) := by
  obtain ⟨a, cap, e, h1, h2, h3⟩ := h
  injection e with e1 e2 e3
  subst e1 e3
  refine ⟨_, _, by rw [List.length_drop], by rw [List.length_drop]; omega, by omega, ?_⟩
  rcases h3 with ⟨rfl, rfl, rfl⟩ | ⟨x, rfl, hx, hc⟩
  · exact .inl ⟨rfl, by simp, by simp⟩
  · refine .inr ⟨x.add k, rfl, by rw [add_block]; exact hx.imp (fun e => by rw [e]; simp) id, fun j hj => ?_⟩
    rw [List.length_drop] at hj
    rw [add_add, hc (k + j) (by omega)]
    simp
theorem Src.noneOf {w : World} {F : Nat → Prop} {sa : Option Addr} {sc n : Nat} {d : List UInt8} (h : Src w F (.slice sa n sc) d) : Src w F (.slice sa 0 0) [] := by
  obtain ⟨a, cap, e, h1, h2, h3⟩ := h
  injection e with e1 e2 e3
  subst e1 e3
  refine ⟨_, _, rfl, by simp, by simp, ?_⟩
  rcases h3 with ⟨rfl, rfl, rfl⟩ | ⟨x, rfl, hx, hc⟩
  · exact .inl ⟨rfl, rfl, rfl⟩
  · exact .inr ⟨x, rfl, .inl rfl, fun j hj => absurd hj (by simp)⟩
theorem LayAt.step {w wr w1 : World} {g : Nat} {A M Z : List Sh} {f : Nat} {d : List UInt8} {i f' : Nat} {sa : Option Addr} {sc n : Nat} {D R : List Sh} {s : Sh} {d' : List UInt8}
    (h : LayAt w wr g A M Z f d i f' (.slice sa n sc) D (s :: R) d') {xs : List Value} (hx : xs = flatS (A ++ D ++ (s :: R ++ Z))) {m k : Nat} (hm : 256 - f' = m) (hk : min d'.length m = k)
    (h1 : Holds w1 g 88 (xs.take (A.length * 258 + i * 258 + 2 + f') ++ (d'.take m).map (fun b => .int .u8 (b.toNat : Int)) ++ xs.drop (A.length * 258 + i * 258 + 2 + f' + k)))
    (h2 : wr.grownBy w1 (some g)) (v' : Value) (hv : Src w1 (· = g) v' (d'.drop k)) : LayI w w1 g A M Z f d (i + 1) 0 v' := by
  obtain ⟨a1, a2, a3, a4, a5, a6, a7, a8⟩ := h
  subst hm hk hx
  have hse : s.data.length = 256 := a7 s (by simp)
  have hXX : ∀ x ∈ A ++ D, x.data.length = 256 := fun x hx => a7 x (List.mem_append_left _ hx)
  have e := flatS_lay (A ++ D) (R ++ Z) s hXX hse f' (by omega) d'
  rw [List.length_append, a1, show (A.length + i) * 258 + 2 + f' = A.length * 258 + i * 258 + 2 + f' by omega] at e
  rw [List.cons_append] at h1
  rw [e] at h1
  refine ⟨D ++ [{ s with data := s.data.take f' ++ d'.take (256 - f') ++ s.data.drop (f' + min d'.length (256 - f')) }], R, d'.drop (min d'.length (256 - f')), by simp [a1], by rw [a2]; simp; omega, by omega, hv, by simpa using h1, ?_, ?_, a8.trans (Turn.of_grown h2 rfl)⟩
  · rw [← a6]; simp [layL]
  · intro x hx
    simp only [List.mem_append, List.mem_singleton] at hx
    rcases hx with (hx | hx | rfl) | hx | hx
    · exact a7 x (by simp [hx])
    · exact a7 x (by simp [hx])
    · exact lay_data hse f' (by omega) d'
    · exact a7 x (by simp [hx])
    · exact a7 x (by simp [hx])
theorem slice_arr (g o f : Nat) (hf : f < 256) (w : World) : (Instr.sliceAt 86 (.pointer (some ⟨g, o, none⟩)) (some (.int .u64 f)) none none).run Try.prog w = .ok (.slice (some ⟨g, o + f, none⟩) (256 - f) (256 - f)) w := by
  have hs : ∀ w, (Go.sizeOf 5).run Try.prog w = .ok 1 w := Try.sizeOf5
  have h1 : (0 : Int) ≤ (f : Int) ∧ (f : Int) ≤ ((256 : Nat) : Int) := by omega
  have h2 : ¬ 256 = f := by omega
  simp only [Instr.sliceAt, Sem.run_bind, run_underlying Try.underlying86, Result.andThen_ok, Instr.sureAddr, Sem.run_pure, Instr.sliceBounds, Instr.sliceBound, asIntOf, if_pos h1, hs, if_neg h2, Int.toNat_natCast, Nat.mul_one, Addr.add_mid]
set_option maxHeartbeats 2000000 in
set_option maxRecDepth 20000 in
theorem vm_lay (w : World) (g cap : Nat) (A M Z : List Sh) (f : Nat) (d : List UInt8) (vd : Value) (hM : M.length ≤ 64) (hA : A.length ≤ 64) (hcap : M.length ≤ cap) (hcap2 : cap ≤ maxLen) (hf : f ≤ 255) (hs : Src w (· = g) vd d) (hh : Holds w g 88 (flatS (A ++ M ++ Z)))
    (he : ∀ s ∈ A ++ M ++ Z, s.data.length = 256) :
    Calls Try.prog 39 #[.slice (some ⟨g, A.length * 258, none⟩) M.length cap, .int .u64 f, vd] w fun e w' => e = .returned (.tuple #[]) ∧ Holds w' g 88 (flatS (A ++ layL M f d ++ Z)) ∧ Turn (· = g) w w' := by
  have HS : Hid (LayI w w g A M Z f d 0 f vd) := ⟨[], M, d, rfl, by simp, hf, hs, by simpa using hh, rfl, by simpa using he, Turn.refl _ _⟩
  have hc3 : cap ≤ 9223372036854775807 := by unfold maxLen at hcap2; omega
  clear hs hh he
  go_enter Try.func39, Try.ntmps39
  go_wp2
  go_loopw [1, 2, 6, 9] (fun vf vx _ vi wr => ∃ (i f' : Nat), i ≤ M.length ∧ vi = .int .i64 i ∧ vf = .int .u64 f' ∧ Hid (LayI w wr g A M Z f d i f' vx)) (fun _ _ _ vi _ => M.length - (intOf vi).toNat)
  case atStart => exact ⟨0, f, by omega, rfl, rfl, HS⟩
  case round =>
    obtain ⟨i, f', hi, rfl, rfl, HI⟩ := hrel
    by_cases hlt : i < M.length
    · have hltI : (i : Int) < (M.length : Int) := by omega
      obtain ⟨D, R, d', hL⟩ := HI
      obtain ⟨s, R, rfl⟩ : ∃ s R', R = s :: R' := by
        cases R with
        | nil => have := hL.all; simp at this; omega
        | cons s R => exact ⟨s, R, rfl⟩
      have hfle := hL.fle
      have HL : Hid _ := hL
      have hsrc := hL.src
      obtain ⟨sa, sc, rfl, hs1, hs2, hs3⟩ := id hsrc
      have hsc : sc ≤ 9223372036854775807 := by unfold maxLen at hs2; omega
      have hsl := slice_arr g (A.length * 258 + i * 258 + 2) f' (by omega)
      have hholds := hL.holds
      have hfit : A.length * 258 + i * 258 + 2 + f' + min d'.length (256 - f') ≤ (flatS (A ++ D ++ (s :: R ++ Z))).length := by
        rw [flatS_len _ hL.each]; have := hL.len; simp; omega
      have HX : Hid (∃ xs, xs = flatS (A ++ D ++ (s :: R ++ Z))) := ⟨_, rfl⟩
      obtain ⟨xs, hxs⟩ := HX
      rw [← hxs] at hholds hfit
      have HX : Hid _ := hxs
      obtain ⟨m, hm⟩ : ∃ m, 256 - f' = m := ⟨_, rfl⟩
      rw [hm] at hsl hfit
      have HM : Hid (256 - f' = m) := hm
      have HF : Hid _ := hfit
      have HSRC : Hid _ := hsrc
      have HH : Hid _ := hholds
      obtain ⟨k, hk⟩ : ∃ k, min d'.length m = k := ⟨_, rfl⟩
      have HK : Hid (min d'.length m = k) := hk
      have hkd : k ≤ d'.length := by omega
      have hcut : sc = k ∨ ¬ sc = k := by omega
      have HS3 : Hid _ := hs3
      clear hL hfit hm hxs hsrc hholds hk hs3
      rcases hcut with hcut | hcut
      · subst hcut
        go_wp2_with (refine copy_row rfl _ _ rfl g (A.length * 258 + i * 258 + 2 + f') m m 88 _ _ (· = g) d' HH.out HSRC.out HF.out rfl rfl ?_; rw [HK.out]; intro w1 h1 h2; have H1 : Hid _ := h1; have H2 : Hid _ := h2; clear h1 h2)
        go_roundw
        case rel => exact ⟨i + 1, 0, by omega, by go_num, rfl, HL.out.step HX.out HM.out HK.out H1.out H2.out _ (by rw [show List.drop sc d' = [] from List.drop_eq_nil_of_le hs1]; exact (HL.out.src.turn (Turn.of_grown H2.out rfl)).noneOf)⟩
        case measure => simp [intOf]; omega
      · go_wp2_with (refine copy_row rfl _ _ rfl g (A.length * 258 + i * 258 + 2 + f') m m 88 _ _ (· = g) d' HH.out HSRC.out HF.out rfl rfl ?_; rw [HK.out]; intro w1 h1 h2; have H1 : Hid _ := h1; have H2 : Hid _ := h2; clear h1 h2)
        go_roundw
        case rel => exact ⟨i + 1, 0, by omega, by go_num, rfl, HL.out.step HX.out HM.out HK.out H1.out H2.out _ ((HL.out.src.turn (Turn.of_grown H2.out rfl)).drop k hkd)⟩
        case measure => simp [intOf]; omega
    · have hltI : ¬ (i : Int) < (M.length : Int) := by omega
      have hcl : i = M.length := by omega
      obtain ⟨D, R, d', hL⟩ := HI
      have hR : R = [] := by have := hL.all; exact List.eq_nil_of_length_eq_zero (by omega)
      subst hR
      have hh1 := hL.holds
      have hh2 := hL.eq
      rw [layL, List.append_nil] at hh2
      rw [hh2] at hh1
      have H1 : Hid _ := hh1
      have H2 : Hid _ := hL.turn
      clear hL hh1 hh2
      go_wp2
      go_end0
      exact ⟨rfl, (by have h3 : Holds wr g 88 (flatS (A ++ layL M f d ++ ([] ++ Z))) := H1.out; simpa using h3), H2.out⟩
set_option maxHeartbeats 1000000 in
theorem vm_lay_nil (w : World) (f : Nat) (vd : Value) :
    Calls Try.prog 39 #[.slice none 0 0, .int .u64 f, vd] w fun e w' => e = .returned (.tuple #[]) ∧ w = w' := by
  go_enter Try.func39, Try.ntmps39
  go_wp2
  go_loopw [1, 2, 6, 9] (fun vf vx _ vi wr => vi = .int .i64 0 ∧ wr = w) (fun _ _ _ _ _ => 0)
  case atStart => exact ⟨rfl, rfl⟩
  case round =>
    obtain ⟨rfl, rfl⟩ := hrel
    go_wp2
    go_end0
    exact ⟨rfl, rfl⟩
end Go.Proofs.Ytdecbnmibjcnaaa
