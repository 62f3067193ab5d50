/-
  LebShort returns true for all numbers, and they read afterwards as they read before: no condition.
-/
import Derived.Test.YtbpajkoaeopnfacRows
import Derived.Test.YtbpajkoaeopnfacRdF
import Derived.WalkKit
import Derived.ProofKit
import Derived.OpenShut
import Derived.ShutString
import Derived.ChangeOld
import Derived.Below
set_option linter.unusedVariables false
namespace Go.Proofs.Ytbpajkoaeopnfac
namespace LLebShort
open Go.ChangeShapes Go.WideShapes Go.ChangeAt Go.RowKit
open Go.ChangeMaps (open_string shut_string)
theorem lebU_len : ∀ (f n : Nat), (lebU f n).length ≤ f
  | 0, n => by simp [lebU]
  | f + 1, n => by
    unfold lebU; split
    · simp
    · have := lebU_len f (n / 128); simp; omega
theorem lebS_len : ∀ (f : Nat) (n : Int), (lebS f n).length ≤ f
  | 0, n => by simp [lebS]
  | f + 1, n => by
    unfold lebS; split
    · simp
    · have := lebS_len f (n / 128); simp; omega
theorem lebU_ne (n : Nat) : lebU 10 n ≠ [] := by unfold lebU; split <;> simp
theorem lebS_ne (n : Int) : lebS 10 n ≠ [] := by unfold lebS; split <;> simp
theorem lebU_mono : ∀ (f a b : Nat), a ≤ b → (lebU f a).length ≤ (lebU f b).length
  | 0, a, b, _ => by simp [lebU]
  | f + 1, a, b, h => by
    unfold lebU
    by_cases ha : a < 128
    · rw [if_pos ha]; split <;> simp
    · rw [if_neg ha, if_neg (by omega)]
      have := lebU_mono f (a / 128) (b / 128) (Nat.div_le_div_right h)
      simp; omega
/-- Only the last byte is below 128. -/
def Ends (l : List UInt8) : Prop := ∀ i (hi : i < l.length), (l[i].toNat < 128 ↔ i = l.length - 1)
theorem b8_hi (k : Nat) (h : k < 128) : ¬ (b8 (k + 128)).toNat < 128 := by
  have := ofNat_toNat (k := k + 128) (by omega); omega
theorem b8_lo (k : Nat) (h : k < 128) : (b8 k).toNat < 128 := by
  have := ofNat_toNat (k := k) (by omega); omega
theorem ends_one (c : UInt8) (h : c.toNat < 128) : Ends [c] := by
  intro i hi
  have : i = 0 := by simpa using hi
  subst this
  simp [h]
theorem ends_cons (c : UInt8) (l : List UInt8) (h : ¬ c.toNat < 128) (hne : l ≠ []) (he : Ends l) : Ends (c :: l) := by
  intro i hi
  have hp := List.length_pos_iff.mpr hne
  match i, hi with
  | 0, _ => simp [h]; omega
  | i + 1, hi =>
    have := he i (by simpa using hi)
    simp only [List.getElem_cons_succ, List.length_cons]
    rw [this]; omega
theorem lebU_ends : ∀ (f n : Nat), 1 ≤ f → n < 128 ^ f → Ends (lebU f n)
  | 0, n, h, _ => by omega
  | f + 1, n, _, h => by
    unfold lebU
    split
    · exact ends_one _ (b8_lo _ (by assumption))
    · rename_i h0
      have D := div128 h h0
      simp only [Nat.add_sub_cancel] at D
      refine ends_cons _ _ (b8_hi _ (by omega)) ?_ (lebU_ends f _ D.2 D.1)
      cases f with
      | zero => omega
      | succ f => unfold lebU; split <;> simp
theorem lebS_ends : ∀ (f : Nat) (n : Int), 1 ≤ f → roomS f n → Ends (lebS f n)
  | 0, n, h, _ => by omega
  | f + 1, n, h1, h => by
    unfold lebS
    split
    · exact ends_one _ (b8_lo _ (by omega))
    · rename_i h0
      have D := roomS_step h1 h h0
      simp only [Nat.add_sub_cancel] at D
      refine ends_cons _ _ (b8_hi _ (by omega)) ?_ (lebS_ends f _ D.2 D.1)
      cases f with
      | zero => omega
      | succ f => unfold lebS; split <;> simp
set_option maxHeartbeats 2000000 in
theorem walk (a : Int) (w0 : (Lit.int .u64 a).wf = true) (b : Int) (w1 : (Lit.int .u64 b).wf = true) (c : Int) (w2 : (Lit.int .i64 c).wf = true) (w : World) :
    Calls Try.prog 8 #[.int .u64 a, .int .u64 b, .int .i64 c] w fun e w' => e = .returned (.bool true) ∧ Below w.heap.size w w' := by
  obtain ⟨a0, a1⟩ := bounds_u64 w0
  obtain ⟨b0, b1⟩ := bounds_u64 w1
  obtain ⟨c0, c1⟩ := bounds_i64 w2
  clear w0 w1 w2
  obtain ⟨x, rfl⟩ := Int.eq_ofNat_of_zero_le a0
  obtain ⟨y, rfl⟩ := Int.eq_ofNat_of_zero_le b0
  have hA := fun w => leb_PutU x w a1
  have hB := fun w => leb_PutU y w b1
  have hC := fun w => leb_PutS c w c0 c1
  have la := lebU_len 10 x
  have lc := lebS_len 10 c
  have na := List.length_pos_iff.mpr (lebU_ne x)
  have nc := List.length_pos_iff.mpr (lebS_ne c)
  have lb := lebU_len 10 y
  have HM : Hid (x ≤ y → (lebU 10 x).length ≤ (lebU 10 y).length) := lebU_mono 10 x y
  have HE : Hid (Ends (lebU 10 x)) := lebU_ends 10 x (by omega) (Nat.lt_of_le_of_lt (by omega) pow128_10)
  have HF : Hid (Ends (lebS 10 c)) := lebS_ends 10 c (by omega) (roomS_start c0 c1)
  have ex := lebU_ne x
  have ez := lebS_ne c
  generalize lebU 10 x = lx at *
  generalize lebU 10 y = ly at *
  generalize lebS 10 c = lz at *
  have hor : ((x : Int) ≤ (y : Int) ∧ (lx.length : Int) ≤ (ly.length : Int)) ∨ ¬ (x : Int) ≤ (y : Int) := by
    by_cases h : x ≤ y
    · exact .inl ⟨by omega, by have := HM.out h; omega⟩
    · exact .inr (by omega)
  clear HM
  rcases hor with ⟨m1, m2⟩ | m1
  all_goals
    go_enter Try.func8, Try.ntmps8
    go_wp2_with fail
    refine (hA _).mono ?_
    rintro e w1 ⟨v1, rfl, o1, b1⟩
    go_wp2_with fail
    refine (hB _).mono ?_
    rintro e w2 ⟨v2, rfl, o2, b2⟩
    go_wp2_with fail
    refine (hC _).mono ?_
    rintro e w3 ⟨v3, rfl, o3, b3⟩
    have o1' := (o1.stay b2).stay b3
    have q3 := (b1.trans (b2.mono b1.size)).trans (b3.mono (Nat.le_trans b1.size b2.size))
    obtain ⟨a2, cap2, rfl, _⟩ := o2.slice
    obtain ⟨g1, cap1, rfl, _, _, k1, k2, hc1, _⟩ := o1'.form ex
    obtain ⟨g3, cap3, rfl, _, _, k3, k4, hc3, _⟩ := o3.form ez
    have HC1 : Hid (∀ j (hj : j < lx.length), w3.cell? ⟨g1, j, none⟩ = some (.int .u8 (lx[j].toNat : Int))) := hc1
    have HC3 : Hid (∀ j (hj : j < lz.length), w3.cell? ⟨g3, j, none⟩ = some (.int .u8 (lz[j].toNat : Int))) := hc3
    clear hc1 hc3 o1 o1' o2 o3 hA hB hC b1 b2 b3
    go_wp2
    go_loop [10] (fun vi => ∃ i : Nat, i ≤ lx.length ∧ vi = .int .i64 i) (fun vi => lx.length - (intOf vi).toNat)
    case atStart => exact ⟨0, by omega, rfl⟩
    case round =>
      obtain ⟨i, hi, rfl⟩ := hrel
      by_cases hlt : i < lx.length
      · have hc := HC1.out i hlt
        have he := HE.out i hlt
        obtain ⟨ch, hch⟩ : ∃ ch, lx[i] = ch := ⟨_, rfl⟩
        rw [hch] at hc he
        have hlt' : (i : Int) < (lx.length : Int) := by omega
        by_cases hl : i = lx.length - 1
        · have d1 : (ch.toNat : Int) < 128 := by have := he.mpr hl; omega
          have d2 : ((i : Int) == (lx.length : Int) - 1) = true := by simp; omega
          clear he hl hch
          go_wp2
          go_round
          case rel => exact ⟨i + 1, by omega, by go_num⟩
          case measure => simp [intOf]; omega
        · have d1 : ¬ (ch.toNat : Int) < 128 := by have := fun h => hl (he.mp h); omega
          have d2 : ((i : Int) == (lx.length : Int) - 1) = false := by simp; omega
          clear he hl hch
          go_wp2
          go_round
          case rel => exact ⟨i + 1, by omega, by go_num⟩
          case measure => simp [intOf]; omega
      · go_wp2
        go_loop [11] (fun vi => ∃ i : Nat, i ≤ lz.length ∧ vi = .int .i64 i) (fun vi => lz.length - (intOf vi).toNat)
        case atStart => exact ⟨0, by omega, rfl⟩
        case round =>
          obtain ⟨i2, hi2, rfl⟩ := hrel
          by_cases hlt : i2 < lz.length
          · have hc := HC3.out i2 hlt
            have he := HF.out i2 hlt
            obtain ⟨ch, hch⟩ : ∃ ch, lz[i2] = ch := ⟨_, rfl⟩
            rw [hch] at hc he
            have hlt' : (i2 : Int) < (lz.length : Int) := by omega
            by_cases hl : i2 = lz.length - 1
            · have d1 : (ch.toNat : Int) < 128 := by have := he.mpr hl; omega
              have d2 : ((i2 : Int) == (lz.length : Int) - 1) = true := by simp; omega
              clear he hl hch
              go_wp2
              go_round
              case rel => exact ⟨i2 + 1, by omega, by go_num⟩
              case measure => simp [intOf]; omega
            · have d1 : ¬ (ch.toNat : Int) < 128 := by have := fun h => hl (he.mp h); omega
              have d2 : ((i2 : Int) == (lz.length : Int) - 1) = false := by simp; omega
              clear he hl hch
              go_wp2
              go_round
              case rel => exact ⟨i2 + 1, by omega, by go_num⟩
              case measure => simp [intOf]; omega
          · go_wp2_with (go_at_call 23; refine (alive03 _).mono ?_; rintro e w5 ⟨rfl, b5⟩)
            go_ret
            exact ⟨rfl, q3.trans (b5.mono q3.size)⟩
theorem own : ownKnob Try.prog.godebug = none := by kernel_rfl
theorem laidOut : laidOutB Try.prog = true := by kernel_rfl
set_option maxRecDepth 100000 in
theorem lifted (os : Os) (started : os.Started) (H : Type) (enc : TypeId × Value → H) :
    ReturnsInHanded {} Try.checked os 8 .any (Rows.lebShortSpec.pre6 enc Try.prog Try.f8 Rows.lebShortRow.domain false) (Rows.lebShortSpec.post enc Try.prog Try.f8 false true false false) := by
  refine returnsInHanded_of_change (C := Try.checked) own started (by kernel_rfl) Try.func8
    (ChangeSpec.witness6 (enc := enc) (C := Try.checked) false ⟨#[], #[.int .u64 0, .int .u64 0, .int .i64 0], []⟩ 8 (by kernel_rfl) (by kernel_rfl) (by kernel_rfl) (by kernel_rfl)) ?_
  intro W base args ds gs before hval0 hW hcnd _
  have hval : ∀ (j : Nat) t v, Try.f8.params[j]? = some t → args[j]? = some v → Value.okWide Try.prog W .any base t v := hval0
  have hW' := hW
  obtain ⟨p, q, hA0, hV, rfl, hfz, hnd⟩ := hW
  have hA : DataW.TrodAll enc Try.prog W 0 (fun _ => true) true Try.f8.params.toList args.toList ds p := hA0
  rw [Try.params8] at hA hval
  obtain ⟨v0, vs0, d0, ds0, p0, q0, hargs, rfl, rfl, h0, r0⟩ := trodAll_cons hA
  obtain ⟨v1, vs1, d1, ds1, p1, q1, rfl, rfl, rfl, h1, r1⟩ := trodAll_cons r0
  obtain ⟨v2, vs2, d2, ds2, p2, q2, rfl, rfl, rfl, h2, r2⟩ := trodAll_cons r1
  obtain ⟨rfl, rfl, rfl⟩ := trodAll_nil r2
  obtain rfl : args = #[v0, v1, v2] := by cases args; simp_all
  obtain ⟨rfl, rfl⟩ := trodVars_none hV
  have k0 := h0
  have lt0 : ∀ x ∈ p0, x.block < W.heap.size := by obtain ⟨m, hm⟩ := k0; exact DataW.trod_lt m _ _ _ hm
  have k1 := h1
  have lt1 : ∀ x ∈ p1, x.block < W.heap.size := by obtain ⟨m, hm⟩ := k1; exact DataW.trod_lt m _ _ _ hm
  have k2 := h2
  have lt2 : ∀ x ∈ p2, x.block < W.heap.size := by obtain ⟨m, hm⟩ := k2; exact DataW.trod_lt m _ _ _ hm
  obtain ⟨a0, rfl, rfl, rfl, w0⟩ := open_int Try.underlying25 (hval 0 25 v0 rfl rfl) h0
  obtain ⟨a1, rfl, rfl, rfl, w1⟩ := open_int Try.underlying25 (hval 1 25 v1 rfl rfl) h1
  obtain ⟨a2, rfl, rfl, rfl, w2⟩ := open_int Try.underlying2 (hval 2 2 v2 rfl rfl) h2
  clear hA0 hval0
  refine (walk a0 w0 a1 w1 a2 w2 W).mono fun e W' ⟨he, bel⟩ => ?_
  subst he
  exact ⟨_, rfl, _, _, _, [], _, [], hW', trodAll_mk1 (shut_bool Try.underlying4 _), (trodAll_cons_mk (Below.trod laidOut (by kernel_rfl) (of_decide_eq_true (by kernel_rfl)) k0 bel lt0) (trodAll_cons_mk (Below.trod laidOut (by kernel_rfl) (of_decide_eq_true (by kernel_rfl)) k1 bel lt1) (trodAll_cons_mk (Below.trod laidOut (by kernel_rfl) (of_decide_eq_true (by kernel_rfl)) k2 bel lt2) trodAll_mk0))), rfl, bel.frame _, fun h => by cases h⟩

theorem over : Rows.lebShortRow.holds Try.pinned (OpenSpec.ofChange Rows.lebShortSpec) :=
  OpenClaim.holds_of_wide 8 Try.f8 rfl rfl rfl rfl rfl rfl rfl ⟨rfl, rfl, rfl, rfl, rfl⟩ rfl rfl rfl rfl rfl (by kernel_rfl) Try.func8 (by kernel_rfl)
    (of_decide_eq_true (by kernel_rfl)) (by unfold Func.isWrapper; first | (rw [if_pos (by decide +kernel)]; kernel_rfl) | (rw [if_neg (by decide +kernel)]; exact ⟨rfl, rfl⟩))
    (fun os started H enc _ => lifted os started H enc)
end LLebShort
theorem LebShort_proved : Rows.LebShortSaid := LLebShort.over
end Go.Proofs.Ytbpajkoaeopnfac
