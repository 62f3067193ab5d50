
/-
  Layer 9 (dyn): Entries, and the reference's.
-/
import Derived.Test.YtgpjfcnlhlkblaaDyA
import Derived.Test.YtgpjfcnlhlkblaaRowB
set_option linter.unusedVariables false
namespace Go.Proofs.Ytgpjfcnlhlkblaa
open Go.RowKit Go.PlainAid Go.Sort
/-- What Entries answers. -/
def EntIs (T : TypeId) (w' : World) (B : Nat) (o : Option (List De)) (e : Ending) : Prop :=
  match o with
  | none => e = .returned (.tuple #[.slice none 0 0, .int .i64 90])
  | some L => ∃ v, e = .returned (.tuple #[v, .int .i64 0]) ∧ OwnD T w' B v L
theorem entsZ_ok {l : List UInt8} {L : List De} (h : entsZ l = some L) : (∀ e ∈ L, e.ok ∧ e.tag ≠ 0) ∧ L.length ≤ 128 := entsFrom_ok l 128 0 L h
set_option maxHeartbeats 2000000 in
theorem dyn_Entries (w : World) (v : Value) (l : List UInt8) (h : Arg w v l) (hl : l.length ≤ 1000000) :
    Calls Try.prog 26 #[v] w fun e w' => EntIs 60 w' w.heap.size (entsZ l) e ∧ Below w.heap.size w w' := by
  have HA := hide h
  obtain ⟨a, cap, rfl, _⟩ := h.isSlice
  obtain ⟨O, hO⟩ : ∃ O, entsZ l = O := ⟨_, rfl⟩
  rw [hO]
  rw [← entsRest_start] at hO
  have HO := hide hO
  clear h hO
  go_enter Try.func26, Try.ntmps26
  go_wp2
  go_loopw [4, 5, 6, 7, 8, 9, 10] (fun v4 _ _ _ _ _ v10 wr => ∃ (i : Nat) (acc : List De), i ≤ 128 ∧ v10 = .int .u64 i ∧ Hid (acc.length ≤ i) ∧ Hid (OwnD 60 wr w.heap.size v4 acc) ∧ Hid (Below w.heap.size w wr) ∧ Hid (entsRest l acc (128 - i) i = O)) (fun _ _ _ _ _ _ v10 _ => 128 - (intOf v10).toNat)
  case atStart => exact ⟨0, [], by omega, rfl, by simp [Hid], OwnD.nil _ _ _, Below.refl _ _, HO⟩
  case round =>
    obtain ⟨i, acc, hi, rfl, HL, HOW, HB, HR⟩ := hrel
    by_cases hlt : i < 128
    · have hltI : (i : Int) < 128 := by omega
      have hA := HA.out.below' HB.out
      have k0 := le_U64_all wr _ l hA (i * 16) (by omega)
      have k8 := le_U64_all wr _ l hA (i * 16 + 8) (by omega)
      have e0 : ((i * 16 : Nat) : Int) = (i : Int) * 16 := by omega
      have e8 : ((i * 16 + 8 : Nat) : Int) = (i : Int) * 16 + 8 := by omega
      rw [e0] at k0
      rw [e8] at k8
      clear e0 e8 hA
      obtain ⟨f, hf⟩ : ∃ f, 128 - i = f + 1 := ⟨127 - i, by omega⟩
      by_cases hin : i * 16 + 16 ≤ l.length
      · rw [show eN l (i * 16 + 8) 8 = 0 from if_pos (by omega)] at k8
        obtain ⟨tg, htg⟩ : ∃ tg, vN l (i * 16) 8 = tg := ⟨_, rfl⟩
        obtain ⟨vl, hvl⟩ : ∃ vl, vN l (i * 16 + 8) 8 = vl := ⟨_, rfl⟩
        have r0 : rd l (i * 16) 8 = tg := htg
        have r8 : rd l (i * 16 + 8) 8 = vl := hvl
        rw [htg] at k0
        rw [hvl] at k8
        by_cases ht : tg = 0
        · have HF : Hid (some acc = O) := by
            have := HR.out
            rw [hf, entsRest_end l acc f i hin (r0.trans ht)] at this
            exact this
          subst ht
          clear htg hvl r0 r8 hf HR
          go_wp2_with fail
          refine k0.mono ?_
          rintro e w1 ⟨rfl, rfl⟩
          go_wp2_with fail
          refine k8.mono ?_
          rintro e w1 ⟨rfl, rfl⟩
          clear k0 k8
          go_wp2
          go_ret2
          exact ⟨by rw [← HF.out]; exact ⟨_, rfl, HOW.out⟩, HB.out⟩
        · have HF : Hid (entsRest l (acc ++ [⟨tg, vl⟩]) (128 - (i + 1)) (i + 1) = O) := by
            have := HR.out
            rw [hf, entsRest_next l acc f i hin (by rw [r0]; exact ht), r0, r8] at this
            rw [Hid, show 128 - (i + 1) = f by omega]; exact this
          have htI : ((tg : Int) == 0) = false := by simp; omega
          have HL2 : Hid ((acc ++ [(⟨tg, vl⟩ : De)]).length ≤ i + 1) := by have := HL.out; rw [Hid, List.length_append]; simp; omega
          clear htg hvl r0 r8 hf HR ht
          go_wp2_with fail
          refine k0.mono ?_
          rintro e w1 ⟨rfl, rfl⟩
          go_wp2_with fail
          refine k8.mono ?_
          rintro e w1 ⟨rfl, rfl⟩
          clear k0 k8
          go_wp2_with (at_builtin; refine append_dy rfl _ _ rfl w.heap.size wr _ acc HOW.out ⟨tg, vl⟩ rfl _ (by simp) rfl (by have := HL.out; omega) HB.out.size ?_)
          intro v' w3 h1 h2
          have HB3 : Hid (Below w.heap.size w w3) := HB.out.trans h2
          have HOW3 := hide h1
          clear h1 h2 HOW HB
          go_wp2
          go_roundw
          case rel => exact ⟨i + 1, _, by omega, by go_num, HL2, HOW3, HB3, HF⟩
          case measure => simp [intOf]; omega
      · rw [show eN l (i * 16 + 8) 8 = 20 from if_neg (by omega)] at k8
        have HF : Hid (none = O) := by have := HR.out; rw [entsRest_no l acc _ i hin] at this; exact this
        generalize vN l (i * 16) 8 = tg at *
        generalize vN l (i * 16 + 8) 8 = vl at *
        generalize eN l (i * 16) 8 = eg at *
        clear hf HR
        go_wp2_with fail
        refine k0.mono ?_
        rintro e w1 ⟨rfl, rfl⟩
        go_wp2_with fail
        refine k8.mono ?_
        rintro e w1 ⟨rfl, rfl⟩
        clear k0 k8
        go_wp2
        go_ret2
        exact ⟨by rw [← HF.out]; rfl, HB.out⟩
    · have hltI : ¬ (i : Int) < 128 := by omega
      have he : i = 128 := by omega
      subst he
      have HF : Hid (none = O) := HR.out
      go_wp2
      go_ret2
      exact ⟨by rw [← HF.out]; rfl, HB.out⟩
set_option maxHeartbeats 2000000 in
theorem ref9_Entries (w : World) (v : Value) (l : List UInt8) (h : Arg w v l) (hl : l.length ≤ 1000000) :
    Calls Try.prog 27 #[v] w fun e w' => EntIs 61 w' w.heap.size (entsZ l) e ∧ Below w.heap.size w w' := by
  have HA := hide h
  obtain ⟨a, cap, rfl, _⟩ := h.isSlice
  obtain ⟨O, hO⟩ : ∃ O, entsZ l = O := ⟨_, rfl⟩
  rw [hO]
  rw [← entsRest_start] at hO
  have HO := hide hO
  clear h hO
  go_enter Try.func27, Try.ntmps27
  go_wp2
  go_loopw [4, 5, 6, 7, 8, 9] (fun v4 v5 _ _ _ _ wr => ∃ (i : Nat) (acc : List De), i ≤ 128 ∧ v5 = .int .u64 i ∧ Hid (acc.length ≤ i) ∧ Hid (OwnD 61 wr w.heap.size v4 acc) ∧ Hid (Below w.heap.size w wr) ∧ Hid (entsRest l acc (128 - i) i = O)) (fun _ v5 _ _ _ _ _ => 128 - (intOf v5).toNat)
  case atStart => exact ⟨0, [], by omega, rfl, by simp [Hid], OwnD.nil _ _ _, Below.refl _ _, HO⟩
  case round =>
    obtain ⟨i, acc, hi, rfl, HL, HOW, HB, HR⟩ := hrel
    by_cases hlt : i < 128
    · have hltI : (i : Int) < 128 := by omega
      have hA := HA.out.below' HB.out
      have k0 := ref_Get_all wr _ l hA (i * 16) 8 (by omega) (by omega) (by omega)
      have k8 := ref_Get_all wr _ l hA (i * 16 + 8) 8 (by omega) (by omega) (by omega)
      have e0 : ((i * 16 : Nat) : Int) = (i : Int) * 16 := by omega
      have e8 : ((i * 16 + 8 : Nat) : Int) = (i : Int) * 16 + 8 := by omega
      rw [e0] at k0
      rw [e8] at k8
      clear e0 e8 hA
      obtain ⟨f, hf⟩ : ∃ f, 128 - i = f + 1 := ⟨127 - i, by omega⟩
      by_cases hin : i * 16 + 16 ≤ l.length
      · rw [show eN l (i * 16 + 8) 8 = 0 from if_pos (by omega)] at k8
        rw [show eN l (i * 16) 8 = 0 from if_pos (by omega)] at k0
        obtain ⟨tg, htg⟩ : ∃ tg, vN l (i * 16) 8 = tg := ⟨_, rfl⟩
        obtain ⟨vl, hvl⟩ : ∃ vl, vN l (i * 16 + 8) 8 = vl := ⟨_, rfl⟩
        have r0 : rd l (i * 16) 8 = tg := htg
        have r8 : rd l (i * 16 + 8) 8 = vl := hvl
        rw [htg] at k0
        rw [hvl] at k8
        by_cases ht : tg = 0
        · have HF : Hid (some acc = O) := by
            have := HR.out
            rw [hf, entsRest_end l acc f i hin (r0.trans ht)] at this
            exact this
          subst ht
          clear htg hvl r0 r8 hf HR
          go_wp2_with fail
          refine k0.mono ?_
          rintro e w1 ⟨rfl, rfl⟩
          go_wp2_with fail
          refine k8.mono ?_
          rintro e w1 ⟨rfl, rfl⟩
          clear k0 k8
          go_wp2
          go_ret2
          exact ⟨by rw [← HF.out]; exact ⟨_, rfl, HOW.out⟩, HB.out⟩
        · have HF : Hid (entsRest l (acc ++ [⟨tg, vl⟩]) (128 - (i + 1)) (i + 1) = O) := by
            have := HR.out
            rw [hf, entsRest_next l acc f i hin (by rw [r0]; exact ht), r0, r8] at this
            rw [Hid, show 128 - (i + 1) = f by omega]; exact this
          have htI : ((tg : Int) == 0) = false := by simp; omega
          have HL2 : Hid ((acc ++ [(⟨tg, vl⟩ : De)]).length ≤ i + 1) := by have := HL.out; rw [Hid, List.length_append]; simp; omega
          clear htg hvl r0 r8 hf HR ht
          go_wp2_with fail
          refine k0.mono ?_
          rintro e w1 ⟨rfl, rfl⟩
          go_wp2_with fail
          refine k8.mono ?_
          rintro e w1 ⟨rfl, rfl⟩
          clear k0 k8
          go_wp2_with (at_builtin; refine append_rf rfl _ _ rfl w.heap.size wr _ acc HOW.out ⟨tg, vl⟩ rfl _ (by simp) rfl (by have := HL.out; omega) HB.out.size ?_)
          intro v' w3 h1 h2
          have HB3 : Hid (Below w.heap.size w w3) := HB.out.trans h2
          have HOW3 := hide h1
          clear h1 h2 HOW HB
          go_wp2
          go_roundw
          case rel => exact ⟨i + 1, _, by omega, by go_num, HL2, HOW3, HB3, HF⟩
          case measure => simp [intOf]; omega
      · have hor : eN l (i * 16) 8 = 0 ∨ eN l (i * 16) 8 = 20 := by unfold eN; split <;> simp
        rw [show eN l (i * 16 + 8) 8 = 20 from if_neg (by omega)] at k8
        have HF : Hid (none = O) := by have := HR.out; rw [entsRest_no l acc _ i hin] at this; exact this
        generalize vN l (i * 16) 8 = tg at *
        generalize vN l (i * 16 + 8) 8 = vl at *
        generalize eN l (i * 16) 8 = eg at *
        clear hf HR
        rcases hor with rfl | rfl
        all_goals
          go_wp2_with fail
          refine k0.mono ?_
          rintro e w1 ⟨rfl, rfl⟩
          go_wp2_with fail
          refine k8.mono ?_
          rintro e w1 ⟨rfl, rfl⟩
          clear k0 k8
          go_wp2
          go_ret2
          exact ⟨by rw [← HF.out]; rfl, HB.out⟩
    · have hltI : ¬ (i : Int) < 128 := by omega
      have he : i = 128 := by omega
      subst he
      have HF : Hid (none = O) := HR.out
      go_wp2
      go_ret2
      exact ⟨by rw [← HF.out]; rfl, HB.out⟩
end Go.Proofs.Ytgpjfcnlhlkblaa
