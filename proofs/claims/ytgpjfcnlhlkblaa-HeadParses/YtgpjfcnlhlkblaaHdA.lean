
/-
  Layer 8 (head): numbers at places, the file's header, one program header, a part's end.
-/
import Derived.Test.YtgpjfcnlhlkblaaHdM
set_option linter.unusedVariables false
namespace Go.Proofs.Ytgpjfcnlhlkblaa
open Go.RowKit Go.PlainAid
theorem head_two (w : World) (v : Value) (l : List UInt8) (h : Arg w v l) (p : Nat) (hp : (p : Int) ≤ 18446744073709551615) :
    Calls Try.prog 31 #[v, .int .u64 p] w fun e w' => e = .returned (.int .u16 (rd l p 2)) ∧ w = w' := by
  by_cases hi : p + 2 ≤ l.length
  · have hU := le_U16_yes w v l h p hi
    rw [rd_in hi]
    obtain ⟨a, cap, rfl, _⟩ := h.isSlice
    clear h hi
    generalize rdN (win l p 2) = q at *
    go_enter Try.func31, Try.ntmps31
    go_wp2_with fail
    refine hU.mono ?_
    rintro e w1 ⟨rfl, rfl⟩
    go_wp2
    go_ret
    exact ⟨rfl, rfl⟩
  · have hU := le_U16_no w v l h p hp hi
    have e0 : rd l p 2 = 0 := if_neg hi
    rw [e0]
    obtain ⟨a, cap, rfl, _⟩ := h.isSlice
    clear h hi
    go_enter Try.func31, Try.ntmps31
    go_wp2_with fail
    refine hU.mono ?_
    rintro e w1 ⟨rfl, rfl⟩
    go_wp2
    go_ret
    exact ⟨rfl, rfl⟩
theorem head_four (w : World) (v : Value) (l : List UInt8) (h : Arg w v l) (p : Nat) (hp : (p : Int) ≤ 18446744073709551615) :
    Calls Try.prog 52 #[v, .int .u64 p] w fun e w' => e = .returned (.int .u32 (rd l p 4)) ∧ w = w' := by
  by_cases hi : p + 4 ≤ l.length
  · have hU := le_U32_yes w v l h p hi
    rw [rd_in hi]
    obtain ⟨a, cap, rfl, _⟩ := h.isSlice
    clear h hi
    generalize rdN (win l p 4) = q at *
    go_enter Try.func52, Try.ntmps52
    go_wp2_with fail
    refine hU.mono ?_
    rintro e w1 ⟨rfl, rfl⟩
    go_wp2
    go_ret
    exact ⟨rfl, rfl⟩
  · have hU := le_U32_no w v l h p hp hi
    have e0 : rd l p 4 = 0 := if_neg hi
    rw [e0]
    obtain ⟨a, cap, rfl, _⟩ := h.isSlice
    clear h hi
    go_enter Try.func52, Try.ntmps52
    go_wp2_with fail
    refine hU.mono ?_
    rintro e w1 ⟨rfl, rfl⟩
    go_wp2
    go_ret
    exact ⟨rfl, rfl⟩
theorem head_eight (w : World) (v : Value) (l : List UInt8) (h : Arg w v l) (p : Nat) (hp : (p : Int) ≤ 18446744073709551615) :
    Calls Try.prog 30 #[v, .int .u64 p] w fun e w' => e = .returned (.int .u64 (rd l p 8)) ∧ w = w' := by
  by_cases hi : p + 8 ≤ l.length
  · have hU := le_U64_yes w v l h p hi
    rw [rd_in hi]
    obtain ⟨a, cap, rfl, _⟩ := h.isSlice
    clear h hi
    generalize rdN (win l p 8) = q at *
    go_enter Try.func30, Try.ntmps30
    go_wp2_with fail
    refine hU.mono ?_
    rintro e w1 ⟨rfl, rfl⟩
    go_wp2
    go_ret
    exact ⟨rfl, rfl⟩
  · have hU := le_U64_no w v l h p hp hi
    have e0 : rd l p 8 = 0 := if_neg hi
    rw [e0]
    obtain ⟨a, cap, rfl, _⟩ := h.isSlice
    clear h hi
    go_enter Try.func30, Try.ntmps30
    go_wp2_with fail
    refine hU.mono ?_
    rintro e w1 ⟨rfl, rfl⟩
    go_wp2
    go_ret
    exact ⟨rfl, rfl⟩
set_option maxHeartbeats 1000000 in
theorem head_checkKind (w : World) (v : Value) (l : List UInt8) (h : Arg w v l) :
    Calls Try.prog 29 #[v] w fun e w' => e = .returned (.int .i64 (kindE l)) ∧ w = w' := by
  have HA := hide h
  obtain ⟨a, cap, rfl, hc1, hc2, hc3⟩ := h.isSlice
  have hcap : cap ≤ 9223372036854775807 := by unfold maxLen at hc2; omega
  obtain ⟨K, hK⟩ : ∃ K, kindE l = K := ⟨_, rfl⟩
  rw [hK]
  unfold kindE at hK
  by_cases c1 : l.length < 64
  · rw [if_pos (.inl c1)] at hK
    subst hK
    have c1I : (l.length : Int) < 64 := by omega
    clear h HA
    go_enter Try.func29, Try.ntmps29
    go_wp2
    go_ret
    exact ⟨rfl, rfl⟩
  have hcp : cap ≠ 4 := by omega
  have hcp0 : cap ≠ 0 := by omega
  have t0 := (h.cut 0 4 (by omega) hcp0).text
  have t4 := (h.cut 4 3 (by omega) hcp).text
  obtain ⟨g, o, rfl⟩ : ∃ g o, a = some ⟨g, o, none⟩ := by
    obtain ⟨g, o, c', e, _⟩ := h.cells (by omega)
    injection e with e1
    exact ⟨g, o, e1⟩
  have ad0 : (Addr.add ⟨g, o, none⟩ 0) = ⟨g, o, none⟩ := by rw [add_at]; rfl
  have ad4 : (Addr.add ⟨g, o, none⟩ 4) = ⟨g, o + 4, none⟩ := add_at _ _ _
  simp only [Option.map_some, ad0, ad4, Nat.sub_zero] at t0 t4
  have c1I : ¬ (l.length : Int) < 64 := by omega
  have capI : 64 ≤ (cap : Int) := by omega
  have h16 := head_two _ _ l HA.out 16 (by omega)
  have h18 := head_two _ _ l HA.out 18 (by omega)
  generalize win l 0 4 = X at *
  generalize win l 4 3 = Y at *
  generalize rd l 16 2 = q16 at *
  generalize rd l 18 2 = q18 at *
  clear h HA hc2
  generalize l.length = n at *
  have c1' := hide c1
  clear c1
  by_cases cX : X = [127, 69, 76, 70]
  · subst cX
    rw [if_neg (by have := c1'.out; simp; omega)] at hK
    by_cases cY : Y = [2, 1, 1]
    · subst cY
      rw [if_neg (by simp)] at hK
      by_cases c16 : q16 = 3
      · subst c16
        rw [if_neg (by simp)] at hK
        by_cases c62 : q18 = 62
        · subst c62
          rw [if_neg (by simp)] at hK
          subst hK
          go_enter Try.func29, Try.ntmps29
          go_wp2_with fail
          refine h16.mono ?_
          rintro e w1 ⟨rfl, rfl⟩
          go_wp2_with fail
          refine h18.mono ?_
          rintro e w1 ⟨rfl, rfl⟩
          go_wp2
          go_ret
          exact ⟨rfl, rfl⟩
        · have b62 : ((q18 : Int) != 62) = true := by simp; omega
          by_cases c183 : q18 = 183
          · subst c183
            rw [if_neg (by simp)] at hK
            subst hK
            clear b62 c62
            go_enter Try.func29, Try.ntmps29
            go_wp2_with fail
            refine h16.mono ?_
            rintro e w1 ⟨rfl, rfl⟩
            go_wp2_with fail
            refine h18.mono ?_
            rintro e w1 ⟨rfl, rfl⟩
            go_wp2
            go_ret
            exact ⟨rfl, rfl⟩
          · have b183 : ((q18 : Int) != 183) = true := by simp; omega
            rw [if_pos ⟨c62, c183⟩] at hK
            subst hK
            clear c62 c183
            go_enter Try.func29, Try.ntmps29
            go_wp2_with fail
            refine h16.mono ?_
            rintro e w1 ⟨rfl, rfl⟩
            go_wp2_with fail
            refine h18.mono ?_
            rintro e w1 ⟨rfl, rfl⟩
            go_wp2
            go_ret
            exact ⟨rfl, rfl⟩
      · rw [if_pos c16] at hK
        subst hK
        have b16 : ((q16 : Int) != 3) = true := by simp; omega
        clear c16
        go_enter Try.func29, Try.ntmps29
        go_wp2_with fail
        refine h16.mono ?_
        rintro e w1 ⟨rfl, rfl⟩
        go_wp2
        go_ret
        exact ⟨rfl, rfl⟩
    · rw [if_pos cY] at hK
      subst hK
      have bY : (Y == [2, 1, 1]) = false := by simpa using cY
      clear cY
      go_enter Try.func29, Try.ntmps29
      go_wp2
      go_ret
      exact ⟨rfl, rfl⟩
  · rw [if_pos (.inr cX)] at hK
    subst hK
    have bX : (X == [127, 69, 76, 70]) = false := by simpa using cX
    clear cX
    go_enter Try.func29, Try.ntmps29
    go_wp2
    go_ret
    exact ⟨rfl, rfl⟩
end Go.Proofs.Ytgpjfcnlhlkblaa
