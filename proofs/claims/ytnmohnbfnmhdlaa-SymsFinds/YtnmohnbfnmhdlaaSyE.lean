
/-
  Layer 10 (syms): the reference's Find.
-/
import Derived.Test.YtnmohnbfnmhdlaaSyD
set_option linter.unusedVariables false
namespace Go.Proofs.Ytnmohnbfnmhdlaa
open Go.RowKit Go.PlainAid
set_option maxHeartbeats 4000000 in
set_option maxRecDepth 20000 in
theorem ref10_Find (w : World) (a : Option Addr) (cap : Nat) (l : List Sy) (h : SymsAt w a l) (hl : l.length ≤ cap) (hc : cap ≤ maxLen) (vs : Bool) (nm ver : List UInt8) :
    Calls Try.prog 21 #[.slice a l.length cap, .bool vs, .string ⟨nm.toArray⟩, .string ⟨ver.toArray⟩] w fun e w' => e = .returned (.int .i64 (findS vs nm ver l)) ∧ Below w.heap.size w w' := by
  obtain ⟨n, hN⟩ : ∃ n, l.length = n := ⟨_, rfl⟩
  have HN := hide hN
  have HS := hide h
  have hcap : cap ≤ 9223372036854775807 := by unfold maxLen at hc; omega
  rw [hN] at hl ⊢
  clear hN h hc
  obtain ⟨F, hF⟩ : ∃ F, findS vs nm ver l = F := ⟨_, rfl⟩
  have HF := hide hF
  rw [hF]
  clear hF
  go_enter Try.func21, Try.ntmps21
  go_wp2
  go_loopw [9] (fun vi wr => ∃ i : Nat, vi = .int .i64 i ∧ i ≤ n ∧ Hid (Below w.heap.size w wr) ∧ Hid (∀ j (hj : j < l.length), j < i → okS vs nm ver l[j] = false))
    (fun vi _ => n - (intOf vi).toNat)
  case atStart => exact ⟨0, rfl, by omega, Below.refl _ _, fun j hj h => by omega⟩
  case round =>
    obtain ⟨i, rfl, hi, HB, HA⟩ := hrel
    by_cases hlt : i < n
    · have hltI : (i : Int) < (n : Int) := by omega
      have hil : i < l.length := by rw [HN.out]; exact hlt
      obtain ⟨y, o, rfl, hs, hok⟩ := (HS.out.below HB.out).at i hil
      obtain ⟨c0, c1, c2, c3, c4, c5, c6⟩ := hs
      obtain ⟨s, hse⟩ : ∃ s, l[i] = s := ⟨_, rfl⟩
      have HSE := hide hse
      rw [hse] at c0 c1 c2 c3 c4 c5 c6 hok
      clear hse hok
      obtain ⟨snm, sv, hd, bd, df, vl, sz⟩ := s
      simp only at c0 c1 c2 c3 c4 c5 c6
      have hcase : (ver = [] ∧ hd = false ∧ fitB vs hd sv ver = true) ∨ (∃ c t, ver = c :: t ∧ vs = false ∧ fitB vs hd sv ver = true) ∨ (∃ c t, ver = c :: t ∧ vs = true ∧ (sv == c :: t) = true ∧ fitB vs hd sv ver = true) ∨ (ver = [] ∧ hd = true ∧ fitB vs hd sv ver = false) ∨ (∃ c t, ver = c :: t ∧ vs = true ∧ (sv == c :: t) = false ∧ fitB vs hd sv ver = false) := by
        cases ver with
        | nil => cases hd <;> simp [fitB]
        | cons c t =>
          cases vs
          · simp [fitB]
          · by_cases e : sv = c :: t
            · simp [fitB, e]
            · exact .inr (.inr (.inr (.inr ⟨c, t, rfl, rfl, by simp [e], by simp [fitB, e]⟩)))
      rcases hcase with ⟨rfl, rfl, hf⟩ | ⟨c, t, rfl, rfl, hf⟩ | ⟨c, t, rfl, rfl, hq, hf⟩ | ⟨rfl, rfl, hf⟩ | ⟨c, t, rfl, rfl, hq, hf⟩
      · have HFF := hide hf
        clear hf
        go_wp2_with fail
        have k := ref10_Had ⟨snm, sv, false, bd, df, vl, sz⟩ (wr.alloc (.cells #[.string ⟨snm.toArray⟩, .string ⟨sv.toArray⟩, .bool false, .int .i64 bd, .bool df, .int .u64 vl, .int .u64 sz] 60))
        have nc := new_cells wr ⟨snm, sv, false, bd, df, vl, sz⟩
        have HB0 : Hid (Below w.heap.size w _) := HB.out.trans ((bel1 wr (.cells #[.string ⟨snm.toArray⟩, .string ⟨sv.toArray⟩, .bool false, .int .i64 bd, .bool df, .int .u64 vl, .int .u64 sz] 60)).mono HB.out.size)
        cases hh : had ⟨snm, sv, false, bd, df, vl, sz⟩
        · rw [hh] at k
          have HH := hide hh
          clear hh
          refine k.mono ?_
          rintro e w1 ⟨rfl, hb1⟩
          have HB1 : Hid (Below w.heap.size w w1) := HB0.out.trans (hb1.mono HB0.out.size)
          clear k hb1 nc
          go_wp2
          go_roundw
          case rel => exact ⟨i + 1, by go_num, by omega, HB1, fun j hj hji => by
            by_cases e : j = i
            · subst e; rw [HSE.out]; simp [okS, HH.out]
            · exact HA.out j hj (by omega)⟩
          case measure => simp [intOf]; omega
        · rw [hh] at k
          have HH := hide hh
          clear hh
          refine k.mono ?_
          rintro e w1 ⟨rfl, hb1⟩
          have HB1 : Hid (Below w.heap.size w w1) := HB0.out.trans (hb1.mono HB0.out.size)
          have nc1 := nc.below hb1 nc.lt
          obtain ⟨x0, _⟩ := nc1.zero
          simp only at x0
          clear k hb1 nc nc1
          by_cases hnm : snm = nm
          · have hnb : (snm == nm) = true := by simp [hnm]
            have HNM := hide hnm
            clear hnm
            go_wp2
            go_ret
            refine ⟨?_, HB1.out⟩
            have := findS_hit hil (by rw [HSE.out]; simp only [okS, HH.out, HFF.out]; simp [HNM.out]) (fun j hj hji => HA.out j hj hji)
            rw [HF.out] at this
            rw [this]
            rfl
          · have hnb : (snm == nm) = false := by simp [hnm]
            have HNM := hide hnm
            clear hnm
            go_wp2
            go_roundw
            case rel => exact ⟨i + 1, by go_num, by omega, HB1, fun j hj hji => by
              by_cases e : j = i
              · subst e; rw [HSE.out]; simp [okS, HNM.out]
              · exact HA.out j hj (by omega)⟩
            case measure => simp [intOf]; omega
      · have HFF := hide hf
        clear hf
        go_wp2_with fail
        have k := ref10_Had ⟨snm, sv, hd, bd, df, vl, sz⟩ (wr.alloc (.cells #[.string ⟨snm.toArray⟩, .string ⟨sv.toArray⟩, .bool hd, .int .i64 bd, .bool df, .int .u64 vl, .int .u64 sz] 60))
        have nc := new_cells wr ⟨snm, sv, hd, bd, df, vl, sz⟩
        have HB0 : Hid (Below w.heap.size w _) := HB.out.trans ((bel1 wr (.cells #[.string ⟨snm.toArray⟩, .string ⟨sv.toArray⟩, .bool hd, .int .i64 bd, .bool df, .int .u64 vl, .int .u64 sz] 60)).mono HB.out.size)
        cases hh : had ⟨snm, sv, hd, bd, df, vl, sz⟩
        · rw [hh] at k
          have HH := hide hh
          clear hh
          refine k.mono ?_
          rintro e w1 ⟨rfl, hb1⟩
          have HB1 : Hid (Below w.heap.size w w1) := HB0.out.trans (hb1.mono HB0.out.size)
          clear k hb1 nc
          go_wp2
          go_roundw
          case rel => exact ⟨i + 1, by go_num, by omega, HB1, fun j hj hji => by
            by_cases e : j = i
            · subst e; rw [HSE.out]; simp [okS, HH.out]
            · exact HA.out j hj (by omega)⟩
          case measure => simp [intOf]; omega
        · rw [hh] at k
          have HH := hide hh
          clear hh
          refine k.mono ?_
          rintro e w1 ⟨rfl, hb1⟩
          have HB1 : Hid (Below w.heap.size w w1) := HB0.out.trans (hb1.mono HB0.out.size)
          have nc1 := nc.below hb1 nc.lt
          obtain ⟨x0, _⟩ := nc1.zero
          simp only at x0
          clear k hb1 nc nc1
          by_cases hnm : snm = nm
          · have hnb : (snm == nm) = true := by simp [hnm]
            have HNM := hide hnm
            clear hnm
            go_wp2
            go_ret
            refine ⟨?_, HB1.out⟩
            have := findS_hit hil (by rw [HSE.out]; simp only [okS, HH.out, HFF.out]; simp [HNM.out]) (fun j hj hji => HA.out j hj hji)
            rw [HF.out] at this
            rw [this]
            rfl
          · have hnb : (snm == nm) = false := by simp [hnm]
            have HNM := hide hnm
            clear hnm
            go_wp2
            go_roundw
            case rel => exact ⟨i + 1, by go_num, by omega, HB1, fun j hj hji => by
              by_cases e : j = i
              · subst e; rw [HSE.out]; simp [okS, HNM.out]
              · exact HA.out j hj (by omega)⟩
            case measure => simp [intOf]; omega
      · have HFF := hide hf
        clear hf
        go_wp2_with fail
        have k := ref10_Had ⟨snm, sv, hd, bd, df, vl, sz⟩ (wr.alloc (.cells #[.string ⟨snm.toArray⟩, .string ⟨sv.toArray⟩, .bool hd, .int .i64 bd, .bool df, .int .u64 vl, .int .u64 sz] 60))
        have nc := new_cells wr ⟨snm, sv, hd, bd, df, vl, sz⟩
        have HB0 : Hid (Below w.heap.size w _) := HB.out.trans ((bel1 wr (.cells #[.string ⟨snm.toArray⟩, .string ⟨sv.toArray⟩, .bool hd, .int .i64 bd, .bool df, .int .u64 vl, .int .u64 sz] 60)).mono HB.out.size)
        cases hh : had ⟨snm, sv, hd, bd, df, vl, sz⟩
        · rw [hh] at k
          have HH := hide hh
          clear hh
          refine k.mono ?_
          rintro e w1 ⟨rfl, hb1⟩
          have HB1 : Hid (Below w.heap.size w w1) := HB0.out.trans (hb1.mono HB0.out.size)
          clear k hb1 nc
          go_wp2
          go_roundw
          case rel => exact ⟨i + 1, by go_num, by omega, HB1, fun j hj hji => by
            by_cases e : j = i
            · subst e; rw [HSE.out]; simp [okS, HH.out]
            · exact HA.out j hj (by omega)⟩
          case measure => simp [intOf]; omega
        · rw [hh] at k
          have HH := hide hh
          clear hh
          refine k.mono ?_
          rintro e w1 ⟨rfl, hb1⟩
          have HB1 : Hid (Below w.heap.size w w1) := HB0.out.trans (hb1.mono HB0.out.size)
          have nc1 := nc.below hb1 nc.lt
          obtain ⟨x0, _⟩ := nc1.zero
          simp only at x0
          clear k hb1 nc nc1
          by_cases hnm : snm = nm
          · have hnb : (snm == nm) = true := by simp [hnm]
            have HNM := hide hnm
            clear hnm
            go_wp2
            go_ret
            refine ⟨?_, HB1.out⟩
            have := findS_hit hil (by rw [HSE.out]; simp only [okS, HH.out, HFF.out]; simp [HNM.out]) (fun j hj hji => HA.out j hj hji)
            rw [HF.out] at this
            rw [this]
            rfl
          · have hnb : (snm == nm) = false := by simp [hnm]
            have HNM := hide hnm
            clear hnm
            go_wp2
            go_roundw
            case rel => exact ⟨i + 1, by go_num, by omega, HB1, fun j hj hji => by
              by_cases e : j = i
              · subst e; rw [HSE.out]; simp [okS, HNM.out]
              · exact HA.out j hj (by omega)⟩
            case measure => simp [intOf]; omega
      · have HFF := hide hf
        clear hf
        go_wp2_with fail
        have k := ref10_Had ⟨snm, sv, true, bd, df, vl, sz⟩ (wr.alloc (.cells #[.string ⟨snm.toArray⟩, .string ⟨sv.toArray⟩, .bool true, .int .i64 bd, .bool df, .int .u64 vl, .int .u64 sz] 60))
        have nc := new_cells wr ⟨snm, sv, true, bd, df, vl, sz⟩
        have HB0 : Hid (Below w.heap.size w _) := HB.out.trans ((bel1 wr (.cells #[.string ⟨snm.toArray⟩, .string ⟨sv.toArray⟩, .bool true, .int .i64 bd, .bool df, .int .u64 vl, .int .u64 sz] 60)).mono HB.out.size)
        cases hh : had ⟨snm, sv, true, bd, df, vl, sz⟩
        · rw [hh] at k
          have HH := hide hh
          clear hh
          refine k.mono ?_
          rintro e w1 ⟨rfl, hb1⟩
          have HB1 : Hid (Below w.heap.size w w1) := HB0.out.trans (hb1.mono HB0.out.size)
          clear k hb1 nc
          go_wp2
          go_roundw
          case rel => exact ⟨i + 1, by go_num, by omega, HB1, fun j hj hji => by
            by_cases e : j = i
            · subst e; rw [HSE.out]; simp [okS, HH.out]
            · exact HA.out j hj (by omega)⟩
          case measure => simp [intOf]; omega
        · rw [hh] at k
          have HH := hide hh
          clear hh
          refine k.mono ?_
          rintro e w1 ⟨rfl, hb1⟩
          have HB1 : Hid (Below w.heap.size w w1) := HB0.out.trans (hb1.mono HB0.out.size)
          have nc1 := nc.below hb1 nc.lt
          obtain ⟨x0, _⟩ := nc1.zero
          simp only at x0
          clear k hb1 nc nc1
          by_cases hnm : snm = nm
          · have hnb : (snm == nm) = true := by simp [hnm]
            have HNM := hide hnm
            clear hnm
            go_wp2
            go_roundw
            case rel => exact ⟨i + 1, by go_num, by omega, HB1, fun j hj hji => by
              by_cases e : j = i
              · subst e; rw [HSE.out]; simp only [okS, HH.out, HFF.out]; simp
              · exact HA.out j hj (by omega)⟩
            case measure => simp [intOf]; omega
          · have hnb : (snm == nm) = false := by simp [hnm]
            have HNM := hide hnm
            clear hnm
            go_wp2
            go_roundw
            case rel => exact ⟨i + 1, by go_num, by omega, HB1, fun j hj hji => by
              by_cases e : j = i
              · subst e; rw [HSE.out]; simp [okS, HNM.out]
              · exact HA.out j hj (by omega)⟩
            case measure => simp [intOf]; omega
      · have HFF := hide hf
        clear hf
        go_wp2_with fail
        have k := ref10_Had ⟨snm, sv, hd, bd, df, vl, sz⟩ (wr.alloc (.cells #[.string ⟨snm.toArray⟩, .string ⟨sv.toArray⟩, .bool hd, .int .i64 bd, .bool df, .int .u64 vl, .int .u64 sz] 60))
        have nc := new_cells wr ⟨snm, sv, hd, bd, df, vl, sz⟩
        have HB0 : Hid (Below w.heap.size w _) := HB.out.trans ((bel1 wr (.cells #[.string ⟨snm.toArray⟩, .string ⟨sv.toArray⟩, .bool hd, .int .i64 bd, .bool df, .int .u64 vl, .int .u64 sz] 60)).mono HB.out.size)
        cases hh : had ⟨snm, sv, hd, bd, df, vl, sz⟩
        · rw [hh] at k
          have HH := hide hh
          clear hh
          refine k.mono ?_
          rintro e w1 ⟨rfl, hb1⟩
          have HB1 : Hid (Below w.heap.size w w1) := HB0.out.trans (hb1.mono HB0.out.size)
          clear k hb1 nc
          go_wp2
          go_roundw
          case rel => exact ⟨i + 1, by go_num, by omega, HB1, fun j hj hji => by
            by_cases e : j = i
            · subst e; rw [HSE.out]; simp [okS, HH.out]
            · exact HA.out j hj (by omega)⟩
          case measure => simp [intOf]; omega
        · rw [hh] at k
          have HH := hide hh
          clear hh
          refine k.mono ?_
          rintro e w1 ⟨rfl, hb1⟩
          have HB1 : Hid (Below w.heap.size w w1) := HB0.out.trans (hb1.mono HB0.out.size)
          have nc1 := nc.below hb1 nc.lt
          obtain ⟨x0, _⟩ := nc1.zero
          simp only at x0
          clear k hb1 nc nc1
          by_cases hnm : snm = nm
          · have hnb : (snm == nm) = true := by simp [hnm]
            have HNM := hide hnm
            clear hnm
            go_wp2
            go_roundw
            case rel => exact ⟨i + 1, by go_num, by omega, HB1, fun j hj hji => by
              by_cases e : j = i
              · subst e; rw [HSE.out]; simp only [okS, HH.out, HFF.out]; simp
              · exact HA.out j hj (by omega)⟩
            case measure => simp [intOf]; omega
          · have hnb : (snm == nm) = false := by simp [hnm]
            have HNM := hide hnm
            clear hnm
            go_wp2
            go_roundw
            case rel => exact ⟨i + 1, by go_num, by omega, HB1, fun j hj hji => by
              by_cases e : j = i
              · subst e; rw [HSE.out]; simp [okS, HNM.out]
              · exact HA.out j hj (by omega)⟩
            case measure => simp [intOf]; omega
    · have hltI : ¬ (i : Int) < (n : Int) := by omega
      go_wp2
      go_ret
      refine ⟨?_, HB.out⟩
      have := findS_none (vs := vs) (nm := nm) (ver := ver) (fun j hj => HA.out j hj (by have := HN.out; omega))
      rw [HF.out] at this
      rw [this]
      rfl
end Go.Proofs.Ytnmohnbfnmhdlaa
