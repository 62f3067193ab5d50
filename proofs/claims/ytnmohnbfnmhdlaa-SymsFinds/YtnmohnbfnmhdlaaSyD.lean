
/-
  Layer 10 (syms): Find, the program's and the reference's.
-/
import Derived.Test.YtnmohnbfnmhdlaaSyC
set_option linter.unusedVariables false
namespace Go.Proofs.Ytnmohnbfnmhdlaa
open Go.RowKit Go.PlainAid
theorem hide {p : Prop} (h : p) : Hid p := h
theorem new_cells (w : World) (s : Sy) : IsSy (w.alloc (.cells #[.string ⟨s.name.toArray⟩, .string ⟨s.ver.toArray⟩, .bool s.hidden, .int .i64 s.bind, .bool s.defined, .int .u64 s.value, .int .u64 s.size] 60)) w.heap.size 0 s := by
  have k := (MapKept.heap_alloc w (.cells #[.string ⟨s.name.toArray⟩, .string ⟨s.ver.toArray⟩, .bool s.hidden, .int .i64 s.bind, .bool s.defined, .int .u64 s.value, .int .u64 s.size] 60)).1
  constructor <;> (unfold World.cell?; rw [k]; rfl)
theorem IsSy.zero {w : World} {y : Nat} {s : Sy} (h : IsSy w y 0 s) : w.cell? ⟨y, 0, none⟩ = some (.string ⟨s.name.toArray⟩) ∧ w.cell? ⟨y, 1, none⟩ = some (.string ⟨s.ver.toArray⟩) ∧ w.cell? ⟨y, 2, none⟩ = some (.bool s.hidden) ∧ w.cell? ⟨y, 3, none⟩ = some (.int .i64 s.bind) ∧ w.cell? ⟨y, 4, none⟩ = some (.bool s.defined) ∧ w.cell? ⟨y, 5, none⟩ = some (.int .u64 s.value) ∧ w.cell? ⟨y, 6, none⟩ = some (.int .u64 s.size) :=
  ⟨h.c0, h.c1, h.c2, h.c3, h.c4, h.c5, h.c6⟩
set_option maxHeartbeats 4000000 in
set_option maxRecDepth 20000 in
theorem syms_Find (w : World) (a : Option Addr) (cap : Nat) (l : List Sy) (h : SymsAt w a l) (hl : l.length ≤ cap) (hc : cap ≤ maxLen) (vs : Bool) (nm ver : List UInt8) (hn : nm.length ≤ maxLen) (hv : ver.length ≤ maxLen) :
    Calls Try.prog 19 #[.slice a l.length cap, .bool vs, .string ⟨nm.toArray⟩, .string ⟨ver.toArray⟩] w fun e w' => e = .returned (.int .i64 (findS vs nm ver l)) ∧ Below w.heap.size w w' := by
  obtain ⟨n, hN⟩ : ∃ n, l.length = n := ⟨_, rfl⟩
  have HN := hide hN
  have HS := hide h
  have hcap : cap ≤ 9223372036854775807 := by unfold maxLen at hc; omega
  rw [hN] at hl ⊢
  clear hN h hc hn hv
  obtain ⟨F, hF⟩ : ∃ F, findS vs nm ver l = F := ⟨_, rfl⟩
  have HF := hide hF
  rw [hF]
  clear hF
  go_enter Try.func19, Try.ntmps19
  go_wp2
  go_loopw [13] (fun vi wr => ∃ i : Nat, vi = .int .i64 i ∧ i ≤ n ∧ Hid (Below w.heap.size w wr) ∧ Hid (∀ j (hj : j < l.length), j < i → okS vs nm ver l[j] = false))
    (fun vi _ => n - (intOf vi).toNat)
  case atStart => exact ⟨0, rfl, by omega, Below.refl _ _, fun j hj h => by omega⟩
  case round =>
    obtain ⟨i, rfl, hi, HB, HA⟩ := hrel
    by_cases hlt : i < n
    · have hltI : (i : Int) < (n : Int) := by omega
      have hil : i < l.length := by rw [HN.out]; exact hlt
      obtain ⟨y, o, rfl, hs, hok⟩ := (HS.out.below HB.out).at i hil
      have HO := hide (show okS vs nm ver l[i] = okS vs nm ver l[i] from rfl)
      clear HO
      obtain ⟨c0, c1, c2, c3, c4, c5, c6⟩ := hs
      obtain ⟨s, hse⟩ : ∃ s, l[i] = s := ⟨_, rfl⟩
      have HSE := hide hse
      rw [hse] at c0 c1 c2 c3 c4 c5 c6 hok
      clear hse
      go_wp2_with fail
      have nc := new_cells wr s
      have HB0 : Hid (Below w.heap.size w _) := HB.out.trans ((bel1 wr (.cells #[.string ⟨s.name.toArray⟩, .string ⟨s.ver.toArray⟩, .bool s.hidden, .int .i64 s.bind, .bool s.defined, .int .u64 s.value, .int .u64 s.size] 60)).mono HB.out.size)
      generalize wr.heap.size = b at *
      generalize wr.alloc _ = w0 at *
      clear c0 c1 c2 c3 c4 c5 c6
      have k := syms_Exported s w0
      have NN : Hid (had s = had s) := rfl
      cases hh : had s
      · rw [hh] at k
        have HH := hide hh
        clear hh NN
        refine k.mono ?_
        rintro e w1 ⟨rfl, hb1⟩
        have HB1 : Hid (Below w.heap.size w w1) := HB0.out.trans (hb1.mono HB0.out.size)
        clear k hb1
        go_wp2
        go_roundw
        case rel => exact ⟨i + 1, by go_num, by omega, HB1, fun j hj hji => by
          by_cases e : j = i
          · subst e; rw [HSE.out]; simp [okS, HH.out]
          · exact HA.out j hj (by omega)⟩
        case measure => simp [intOf]; omega
      · rw [hh] at k
        have HH := hide hh
        clear hh NN
        refine k.mono ?_
        rintro e w1 ⟨rfl, hb1⟩
        have HB1 : Hid (Below w.heap.size w w1) := HB0.out.trans (hb1.mono HB0.out.size)
        have nc1 := nc.below hb1 nc.lt
        have HNC := hide nc1
        obtain ⟨c0, c1, c2, c3, c4, c5, c6⟩ := nc1.zero
        clear k hb1 nc nc1
        by_cases hnm : s.name = nm
        · have hnb : (s.name == nm) = true := by simp [hnm]
          have HNM := hide hnm
          clear hnm
          go_wp2_with fail
          refine (syms_hold _ s w1).mono ?_
          rintro e w2 ⟨rfl, hb2⟩
          have HB2 : Hid (Below w.heap.size w w2) := HB1.out.trans (hb2.mono HB1.out.size)
          clear hb2 c0 c1 c2 c3 c4 c5 c6
          have k := syms_fits i s.hidden s.ver ver vs w2
          cases hf : fitB vs s.hidden s.ver ver
          · rw [hf] at k
            have HFF := hide hf
            clear hf
            go_wp2_with fail
            refine k.mono ?_
            rintro e w3 ⟨rfl, hb3⟩
            have HB3 : Hid (Below w.heap.size w w3) := HB2.out.trans (hb3.mono HB2.out.size)
            clear k hb3
            go_wp2
            go_roundw
            case rel => exact ⟨i + 1, by go_num, by omega, HB3, fun j hj hji => by
              by_cases e : j = i
              · subst e; rw [HSE.out]; simp [okS, HFF.out]
              · exact HA.out j hj (by omega)⟩
            case measure => simp [intOf]; omega
          · rw [hf] at k
            have HFF := hide hf
            clear hf
            go_wp2_with fail
            refine k.mono ?_
            rintro e w3 ⟨rfl, hb3⟩
            have HB3 : Hid (Below w.heap.size w w3) := HB2.out.trans (hb3.mono HB2.out.size)
            clear k hb3
            go_wp2
            go_ret
            refine ⟨?_, HB3.out⟩
            have := findS_hit (vs := vs) (nm := nm) (ver := ver) hil (by rw [HSE.out]; simp [okS, HH.out, HNM.out, HFF.out]) (fun j hj hji => HA.out j hj hji)
            rw [HF.out] at this
            rw [this]
            rfl
        · have hnb : (s.name == nm) = false := by simp [hnm]
          have HNM := hide hnm
          clear hnm
          go_wp2
          go_roundw
          case rel => exact ⟨i + 1, by go_num, by omega, HB1, fun j hj hji => by
            by_cases e : j = i
            · subst e; rw [HSE.out]; simp [okS, HNM.out]
            · exact HA.out j hj (by omega)⟩
          case measure => simp [intOf]; omega
    · have hltI : ¬ (i : Int) < (n : Int) := by omega
      go_wp2
      go_ret
      refine ⟨?_, HB.out⟩
      have := findS_none (vs := vs) (nm := nm) (ver := ver) (fun j hj => HA.out j hj (by have := HN.out; omega))
      rw [HF.out] at this
      rw [this]
      rfl
end Go.Proofs.Ytnmohnbfnmhdlaa
