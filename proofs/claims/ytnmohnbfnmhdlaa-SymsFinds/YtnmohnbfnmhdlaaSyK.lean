
/-
  Layer 10 (syms): an index's own Find.
-/
import Derived.Test.YtnmohnbfnmhdlaaSyJ
set_option linter.unusedVariables false
namespace Go.Proofs.Ytnmohnbfnmhdlaa
open Go.RowKit Go.PlainAid Go.Sort Go.WideMaps
theorem OwnH.form {w : World} {B : Nat} {v : Value} {l : List Hd} (h : OwnH w B v l) : (v = .slice none 0 0 ∧ l = []) ∨ ∃ g cap, v = .slice (some ⟨g, 0, none⟩) l.length cap ∧ l.length ≤ cap ∧ cap ≤ maxLen ∧ g < w.heap.size ∧ ∀ j (hj : j < l.length), w.cell? ⟨g, j * 3, none⟩ = some (.int .i64 (l[j].num : Nat)) ∧ w.cell? ⟨g, j * 3 + 1, none⟩ = some (.string ⟨l[j].ver.toArray⟩) ∧ w.cell? ⟨g, j * 3 + 2, none⟩ = some (.bool l[j].hidden) := by
  have h0 := h
  obtain ⟨h1, h2⟩ := h
  rcases h2 with ⟨e, h0⟩ | ⟨g, cap, cur, rfl, hB, hg, hn, hcap, hsz, ht⟩
  · exact .inl ⟨e, List.length_eq_zero_iff.1 h0⟩
  · refine .inr ⟨g, cap, rfl, hn, hcap, (Array.getElem?_eq_some_iff.1 hg).1, fun j hj => ?_⟩
    have k : ∀ q, q < 3 → w.cell? ⟨g, j * 3 + q, none⟩ = l[j].cells[q]? := fun q hq => by
      rw [World.ownsRow.cellAt h0 (j * 3 + q) (by omega)]
      exact flatH_get l j hj q hq
    exact ⟨k 0 (by omega), k 1 (by omega), k 2 (by omega)⟩
theorem hd_cells (w : World) (h : Hd) : (w.alloc (.cells #[.int .i64 (h.num : Nat), .string ⟨h.ver.toArray⟩, .bool h.hidden] 128)).cell? ⟨w.heap.size, 0, none⟩ = some (.int .i64 (h.num : Nat)) ∧ (w.alloc (.cells #[.int .i64 (h.num : Nat), .string ⟨h.ver.toArray⟩, .bool h.hidden] 128)).cell? ⟨w.heap.size, 1, none⟩ = some (.string ⟨h.ver.toArray⟩) ∧ (w.alloc (.cells #[.int .i64 (h.num : Nat), .string ⟨h.ver.toArray⟩, .bool h.hidden] 128)).cell? ⟨w.heap.size, 2, none⟩ = some (.bool h.hidden) :=
  ⟨hd_new w h.num h.ver h.hidden 0 _ rfl, hd_new w h.num h.ver h.hidden 1 _ rfl, hd_new w h.num h.ver h.hidden 2 _ rfl⟩
set_option maxHeartbeats 4000000 in
set_option maxRecDepth 20000 in
theorem index_Find (w : World) (X M B n : Nat) (vs : Bool) (f : List UInt8 → Value) (G : List UInt8 → List Hd) (h : IdxAt w X M B vs n f G) (nm ver : List UInt8) (hnm : nm.length ≤ maxLen) :
    Calls Try.prog 22 #[.pointer (some ⟨X, 0, none⟩), .string ⟨nm.toArray⟩, .string ⟨ver.toArray⟩] w fun e w' => e = .returned (.int .i64 (fstH vs ver (G nm))) ∧ Below w.heap.size w w' := by
  have hget := h.map.get nm hnm
  obtain ⟨x0, x1⟩ := h.cells
  have hX := h.lt
  have ho := (h.row nm).form
  generalize f nm = v at *
  generalize G nm = L at *
  have HX0 := hide x0
  clear h
  rcases ho with ⟨rfl, rfl⟩ | ⟨g, cap, rfl, hl, hc, hg, hcl⟩
  · go_enter Try.func22, Try.ntmps22
    go_wp2
    go_loopw [16] (fun vi wr => vi = .int .i64 0 ∧ wr = w) (fun _ _ => 0)
    case atStart => exact ⟨rfl, rfl⟩
    case round =>
      obtain ⟨rfl, rfl⟩ := hrel
      go_wp2
      go_ret
      exact ⟨rfl, Below.refl _ _⟩
  · obtain ⟨m, hN⟩ : ∃ m, L.length = m := ⟨_, rfl⟩
    have HN := hide hN
    have HC := hide hcl
    have hcap : cap ≤ 9223372036854775807 := by unfold maxLen at hc; omega
    obtain ⟨F, hF⟩ : ∃ F, fstH vs ver L = F := ⟨_, rfl⟩
    have HF := hide hF
    rw [hN] at hl hget
    rw [hF]
    clear hF hN hcl hc
    go_enter Try.func22, Try.ntmps22
    go_wp2
    go_loopw [16] (fun vi wr => ∃ i : Nat, vi = .int .i64 i ∧ i ≤ m ∧ Hid (Below w.heap.size w wr) ∧ Hid (∀ j (hj : j < L.length), j < i → fitB vs L[j].hidden L[j].ver ver = false))
      (fun vi _ => m - (intOf vi).toNat)
    case atStart => exact ⟨0, rfl, by omega, Below.refl _ _, fun j hj h => by omega⟩
    case round =>
      obtain ⟨i, rfl, hi, HB, HA⟩ := hrel
      by_cases hlt : i < m
      · have hltI : (i : Int) < (m : Int) := by omega
        have hil : i < L.length := by rw [HN.out]; exact hlt
        obtain ⟨d0, d1, d2⟩ := HC.out i hil
        obtain ⟨s, hse⟩ : ∃ s, L[i] = s := ⟨_, rfl⟩
        have HSE := hide hse
        rw [hse] at d0 d1 d2
        have c0 : wr.cell? ⟨g, i * 3, none⟩ = some (.int .i64 (s.num : Nat)) := by rw [HB.out.cell (p := ⟨g, i * 3, none⟩) hg]; exact d0
        have c1 : wr.cell? ⟨g, i * 3 + 1, none⟩ = some (.string ⟨s.ver.toArray⟩) := by rw [HB.out.cell (p := ⟨g, i * 3 + 1, none⟩) hg]; exact d1
        have c2 : wr.cell? ⟨g, i * 3 + 2, none⟩ = some (.bool s.hidden) := by rw [HB.out.cell (p := ⟨g, i * 3 + 2, none⟩) hg]; exact d2
        have hXw : wr.cell? ⟨X, 0, none⟩ = some (.bool vs) := by rw [HB.out.cell (p := ⟨X, 0, none⟩) hX]; exact HX0.out
        have hXl : X < wr.heap.size := Nat.lt_of_lt_of_le hX HB.out.size
        have HXA : Hid (∀ o, (wr.alloc o).cell? ⟨X, 0, none⟩ = some (.bool vs)) := fun o => by rw [(bel1 wr o).cell (p := ⟨X, 0, none⟩) hXl]; exact hXw
        have HK := hide (fun W => syms_fits (s.num : Nat) s.hidden s.ver ver vs W)
        have HEC := hide (hd_cells wr s)
        have HB0 := hide (HB.out.trans ((bel1 wr (.cells #[.int .i64 (s.num : Nat), .string ⟨s.ver.toArray⟩, .bool s.hidden] 128)).mono HB.out.size))
        clear hse d0 d1 d2 hXw
        obtain ⟨fb, hfb⟩ : ∃ fb, fitB vs s.hidden s.ver ver = fb := ⟨_, rfl⟩
        rw [hfb] at HK
        have HFB := hide hfb
        clear hfb
        go_wp2_with fail
        try simp only [List.append_eq, List.cons_append, List.nil_append]
        refine wp_region_quiet_below (by kernel_rfl) (by kernel_rfl) ?_
        have e0 := cell_regrown HEC.out.1
        have e1 := cell_regrown HEC.out.2.1
        have e2 := cell_regrown HEC.out.2.2
        have e3 := cell_regrown (HXA.out (.cells #[.int .i64 (s.num : Nat), .string ⟨s.ver.toArray⟩, .bool s.hidden] 128))
        repeat (go_big_quiet_step (exact Calls.regrown_of (HK.out _)))
        refine wpQuiet_nil ?_
        intro _ hwq
        obtain ⟨⟨dq, osq⟩, hwq2⟩ := hwq
        subst hwq2
        have HB2 : Hid (Below w.heap.size w (grow (redrawn (wr.alloc (.cells #[.int .i64 (s.num : Nat), .string ⟨s.ver.toArray⟩, .bool s.hidden] 128)) dq) osq)) := HB0.out.trans ((below_regrown _ dq osq).mono HB0.out.size)
        have f0 := e0 dq osq
        clear e0 e1 e2 e3 HEC HXA c0 c1 c2
        generalize grow _ _ = w2 at *
        cases fb
        · go_wp2
          go_roundw
          case rel => exact ⟨i + 1, by go_num, by omega, HB2, fun j hj hji => by
            by_cases e : j = i
            · subst e; rw [HSE.out]; exact HFB.out
            · exact HA.out j hj (by omega)⟩
          case measure => simp [intOf]; omega
        · go_wp2
          go_ret
          refine ⟨?_, HB2.out⟩
          have := fstH_hit (vs := vs) (ver := ver) hil (by rw [HSE.out]; exact HFB.out) (fun j hj hji => HA.out j hj hji)
          rw [HF.out, HSE.out] at this
          rw [this]
          rfl
      · have hltI : ¬ (i : Int) < (m : Int) := by omega
        go_wp2
        go_ret
        refine ⟨?_, HB.out⟩
        have := fstH_none (vs := vs) (ver := ver) (fun j hj => HA.out j hj (by have := HN.out; omega))
        rw [HF.out] at this
        rw [this]
        rfl
end Go.Proofs.Ytnmohnbfnmhdlaa
