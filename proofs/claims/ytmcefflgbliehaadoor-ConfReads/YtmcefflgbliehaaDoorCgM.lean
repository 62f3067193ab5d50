
/-
  Layer 18 (conf): both Parses of any text; folders are clean.
-/
import Derived.Test.YtmcefflgbliehaaDoorCgL
set_option linter.unusedVariables false
namespace Go.Proofs.YtmcefflgbliehaaDoor
open Go.RowKit Go.PlainAid Go.Sort
theorem parse_big {l : List UInt8} (h : 16384 < l.length) : parseC l = (noCf, 0, 67) := by unfold parseC; rw [if_pos h]
theorem conf_ParseA (w : World) (hm : Mx w) (l : List UInt8) (hl : l.length ≤ 9223372036854775807) :
    Calls Tryd.prog 8 #[.string (tx l)] w fun e w' => ParseTo w (parseC l) e w' := by
  by_cases hbig : 16384 < l.length
  · have hb0 := below_box w (.cells zFl.toArray 25)
    have HB0 := hide hb0
    have HR0 := hide (block_new w (.cells zFl.toArray 25))
    rw [parse_big hbig]
    have hI : (16384 : Int) < (l.length : Int) := by omega
    clear hb0 hbig
    unfold tx
    go_enter Tryd.func8, Tryd.ntmps8
    go_wp2_with fail
    refine bodyPost_ret (results_cell3 rfl _ _ w.heap.size _ _ _ _ rfl HR0.out Tryd.underlying25 rfl (by kernel_rfl)) rfl ?_
    exact ⟨⟨_, _, rfl, CfIs.no _⟩, HB0.out⟩
  · exact conf_Parse w hm l (by omega)
theorem ref18_ParseA (w : World) (l : List UInt8) (hl : l.length ≤ 9223372036854775807) :
    Calls Tryd.prog 9 #[.string (tx l)] w fun e w' => ParseTo w (parseC l) e w' := by
  by_cases hbig : 16384 < l.length
  · have hb0 := below_box w (.cells zFl.toArray 32)
    have HB0 := hide hb0
    have HR0 := hide (block_new w (.cells zFl.toArray 32))
    rw [parse_big hbig]
    have hI : (16384 : Int) < (l.length : Int) := by omega
    clear hb0 hbig
    unfold tx
    unfold zFl at HR0 HB0
    go_enter Tryd.func9, Tryd.ntmps9
    go_wp2_with ((with_reducible refine at_storeQ (T := 32) ?_); refine store_part rfl _ _ _ rfl w.heap.size 0 32 _ zFl zFl.toArray HR0.out rfl rfl rf_size fl_one0 (Nat.le_refl 2) (by rfl) ?_; intro w4 hg4 hb4; have HG4 := hide hg4; have HB4 := hide (below_own HB0.out hb4 (Nat.le_refl _) (Nat.le_refl _)); clear hg4 hb4)
    refine bodyPost_ret (results_cell3 rfl _ _ w.heap.size _ _ _ _ rfl HG4.out Tryd.underlying32 rfl (by kernel_rfl)) rfl ?_
    exact ⟨⟨_, _, rfl, CfIs.no _⟩, HB4.out⟩
  · exact ref18_Parse w l (by omega)
def DsF (F : Cf) : Prop := ∀ d ∈ F.dirs, d.value.length ≤ 256
theorem can_le {l : List UInt8} (h : can l = true) : l.length ≤ 256 := by
  unfold can good at h
  simp only [Bool.and_eq_true, decide_eq_true_eq] at h
  exact h.1.2
theorem take_ds {F : Cf} (h : DsF F) (l : List UInt8) (n : Int) : DsF (takeC F l n).1 := by
  unfold takeC
  split
  · exact h
  · split
    · exact h
    · split
      · split
        · exact h
        · exact h
      · split
        · exact h
        · split
          · split
            · rename_i hf
              intro d hd
              unfold folD at hd
              simp only [] at hd
              rw [if_pos hf] at hd
              rcases List.mem_append.1 hd with hd | hd
              · exact h d hd
              · rw [List.mem_singleton] at hd
                subst hd
                unfold folB isCl at hf
                simp only [Bool.and_eq_true] at hf
                exact can_le hf.2.1
            · exact h
          · exact h
theorem go_ds : ∀ (xs : List (List UInt8)) (F : Cf) (k : Int), DsF F → DsF (goC F xs k).1
  | [], F, k, h => h
  | x :: xs, F, k, h => by
    rw [goC]
    split
    · exact go_ds xs _ _ (take_ds h x k)
    · intro d hd; cases hd
theorem parse_ds (l : List UInt8) : DsF (parseC l).1 := by
  unfold parseC
  split
  · intro d hd; cases hd
  · exact go_ds _ _ _ (fun d hd => by cases hd)
/-- Both slices of a configuration, by its lengths. -/
theorem CfIs.forms {w : World} {dv sv : Value} {F : Cf} (h : CfIs w dv sv F) : ∃ da dc sa sc, dv = .slice da F.dirs.length dc ∧ sv = .slice sa F.secs.length sc := by
  obtain ⟨h1, ss, h2, h3⟩ := h
  obtain ⟨da, dc, rfl⟩ := h1.form
  obtain ⟨sa, sc, rfl⟩ := h3.form
  have : ss.length = F.secs.length := by rw [← h2, List.length_map]
  rw [this]
  exact ⟨_, _, _, _, rfl, rfl⟩
/-- One part of a configuration, in memory. -/
theorem CfIs.sec {w : World} {dv sv : Value} {F : Cf} (h : CfIs w dv sv F) (i : Nat) (hi : i < F.secs.length) : ∃ g o cap a n c, sv = .slice (some ⟨g, o, none⟩) F.secs.length cap ∧ cap ≤ 9223372036854775807 ∧ F.secs.length ≤ cap ∧
    ∀ W, Below w.heap.size w W → W.cell? ⟨g, o + i * 2, none⟩ = some (.string (tx F.secs[i].name)) ∧ W.cell? ⟨g, o + i * 2 + 1, none⟩ = some (.slice a n c) ∧ ArgP W (.slice a n c) F.secs[i].props := by
  obtain ⟨_, ss, h2, h3⟩ := h
  have hl : ss.length = F.secs.length := by rw [← h2, List.length_map]
  have hi2 : i < ss.length := by omega
  have hs : ss[i].sc = F.secs[i] := by simp [← h2]
  obtain ⟨sa, sc, rfl⟩ := h3.form
  obtain ⟨g, o, rfl, q1, q2, q3, e0, e1⟩ := h3.at i hi2
  have hp := h3.2.1 ss[i] (List.getElem_mem hi2)
  obtain ⟨a, c, hf⟩ := hp.form
  refine ⟨g, o, sc, a, ss[i].props.length, c, by rw [hl], q2, by omega, fun W hW => ?_⟩
  rw [← hs]
  refine ⟨(hW.cell (p := ⟨g, _, none⟩) q3).trans e0, ?_, ?_⟩
  · rw [hW.cell (p := ⟨g, _, none⟩) q3, e1, hf]
  · have := hp.below hW
    rwa [hf] at this
end Go.Proofs.YtmcefflgbliehaaDoor
