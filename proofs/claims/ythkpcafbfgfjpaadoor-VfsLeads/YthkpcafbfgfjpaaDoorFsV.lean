
/-
  Open once more: what it answers is memory of its own.
-/
import Derived.Test.YthkpcafbfgfjpaaDoorFsU
set_option linter.unusedVariables false
namespace Go.Proofs.YthkpcafbfgfjpaaDoor
open Go.RowKit Go.PlainAid
def OpenB (w w' : World) (l : List Nd) (p : List UInt8) (e : Ending) : Prop :=
  ((openN l p).1 ≠ 0 ∧ e = .returned (.tuple #[.int .i64 0, .string ⟨#[]⟩, .slice none 0 0, .int .i64 (openN l p).1])) ∨
  ((openN l p).1 = 0 ∧ (openN l p).2 < l.length ∧ ∃ vb, e = .returned (.tuple #[.int .i64 ((openN l p).2 : Nat), .string (tx (pathAt l (openN l p).2)), vb, .int .i64 0]) ∧ OwnB w' w.heap.size vb (dataAt l (openN l p).2))
set_option maxHeartbeats 4000000 in
theorem vfs_OpenB (w : World) (hm : Mx w) (hg : 0 < w.heap.size) (B F M : Nat) (v : Value) (l : List Nd) (hf : FsAt w B F M v l) (p : ByteArray) (hp : p.size ≤ 4096) (hd : ∀ n ∈ l, n.data.length ≤ 262144) :
    Calls Tryd.prog 11 #[.pointer (some ⟨F, 0, none⟩), .string p] w fun e w' => OpenB w w' l p.data.toList e ∧ Below w.heap.size w w' := by
  have hFi := vfs_find w hm hg B F M v l hf p hp
  have HLT := hide (findN_lt hf p.data.toList)
  have HF := hide hf
  unfold findV at hFi
  have HO : Hid (openN l p.data.toList = if (findN l p.data.toList).1 ≠ 0 then ((findN l p.data.toList).1, 0) else if kindAt l (findN l p.data.toList).2 = 2 then (0, (findN l p.data.toList).2) else (66, 0)) := rfl
  have HE : Hid (∀ w' e, ((openN l p.data.toList).1 ≠ 0 ∧ e = .returned (.tuple #[.int .i64 0, .string ⟨#[]⟩, .slice none 0 0, .int .i64 (openN l p.data.toList).1])) ∨ ((openN l p.data.toList).1 = 0 ∧ (openN l p.data.toList).2 < l.length ∧ ∃ vb, e = .returned (.tuple #[.int .i64 ((openN l p.data.toList).2 : Nat), .string (tx (pathAt l (openN l p.data.toList).2)), vb, .int .i64 0]) ∧ OwnB w' w.heap.size vb (dataAt l (openN l p.data.toList).2)) → OpenB w w' l p.data.toList e) := fun w' e h => h
  generalize openN l p.data.toList = ON at *
  generalize findN l p.data.toList = R at *
  obtain ⟨re, rn⟩ := R
  dsimp only at hFi HLT HO
  clear hm hf
  go_enter Tryd.func11, Tryd.ntmps11
  go_wp2_with fail
  refine hFi.mono ?_
  rintro e w1 ⟨rfl, hb1⟩
  have HB1 := hide hb1
  have HF1 := hide (HF.out.stay hb1)
  clear hFi hb1
  by_cases he : re = 0
  · rw [if_neg (by simpa using he)] at HO
    have hlt := HLT.out he
    obtain ⟨g, cap, rfl, C⟩ := HF1.out.cells
    have a0 := C.a0
    have q0 := C.c0 rn hlt
    have q1 := C.c1 rn hlt
    have q2 := C.c2 rn hlt
    have q3 := C.c3 rn hlt
    have hkd := kindAt_of hlt
    have hdt := HF1.out.dat _ (List.getElem_mem hlt)
    have hdl := hd _ (List.getElem_mem hlt)
    have hpa : Hid (tx (pathAt l rn) = (l[rn]'hlt).path) := by unfold Hid; rw [pathAt_of hlt, tx_data]
    have hda := hide (dataAt_of hlt)
    obtain ⟨me, hme⟩ : ∃ me, l[rn]'hlt = me := ⟨_, rfl⟩
    rw [hme] at hkd hdt q0 q1 q2 q3 hdl
    have HPA : Hid (tx (pathAt l rn) = me.path) := by have := hpa.out; rw [hme] at this; exact this
    have HDA : Hid (dataAt l rn = me.data) := by have := hda.out; rw [hme] at this; exact this
    rw [hkd] at HO
    have HDT := hide hdt
    obtain ⟨ea, ec, hve, _, _, _⟩ := hdt
    rw [hve] at q2
    have hlI : (rn : Int) < (l.length : Int) := by omega
    have hcap2 : cap ≤ 9223372036854775807 := by have := C.cap2; unfold maxLen at this; omega
    have hsm := HF1.out.small
    have hbz := below_box w1 (.cells #[.string me.path, .int .i64 me.kind, .slice ea me.data.length ec, .string me.to] 40)
    have HBZ : Hid (Below w.heap.size w (w1.alloc (.cells #[.string me.path, .int .i64 me.kind, .slice ea me.data.length ec, .string me.to] 40))) := HB1.out.trans (hbz.mono HB1.out.size)
    have HXZ := hide (NdH (w := w1) hve)
    have HSZ := hide (HDT.out.turn (Turn.of_below hbz))
    have HLN := hide hlt
    subst he
    clear C HLT hme hkd hbz hpa hda HF1
    by_cases hk2 : me.kind = 2
    · rw [if_pos hk2] at HO
      have hkb : (me.kind != 2) = false := by rw [hk2]; rfl
      clear hk2
      go_wp2_with fail
      clear q0 q1 q2 q3 a0
      have hZ : Hid (w1.heap.size < (w1.alloc (.cells #[.string me.path, .int .i64 me.kind, .slice ea me.data.length ec, .string me.to] 40)).heap.size) := HXZ.out.lt
      generalize w1.alloc (.cells #[.string me.path, .int .i64 me.kind, .slice ea me.data.length ec, .string me.to] 40) = w2 at *
      generalize w1.heap.size = Z at *
      have bd : Below w2.heap.size w2 w2.drew := ⟨rfl, rfl, rfl, Nat.le_refl _, fun _ _ => rfl⟩
      have hCl := lib_CloneB w2.drew me.vd me.data ((HSZ.out.turn (Turn.of_below bd)).sub (fun k e => e.elim)) (by omega)
      have hc2 := (HXZ.out.heap (W' := w2.drew) rfl).cells.c2
      rw [hve] at hCl hc2
      have DD := And.intro (HXZ.out.heap (W' := w2.drew) rfl).cells.c0 hc2
      obtain ⟨d0, d2⟩ := id DD
      have HXD : Hid (XH w2.drew Z me) := HXZ.out.heap rfl
      have HVE := hide hve
      clear bd hve hc2
      go_region_held_law (fun w' => w'.cell? ⟨Z, 0, none⟩ = some (.string me.path) ∧ w'.cell? ⟨Z, 2, none⟩ = some (.slice ea me.data.length ec))
        (first | with_reducible assumption)
        (first | (go_at_call 26; refine hCl.mono ?_; rintro e W3 ⟨⟨vb, rfl, hsb⟩, hb3⟩; have HSB := hide hsb; have HB3 := hide hb3; have GG := twoC (HXD.out.heap (hb3.block _ HXD.out.lt)) HVE.out; clear hsb hb3))
      all_goals
        go_wp2
        (try simp only [Exit.inBlock, Exit.then])
        refine bodyPost_ret (results_tmp4 rfl _ _ _) rfl ?_
        exact ⟨HE.out _ _ (.inr (by rw [HO.out]; exact ⟨rfl, HLN.out, _, by rw [HPA.out]; rfl, by rw [HDA.out]; exact HSB.out.low HBZ.out.size⟩)), HBZ.out.drew.trans (HB3.out.mono HBZ.out.size)⟩
    · rw [if_neg hk2] at HO
      have hkb : (me.kind != 2) = true := by simpa using hk2
      clear hk2
      go_wp2
      (try simp only [Exit.inBlock, Exit.then])
      refine bodyPost_ret (results_tmp4 rfl _ _ _) rfl ?_
      exact ⟨HE.out _ _ (.inl (by rw [HO.out]; exact ⟨by decide, rfl⟩)), HBZ.out⟩
  · rw [if_pos he] at HO
    have heb : (re != 0) = true := by simpa using he
    go_wp2
    (try simp only [Exit.inBlock, Exit.then])
    refine bodyPost_ret (results_tmp4 rfl _ _ _) rfl ?_
    exact ⟨HE.out _ _ (.inl (by rw [HO.out]; exact ⟨he, rfl⟩)), HB1.out⟩
end Go.Proofs.YthkpcafbfgfjpaaDoor
