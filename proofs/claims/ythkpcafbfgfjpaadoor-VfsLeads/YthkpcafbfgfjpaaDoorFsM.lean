
/-
  Resolve, Open and Len keep their contracts.
-/
import Derived.Test.YthkpcafbfgfjpaaDoorFsL
set_option linter.unusedVariables false
namespace Go.Proofs.YthkpcafbfgfjpaaDoor
open Go.RowKit Go.PlainAid
theorem runW_ok {l : List Nd} (hl : ∀ n ∈ l, n.to.size ≤ 4096) (hpos : 0 < l.length) : ∀ (f : Nat) (s : Way), s.pos < l.length → s.links ≤ 8 → (runW l f s).1 = 0 → (runW l f s).2 < l.length
  | 0, s, _, _, h => by cases h
  | f + 1, ⟨p, [], k⟩, hp, _, _ => hp
  | f + 1, ⟨p, n :: r, k⟩, hp, hk, h => by
    unfold runW at h ⊢
    by_cases e : (stepW l n ⟨p, r, k⟩).1 = 0
    · rw [if_pos e] at h ⊢
      obtain ⟨h1, h2, _⟩ := stepW_ok hl hpos n r p k hp hk e
      exact runW_ok hl hpos f _ h1 h2 h
    · rw [if_neg e] at h
      exact absurd h e
theorem findN_lt {W : World} {B F M : Nat} {v : Value} {l : List Nd} (hf : FsAt W B F M v l) (p : List UInt8) (h : (findN l p).1 = 0) : (findN l p).2 < l.length := by
  unfold findN at h ⊢
  by_cases e : clE p ≠ 0
  · rw [if_pos e]; exact hf.pos
  · rw [if_neg e] at h ⊢
    exact runW_ok (fun n hn => (hf.knd n hn).2.2) hf.pos _ _ hf.pos (Nat.zero_le _) h
def resV (l : List Nd) (p : List UInt8) : Value := if (findN l p).1 = 0 then .tuple #[.int .i64 ((findN l p).2 : Nat), .string (tx (pathAt l (findN l p).2)), .int .i64 0] else .tuple #[.int .i64 0, .string ⟨#[]⟩, .int .i64 (findN l p).1]
set_option maxHeartbeats 2000000 in
theorem vfs_Resolve (w : World) (hm : Mx w) (hg : 0 < w.heap.size) (B F M : Nat) (v : Value) (l : List Nd) (hf : FsAt w B F M v l) (p : ByteArray) (hp : p.size ≤ 4096) :
    Calls Tryd.prog 8 #[.pointer (some ⟨F, 0, none⟩), .string p] w fun e w' => e = .returned (resV l p.data.toList) ∧ Below w.heap.size w w' := by
  have hFi := vfs_find w hm hg B F M v l hf p hp
  have HLT := hide (findN_lt hf p.data.toList)
  have HF := hide hf
  unfold findV at hFi
  have HV : Hid (resV l p.data.toList = if (findN l p.data.toList).1 = 0 then .tuple #[.int .i64 ((findN l p.data.toList).2 : Nat), .string (tx (pathAt l (findN l p.data.toList).2)), .int .i64 0] else .tuple #[.int .i64 0, .string ⟨#[]⟩, .int .i64 (findN l p.data.toList).1]) := rfl
  generalize resV l p.data.toList = V at *
  generalize findN l p.data.toList = R at *
  obtain ⟨re, rn⟩ := R
  dsimp only at hFi HLT HV
  clear hm hf
  go_enter Tryd.func8, Tryd.ntmps8
  go_wp2_with fail
  refine hFi.mono ?_
  rintro e w1 ⟨rfl, hb1⟩
  have HB1 := hide hb1
  have HF1 := hide (HF.out.stay hb1)
  clear hFi hb1
  by_cases he : re = 0
  · rw [if_pos he] at HV
    have hlt := HLT.out he
    obtain ⟨g, cap, rfl, C⟩ := HF1.out.cells
    have a0 := C.a0
    have c0 := C.c0 rn hlt
    rw [pathAt_of hlt, tx_data] at HV
    have hlI : (rn : Int) < (l.length : Int) := by omega
    have hcap2 : cap ≤ 9223372036854775807 := by have := C.cap2; unfold maxLen at this; omega
    have hsm := HF1.out.small
    generalize (l[rn]'hlt).path = pp at *
    subst he
    clear C HLT hlt
    go_wp2_with fail
    go_quiet (fail)
    go_wp2
    go_ret3
    exact ⟨by rw [HV.out]; rfl, HB1.out.trans ((below_drewN w1 _).mono HB1.out.size)⟩
  · rw [if_neg he] at HV
    have heb : (re != 0) = true := by simpa using he
    clear he
    go_wp2
    go_ret3
    exact ⟨by rw [HV.out]; rfl, HB1.out⟩
theorem vfs_Len (w : World) (B F M : Nat) (v : Value) (l : List Nd) (hf : FsAt w B F M v l) : Calls Tryd.prog 16 #[.pointer (some ⟨F, 0, none⟩)] w fun e w' => e = .returned (.int .i64 (l.length : Nat)) ∧ w = w' := by
  obtain ⟨g, cap, rfl, C⟩ := hf.cells
  have a0 := C.a0
  clear C hf
  go_enter Tryd.func16, Tryd.ntmps16
  go_wp2
  go_ret
  exact ⟨rfl, rfl⟩
end Go.Proofs.YthkpcafbfgfjpaaDoor
