
/-
  find and Resolve keep their contracts.
-/
import Derived.Test.YthkpcafbfgfjpaaDoorFsK
import Derived.Deep.LoopGhost
set_option linter.unusedVariables false
namespace Go.Proofs.YthkpcafbfgfjpaaDoor
open Go.RowKit Go.PlainAid
theorem numOf_lt {ps : List (List UInt8)} (h : 0 < ps.length) (s : List UInt8) : numOf ps s < ps.length := by
  cases e : isIn ps s with
  | true => exact (isIn_get e).1
  | false =>
    unfold isIn at e
    rw [Option.isSome_eq_false_iff, Option.isNone_iff_eq_none] at e
    unfold numOf
    rw [e]
    exact h
def mu (s : Way) : Nat := (8 - s.links) * 5000 + s.left.length
theorem toAt_len {l : List Nd} (hl : ∀ n ∈ l, n.to.size ≤ 4096) (k : Nat) : (toAt l k).length ≤ 4096 := by
  unfold toAt
  cases e : l[k]? with
  | none => simp
  | some n =>
    have := hl n (List.mem_of_getElem? e)
    simp only [Option.map_some, Option.getD_some]
    rw [← size_list]; exact this
theorem stepW_ok {l : List Nd} (hl : ∀ n ∈ l, n.to.size ≤ 4096) (hpos : 0 < l.length) (n : List UInt8) (r : List (List UInt8)) (p k : Nat) (hp : p < l.length) (hk : k ≤ 8) (h0 : (stepW l n ⟨p, r, k⟩).1 = 0) :
    (stepW l n ⟨p, r, k⟩).2.pos < l.length ∧ (stepW l n ⟨p, r, k⟩).2.links ≤ 8 ∧ mu (stepW l n ⟨p, r, k⟩).2 < mu ⟨p, n :: r, k⟩ := by
  have hn : ∀ s, numOf (pathsOf l) s < l.length := fun s => by have := numOf_lt (ps := pathsOf l) (by rw [pathsOf_len]; exact hpos) s; rwa [pathsOf_len] at this
  have hm : ∀ q, mu ⟨q, r, k⟩ < mu ⟨p, n :: r, k⟩ := fun q => by unfold mu; simp
  unfold stepW at h0 ⊢
  by_cases a : kindAt l p = 2
  · simp only [if_pos a] at h0; cases h0
  · simp only [if_neg a] at h0 ⊢
    by_cases b : n = [46, 46]
    · simp only [if_pos b] at h0 ⊢; exact ⟨hn _, hk, hm _⟩
    · simp only [if_neg b] at h0 ⊢
      by_cases c : isIn (pathsOf l) (belowOf (pathAt l p) n) = false
      · simp only [if_pos c] at h0; cases h0
      · simp only [if_neg c] at h0 ⊢
        by_cases d : kindAt l (numOf (pathsOf l) (belowOf (pathAt l p) n)) = 3
        · simp only [if_pos d] at h0 ⊢
          unfold followW at h0 ⊢
          by_cases e : k = 8
          · simp only [if_pos e] at h0; cases h0
          · simp only [if_neg e] at h0 ⊢
            have h1 := toAt_len hl (numOf (pathsOf l) (belowOf (pathAt l p) n))
            have h2 := names_len (toAt l (numOf (pathsOf l) (belowOf (pathAt l p) n)))
            refine ⟨?_, by omega, ?_⟩
            · split
              · exact hpos
              · exact hp
            · unfold mu
              simp only [List.length_append, List.length_cons]
              omega
        · simp only [if_neg d] at h0 ⊢; exact ⟨hn _, hk, hm _⟩
theorem SrcS.apart {w : World} {F G : Nat → Prop} {v : Value} {l : List (List UInt8)} (h : SrcS w F v l) (hs : ∀ k, k < w.heap.size → ¬ G k) : SrcS w G v l := by
  obtain ⟨a, cap, rfl, h1, h2, h3⟩ := h
  refine ⟨a, cap, rfl, h1, h2, ?_⟩
  rcases h3 with h3 | ⟨g, o, rfl, hg, hc⟩
  · exact .inl h3
  · by_cases e : l = []
    · exact .inl e
    · exact .inr ⟨g, o, rfl, hs g (World.block_lt_of_cell? _ _ (hc 0 (List.length_pos_iff.2 e))), hc⟩
def findK (p : List UInt8) : Nat := 40000 + (names p).length
/-- The number of the node to which a path leads, behind the error. -/
def findN (l : List Nd) (p : List UInt8) : Int × Nat := if clE p ≠ 0 then (clE p, 0) else runW l (findK p + 1) ⟨0, names p, 0⟩
theorem findK_mu (p : List UInt8) : mu ⟨0, names p, 0⟩ ≤ findK p := by
  unfold mu findK
  show (8 - 0) * 5000 + (names p).length ≤ _
  omega
theorem findK_top (p : List UInt8) (h : p.length ≤ 4096) : findK p ≤ 44200 := by
  have := names_len p
  unfold findK
  omega
/-- In the loop. -/
structure L1 (w wr : World) (B F M : Nat) (v : Value) (l : List Nd) (X : Nat) (R : Int × Nat) (k : Nat) (vl : Value) (s : Way) : Prop where
  way : WayAt wr X F vl s
  fs : FsX wr B F M v l X
  mx : Mx wr
  below : Below w.heap.size w wr
  pos : s.pos < l.length
  links : s.links ≤ 8
  mu_ : mu s ≤ k
  run : runW l (k + 1) s = R
  top : k ≤ 44200
  new : w.heap.size ≤ X
def L2 (w wr : World) (B F M : Nat) (v : Value) (l : List Nd) (X : Nat) (R : Int × Nat) (k : Nat) : Prop := ∃ vl s, L1 w wr B F M v l X R k vl s
theorem find_start {w w1 w2 : World} (hm : Mx w) {B F M : Nat} {v : Value} {l : List Nd} (hf : FsAt w B F M v l) (hb1 : Below w.heap.size w w1) (hb2 : Below w1.heap.size w1 w2) {p : List UInt8} (hp : p.length ≤ 4096) {vl : Value} (ho : OwnS w2 w1.heap.size vl ((names p).map tx)) (K : Nat) (hK : mu ⟨0, names p, 0⟩ ≤ K) (hK2 : K ≤ 44200) :
    L2 w (w2.alloc (.cells #[.pointer (some ⟨F, 0, none⟩), .int .i64 0, vl, .int .i64 0] 72)) B F M v l w2.heap.size (runW l (K + 1) ⟨0, names p, 0⟩) K := by
  have b12 : Below w.heap.size w w2 := hb1.trans (hb2.mono hb1.size)
  have hbx := below_box w2 (.cells #[.pointer (some ⟨F, 0, none⟩), .int .i64 0, vl, .int .i64 0] 72)
  have b : Below w.heap.size w (w2.alloc (.cells #[.pointer (some ⟨F, 0, none⟩), .int .i64 0, vl, .int .i64 0] 72)) := b12.trans (hbx.mono b12.size)
  have hf2 := hf.stay b12
  have hn := names_len p
  refine ⟨vl, ⟨0, names p, 0⟩, ⟨heap_alloc_new w2 _, ?_, fun n hm => ?_, ?_⟩, ⟨hf2.stay hbx, ⟨?_, ?_, ?_⟩, fun n hn => ?_⟩, hm.below b, b, hf.pos, Nat.zero_le _, hK, rfl, hK2, b12.size⟩
  · exact ((OwnS.src ho (F := fun _ => False) (fun _ _ => id)).apart (fun k hk e => by omega)).turn (Turn.of_below hbx)
  · have := name_len p n hm; omega
  · show (names p).length ≤ 60000; omega
  · have := (Array.getElem?_eq_some_iff.1 hf2.head).1; omega
  · have := hf2.map.lt; omega
  · intro e; have := (World.ownsRow.lt hf2.row _ e).2; omega
  · exact ((hf2.dat n hn).sub' (fun k hk e => by
      rcases e with e | e
      · exact e
      · omega)).turn (Turn.of_below hbx)
def findV (R : Int × Nat) : Value := .tuple #[.int .i64 (R.2 : Nat), .int .i64 R.1]
set_option maxHeartbeats 4000000 in
set_option maxRecDepth 20000 in
theorem vfs_find (w : World) (hm : Mx w) (hg : 0 < w.heap.size) (B F M : Nat) (v : Value) (l : List Nd) (hf : FsAt w B F M v l) (p : ByteArray) (hp : p.size ≤ 4096) :
    Calls Tryd.prog 23 #[.pointer (some ⟨F, 0, none⟩), .string p] w fun e w' => e = .returned (findV (findN l p.data.toList)) ∧ Below w.heap.size w w' := by
  have hC := path_Clean p w hm (by omega)
  have HFN : Hid (findN l p.data.toList = if clE p.data.toList ≠ 0 then (clE p.data.toList, 0) else runW l (findK p.data.toList + 1) ⟨0, names p.data.toList, 0⟩) := rfl
  have hpl : p.data.toList.length ≤ 4096 := by rw [← size_list]; exact hp
  have HK1 := hide (findK_mu p.data.toList)
  have HK2 := hide (findK_top p.data.toList hpl)
  generalize findN l p.data.toList = R at *
  generalize findK p.data.toList = K at *
  generalize clE p.data.toList = ce at *
  generalize tx (clT p.data.toList) = ct at *
  have HM := hide hm
  have HF := hide hf
  have HG := hide hg
  clear hm hf hg
  go_enter Tryd.func23, Tryd.ntmps23
  go_wp2_with fail
  refine hC.mono ?_
  rintro e w1 ⟨rfl, hb1⟩
  have HB1 := hide hb1
  clear hC hb1
  by_cases hce : ce = 0
  · rw [if_neg (by simpa using hce)] at HFN
    subst hce
    have hP := path_Parts p w1 (HM.out.below HB1.out) (by omega)
    go_wp2_with fail
    refine hP.mono ?_
    rintro e w2 ⟨vl, rfl, ho, hb2⟩
    have HS := hide (find_start HM.out HF.out HB1.out hb2 hpl ho K HK1.out HK2.out)
    rw [← HFN.out] at HS
    obtain ⟨va, vn, vc, hvl⟩ := ho.sl
    have HO := hide ho
    clear hP ho hb2 HFN
    rw [hvl] at HS ⊢
    clear HO hvl
    have HX : Hid (w2.heap.size = w2.heap.size) := rfl
    go_wp2_with fail
    generalize w2.alloc (.cells #[.pointer (some ⟨F, 0, none⟩), .int .i64 0, .slice va vn vc, .int .i64 0] 72) = w3 at *
    generalize w2.heap.size = X at *
    clear HX
    go_loopg [9] K (fun k _ wr => Hid (L2 w wr B F M v l X R k))
    case atStart => exact HS
    case round =>
      obtain ⟨vl, s, J⟩ := hrel
      obtain ⟨x0, x1, x2, x3, f1, f2, f3⟩ := way_cells J.way.box
      obtain ⟨sp, sl, sk⟩ := s
      dsimp only at x1 x3
      have HJ := hide J
      cases sl with
      | nil =>
        obtain ⟨a, cap, hvl, h1, h2, _⟩ := J.way.row
        have hR : (0, sp) = R := J.run
        subst hvl
        clear J
        go_wp2
        go_ret2
        exact ⟨by rw [← hR]; rfl, HJ.out.below⟩
      | cons n r =>
        have hmu := J.mu_
        unfold mu at hmu
        simp only [List.length_cons] at hmu
        have htop := J.top
        have hSt := vfs_step wr J.mx B F M v l X (by have := J.new; have := HG.out; omega) J.fs vl sp sk n r J.way J.pos J.links (by omega)
        obtain ⟨a, cap, hvl, h1, h2, _⟩ := J.way.row
        have hrun : (if (stepW l n ⟨sp, r, sk⟩).1 = 0 then runW l gk (stepW l n ⟨sp, r, sk⟩).2 else ((stepW l n ⟨sp, r, sk⟩).1, 0)) = R := J.run
        have HRUN := hide hrun
        have hok := stepW_ok (fun m hm => (J.fs.fs.knd m hm).2.2) J.fs.fs.pos n r sp sk J.pos J.links
        have HOK := hide hok
        have HMU : Hid (mu ⟨sp, n :: r, sk⟩ ≤ gk) := J.mu_
        subst hvl
        rw [List.length_cons] at x2
        have hl0 : (0 : Int) < (r.length : Int) + 1 := by omega
        clear J hrun hok hmu htop h1 h2
        go_wp2_with fail
        refine hSt.mono ?_
        rintro e w5 ⟨rfl, ht5, hw5⟩
        have HT5 := hide ht5
        have HW5 := hide hw5
        clear hSt ht5 hw5 x0 x1 x2 x3 f1 f2 f3
        by_cases hz : (stepW l n ⟨sp, r, sk⟩).1 = 0
        · obtain ⟨vl', W5⟩ := HW5.out hz
          obtain ⟨o1, o2, o3⟩ := HOK.out hz
          have hgk : 1 ≤ gk := by have := HMU.out; omega
          obtain ⟨q, hq⟩ : ∃ q, gk = q + 1 := ⟨gk - 1, by omega⟩
          have HQ := hide hq
          have HN : Hid (L2 w w5 B F M v l X R q) := by
            have h1 := HRUN.out
            rw [if_pos hz, hq] at h1
            have h2 := HMU.out
            exact ⟨vl', (stepW l n ⟨sp, r, sk⟩).2, W5, HJ.out.fs.turn HT5.out, HM.out.below (HJ.out.below.trans (HT5.out.below HJ.out.below.size (fun k e => by rw [e]; exact HJ.out.new))), HJ.out.below.trans (HT5.out.below HJ.out.below.size (fun k e => by rw [e]; exact HJ.out.new)), o1, o2, by omega, h1, by have := HJ.out.top; omega, HJ.out.new⟩
          rw [hz]
          clear hz hq W5 o1 o2 o3 hgk
          go_wp2
          go_roundg q
          case measure => have := HQ.out; omega
          case rel => exact HN
        · have hzb : ((stepW l n ⟨sp, r, sk⟩).1 != 0) = true := by simpa using hz
          have hR := HRUN.out
          rw [if_neg hz] at hR
          have HR := hide hR
          have HB5 : Hid (Below w.heap.size w w5) := HJ.out.below.trans (HT5.out.below HJ.out.below.size (fun k e => by rw [e]; exact HJ.out.new))
          clear hz hR HRUN HOK HW5 HT5
          generalize (stepW l n ⟨sp, r, sk⟩).1 = se at *
          go_wp2
          go_ret2
          exact ⟨by rw [← HR.out]; rfl, HB5.out⟩
  · rw [if_pos hce] at HFN
    have hceb : (ce != 0) = true := by simpa using hce
    clear hce
    go_wp2
    go_ret2
    exact ⟨by rw [HFN.out]; rfl, HB1.out⟩
end Go.Proofs.YthkpcafbfgfjpaaDoor
