
/-
  check, isDir and below keep their contracts.
-/
import Derived.Test.YthkpcafbfgfjpaaDoorFsB
set_option linter.unusedVariables false
namespace Go.Proofs.YthkpcafbfgfjpaaDoor
open Go.RowKit Go.PlainAid
/-- What is wrong with a node, the others aside. -/
def chkE (p : List UInt8) (k : Int) (dn : Nat) (to : ByteArray) : Int := if isCl p = false ∨ p = [47] then 40 else if fitsB k dn to = false then 60 else if 262144 < dn then 67 else joinE [47] to.data.toList
theorem eq_root (p : ByteArray) : (p.toList == [47]) = decide (p.data.toList = [47]) := by
  rw [tl]
  by_cases h : p.data.toList = [47]
  · rw [h]; rfl
  · rw [beq_eq_false_iff_ne.2 h, decide_eq_false h]
set_option maxHeartbeats 2000000 in
theorem vfs_check (w : World) (hm : Mx w) (p to : ByteArray) (k : Int) (da : Option Addr) (dn dc : Nat) (hd : dn ≤ 9223372036854775807) (hp : p.size ≤ 4096) (ht : to.size ≤ 4096) :
    Calls Tryd.prog 31 #[.agg #[.string p, .int .i64 k, .slice da dn dc, .string to]] w fun e w' => e = .returned (.int .i64 (chkE p.data.toList k dn to)) ∧ Below w.heap.size w w' := by
  have HB : Hid (Below w.heap.size w (w.alloc (.cells #[.string p, .int .i64 k, .slice da dn dc, .string to] 40))) := below_box _ _
  have hI := path_IsClean p (w.alloc (.cells #[.string p, .int .i64 k, .slice da dn dc, .string to] 40)) (hm.below HB.out) (by omega)
  have HE : Hid (chkE p.data.toList k dn to = if isCl p.data.toList = false ∨ p.data.toList = [47] then 40 else if fitsB k dn to = false then 60 else if 262144 < dn then 67 else joinE [47] to.data.toList) := rfl
  generalize chkE p.data.toList k dn to = R at *
  have hr := eq_root p
  have x0 : (w.alloc (.cells #[.string p, .int .i64 k, .slice da dn dc, .string to] 40)).cell? ⟨w.heap.size, 0, none⟩ = some (.string p) := by simp
  have x1 : (w.alloc (.cells #[.string p, .int .i64 k, .slice da dn dc, .string to] 40)).cell? ⟨w.heap.size, 1, none⟩ = some (.int .i64 k) := by simp
  have x2 : (w.alloc (.cells #[.string p, .int .i64 k, .slice da dn dc, .string to] 40)).cell? ⟨w.heap.size, 2, none⟩ = some (.slice da dn dc) := by simp
  have x3 : (w.alloc (.cells #[.string p, .int .i64 k, .slice da dn dc, .string to] 40)).cell? ⟨w.heap.size, 3, none⟩ = some (.string to) := by simp
  have HX : Hid (w.heap.size < (w.alloc (.cells #[.string p, .int .i64 k, .slice da dn dc, .string to] 40)).heap.size) := by unfold Hid; simp
  have HM : Hid (Mx (w.alloc (.cells #[.string p, .int .i64 k, .slice da dn dc, .string to] 40))) := hm.below HB.out
  go_enter Tryd.func31, Tryd.ntmps31
  go_wp2_with fail
  generalize w.alloc (.cells #[.string p, .int .i64 k, .slice da dn dc, .string to] 40) = w0 at *
  refine hI.mono ?_
  rintro e w1 ⟨rfl, hb1⟩
  have y0 : w1.cell? ⟨w.heap.size, 0, none⟩ = some (.string p) := by rw [World.cell?_of_block (a := ⟨w.heap.size, 0, none⟩) (hb1.block _ HX.out)]; exact x0
  have y1 : w1.cell? ⟨w.heap.size, 1, none⟩ = some (.int .i64 k) := by rw [World.cell?_of_block (a := ⟨w.heap.size, 1, none⟩) (hb1.block _ HX.out)]; exact x1
  have y2 : w1.cell? ⟨w.heap.size, 2, none⟩ = some (.slice da dn dc) := by rw [World.cell?_of_block (a := ⟨w.heap.size, 2, none⟩) (hb1.block _ HX.out)]; exact x2
  have y3 : w1.cell? ⟨w.heap.size, 3, none⟩ = some (.string to) := by rw [World.cell?_of_block (a := ⟨w.heap.size, 3, none⟩) (hb1.block _ HX.out)]; exact x3
  have HB1 : Hid (Below w.heap.size w w1) := HB.out.trans (hb1.mono HB.out.size)
  have HM1 := hide (HM.out.below hb1)
  have HX1 : Hid (w.heap.size < w1.heap.size) := Nat.lt_of_lt_of_le HX.out hb1.size
  clear hI hb1 x0 x1 x2 x3 HB HM HX hm
  cases hc : isCl p.data.toList with
  | false =>
    rw [if_pos (.inl hc)] at HE
    go_wp2
    go_ret
    exact ⟨by rw [HE.out]; rfl, HB1.out⟩
  | true =>
    by_cases hrt : p.data.toList = [47]
    · rw [if_pos (.inr hrt)] at HE
      rw [decide_eq_true hrt] at hr
      go_wp2
      go_ret
      exact ⟨by rw [HE.out]; rfl, HB1.out⟩
    · rw [if_neg (by rintro (e | e); rw [hc] at e; cases e; exact hrt e)] at HE
      rw [decide_eq_false hrt] at hr
      have hFt := vfs_fits w1 p to k da dn dc hd
      clear hc hrt
      go_wp2_with fail
      refine hFt.mono ?_
      rintro e w2 ⟨rfl, hb2⟩
      have z2 : w2.cell? ⟨w.heap.size, 2, none⟩ = some (.slice da dn dc) := by rw [World.cell?_of_block (a := ⟨w.heap.size, 2, none⟩) (hb2.block _ HX1.out)]; exact y2
      have z3 : w2.cell? ⟨w.heap.size, 3, none⟩ = some (.string to) := by rw [World.cell?_of_block (a := ⟨w.heap.size, 3, none⟩) (hb2.block _ HX1.out)]; exact y3
      have HB2 : Hid (Below w.heap.size w w2) := HB1.out.trans (hb2.mono HB1.out.size)
      have HM2 := hide (HM1.out.below hb2)
      clear hFt hb2 y0 y1 y2 y3 HM1 HB1
      cases hft : fitsB k dn to with
      | false =>
        rw [if_pos hft] at HE
        go_wp2
        go_ret
        exact ⟨by rw [HE.out]; rfl, HB2.out⟩
      | true =>
        rw [if_neg (by rw [hft]; simp)] at HE
        by_cases hbig : 262144 < dn
        · rw [if_pos hbig] at HE
          have hbI : (262144 : Int) < (dn : Int) := by omega
          go_wp2
          go_ret
          exact ⟨by rw [HE.out]; rfl, HB2.out⟩
        · rw [if_neg hbig] at HE
          have hbI : ¬ (262144 : Int) < (dn : Int) := by omega
          have hJ := path_Join ⟨#[47]⟩ to w2 HM2.out (by show (1 : Nat) ≤ 40000; omega) (by omega)
          rw [show (⟨#[47]⟩ : ByteArray).data.toList = [47] from rfl] at hJ
          clear hft hbig
          generalize joinE [47] to.data.toList = E at *
          generalize tx (joinT [47] to.data.toList) = T at *
          go_wp2_with fail
          refine hJ.mono ?_
          rintro e w3 ⟨rfl, hb3⟩
          go_wp2
          go_ret
          exact ⟨by rw [HE.out]; rfl, HB2.out.trans (hb3.mono HB2.out.size)⟩
/-- Is the node of that path a folder? -/
def kindAt (l : List Nd) (k : Nat) : Int := ((l[k]?).map Nd.kind).getD 0
theorem kindAt_of {l : List Nd} {k : Nat} (h : k < l.length) : kindAt l k = l[k].kind := by unfold kindAt; rw [List.getElem?_eq_getElem h]; rfl
def dirB (l : List Nd) (p : List UInt8) : Bool := isIn (pathsOf l) p && (kindAt l (numOf (pathsOf l) p) == 1)
theorem pathsOf_len (l : List Nd) : (pathsOf l).length = l.length := by unfold pathsOf; rw [List.length_map]
set_option maxHeartbeats 1000000 in
theorem vfs_isDir (w : World) (B F M : Nat) (v : Value) (l : List Nd) (h : FsAt w B F M v l) (p : ByteArray) (hp : p.size ≤ maxLen) :
    Calls Tryd.prog 18 #[.pointer (some ⟨F, 0, none⟩), .string p] w fun e w' => e = .returned (.bool (dirB l p.data.toList)) ∧ w = w' := by
  obtain ⟨g, cap, rfl, C⟩ := h.cells
  have hl := h.map.ok p hp
  have a0 := C.a0
  have a1 := C.a1
  have hc1 := C.c1
  have hsm := h.small
  have hcap : cap ≤ 9223372036854775807 := by have := C.cap2; unfold maxLen at this; omega
  unfold dirB
  cases hin : isIn (pathsOf l) p.data.toList with
  | false =>
    rw [hin] at hl
    generalize numOf (pathsOf l) p.data.toList = k at *
    clear hc1
    go_enter Tryd.func18, Tryd.ntmps18
    go_wp2
    go_ret
    exact ⟨rfl, rfl⟩
  | true =>
    obtain ⟨hlt, _⟩ := isIn_get hin
    rw [pathsOf_len] at hlt
    rw [hin] at hl
    generalize numOf (pathsOf l) p.data.toList = k at *
    have x1 := hc1 k hlt
    have hkI : (k : Int) < (l.length : Int) := by omega
    rw [kindAt_of hlt]
    clear hc1
    generalize l[k].kind = kd at *
    go_enter Tryd.func18, Tryd.ntmps18
    go_wp2
    go_ret
    exact ⟨rfl, rfl⟩
/-- The path of a name in a folder. -/
def belowOf (d n : List UInt8) : List UInt8 := if d = [47] then 47 :: n else d ++ 47 :: n
set_option maxHeartbeats 1000000 in
theorem vfs_below (w : World) (d n : ByteArray) (hd : d.size ≤ 40000) (hn : n.size ≤ 40000) : Calls Tryd.prog 52 #[.string d, .string n] w fun e w' => e = .returned (.string (tx (belowOf d.data.toList n.data.toList))) ∧ w = w' := by
  have hr := eq_root d
  by_cases h : d.data.toList = [47]
  · rw [decide_eq_true h] at hr
    have hT : (⟨#[47]⟩ : ByteArray) ++ n = tx (belowOf d.data.toList n.data.toList) := by
      unfold belowOf
      rw [if_pos h, ← tx_data n, show (⟨#[47]⟩ : ByteArray) = tx [47] from rfl, tx_append, data_tx]; rfl
    clear h
    go_enter Tryd.func52, Tryd.ntmps52
    go_wp2
    go_ret
    exact ⟨by rw [← hT]; rfl, rfl⟩
  · rw [decide_eq_false h] at hr
    have hT : d ++ (⟨#[47]⟩ : ByteArray) ++ n = tx (belowOf d.data.toList n.data.toList) := by
      unfold belowOf
      rw [if_neg h, ← add_slash, tx_data]
    clear h
    go_enter Tryd.func52, Tryd.ntmps52
    go_wp2
    go_ret
    exact ⟨by rw [← hT]; rfl, rfl⟩
end Go.Proofs.YthkpcafbfgfjpaaDoor
