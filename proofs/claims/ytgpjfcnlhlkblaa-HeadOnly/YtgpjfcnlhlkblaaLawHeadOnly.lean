
/-
  HeadOnly returns true for every row of bytes, every place and every byte, and the row reads afterwards as it read before: no condition.
-/
import Derived.Test.YtgpjfcnlhlkblaaRows
import Derived.Test.YtgpjfcnlhlkblaaHdQ
import Derived.WalkKit
import Derived.ProofKit
import Derived.OpenShut
import Derived.ShutString
import Derived.ChangeOld
import Derived.Below
set_option linter.unusedVariables false
namespace Go.Proofs.Ytgpjfcnlhlkblaa
namespace LHeadOnly
open Go.ChangeShapes Go.WideShapes Go.ChangeAt Go.RowKit Go.PlainAid Go.Sort
theorem win_set (l : List UInt8) (p s k : Nat) (c : UInt8) (h : k < p ∨ p + s ≤ k) : win (l.set k c) p s = win l p s := by
  unfold win
  apply List.ext_getElem?
  intro j
  rw [List.getElem?_take, List.getElem?_take, List.getElem?_drop, List.getElem?_drop]
  by_cases hj : j < s
  · rw [if_pos hj, if_pos hj, List.getElem?_set_ne (by omega)]
  · rw [if_neg hj, if_neg hj]
theorem rd_set (l : List UInt8) (p s k : Nat) (c : UInt8) (h : k < p ∨ p + s ≤ k) : rd (l.set k c) p s = rd l p s := by
  unfold rd
  rw [win_set l p s k c h, List.length_set]
theorem kind_set (l : List UInt8) (k : Nat) (c : UInt8) (h : 64 ≤ k) : kindE (l.set k c) = kindE l := by
  unfold kindE
  rw [List.length_set, win_set _ _ _ _ _ (by omega), win_set _ _ _ _ _ (by omega), rd_set _ _ _ _ _ (by omega), rd_set _ _ _ _ _ (by omega)]
theorem table_set {l : List UInt8} {all : List Ph} (h : tableZ l = .ok all) (k : Nat) (c : UInt8) (h64 : 64 ≤ k) (hk : ¬ (rd l 32 8 ≤ k ∧ k - rd l 32 8 < 56 * all.length)) : tableZ (l.set k c) = .ok all := by
  have h0 := h
  unfold tableZ at h ⊢
  rw [kind_set l k c h64]
  have ef : fits (l.set k c) = fits l := by
    unfold fits
    rw [List.length_set, rd_set _ _ _ _ _ (by omega), rd_set _ _ _ _ _ (by omega), rd_set _ _ _ _ _ (by omega), rd_set _ _ _ _ _ (by omega)]
  rw [ef, rd_set _ _ _ _ _ (by omega), rd_set _ _ _ _ _ (by omega)]
  split at h
  · cases h
  · rw [if_neg ‹_›]
    split at h
    · rw [if_pos ‹_›]
      injection h with h
      rw [← h]
      congr 1
      have hlen : all.length = rd l 56 2 := by rw [← h]; simp [tabFrom]
      unfold tabFrom
      apply List.map_congr_left
      intro i hi
      have hi' := List.mem_range.1 hi
      unfold phAt
      rw [hlen] at hk
      have hh : ∀ o s, o + s ≤ 56 → k < rd l 32 8 + i * 56 + o ∨ rd l 32 8 + i * 56 + o + s ≤ k := fun o s ho => by omega
      rw [rd_set l (rd l 32 8 + i * 56) 4 k c (by have := hh 0 4 (by omega); omega), rd_set _ _ _ _ _ (hh 4 4 (by omega)), rd_set _ _ _ _ _ (hh 8 8 (by omega)), rd_set _ _ _ _ _ (hh 16 8 (by omega)), rd_set _ _ _ _ _ (hh 32 8 (by omega)), rd_set _ _ _ _ _ (hh 40 8 (by omega)), rd_set _ _ _ _ _ (hh 48 8 (by omega))]
    · cases h
theorem parse_set {l : List UInt8} {all : List Ph} (h : tableZ l = .ok all) (k : Nat) (c : UInt8) (h64 : 64 ≤ k) (hk : ¬ (rd l 32 8 ≤ k ∧ k - rd l 32 8 < 56 * all.length)) : parseZ (l.set k c) = parseZ l := by
  unfold parseZ
  rw [table_set h k c h64 hk, h]
  simp only [List.length_set]
  rw [rd_set _ _ _ _ _ (by omega)]
/-- What Parse tells, as one row of plain data. -/
def pM : Except Nat Hd → Nat | .error _ => 0 | .ok h => h.machine
def pL : Except Nat Hd → List Ph | .error _ => [] | .ok h => h.loads
def pD : Except Nat Hd → Ph | .error _ => noPh | .ok h => h.dynamic
def pR : Except Nat Hd → Ph | .error _ => noPh | .ok h => h.relro
def pE : Except Nat Hd → Nat | .error n => n | .ok _ => 0
theorem parse_get {w' : World} {B : Nat} {o : Except Nat Hd} {e : Ending} (h : ParseIs w' B o e) (hl : (pL o).length ≤ 16) :
    ∃ v, e = .returned (.tuple #[.agg (hdCells (pM o) v (pD o) (pR o)).toArray, .int .i64 (pE o)]) ∧ ArgH w' v (pL o) := by
  cases o with
  | error n => exact ⟨.slice none 0 0, h, ArgH.nil _⟩
  | ok hd =>
    obtain ⟨v, he, ho⟩ := h
    exact ⟨v, he, ho.arg (Nat.le_trans hl (by omega))⟩
theorem pL_len (l : List UInt8) : (pL (parseZ l)).length ≤ 16 := by
  cases h : parseZ l with
  | error n => simp [pL]
  | ok hd => exact (parse_ok h).2.2
theorem setCell_below {w0 w1 : World} {B g k : Nat} {v : Value} (h : Below B w0 w1) (hg : B ≤ g) : Below B w0 (w1.setCell ⟨g, k, none⟩ v) :=
  ⟨h.os, h.tape, h.output, by simpa [World.setCell] using h.size, fun j hj => by
    rw [← h.block j hj]
    simp only [World.setCell, Array.getElem?_modify]
    rw [if_neg (by omega)]⟩
theorem norm_at (x : Int) (n : Nat) (hn : 0 < n) : ∃ (t : Int) (k : Nat), x.tmod (n : Int) = t ∧ -(n : Int) < t ∧ t < (n : Int) ∧ (t + (n : Int)).tmod (n : Int) = (k : Int) ∧ k < n := by
  have h1 := Int.tmod_lt_of_pos x (show 0 < (n : Int) by omega)
  have h2 := Int.lt_tmod_of_pos x (show 0 < (n : Int) by omega)
  refine ⟨x.tmod n, ((x.tmod n + n) % n).toNat, rfl, h2, h1, ?_, ?_⟩
  · rw [Int.tmod_eq_emod_of_nonneg (by omega)]
    have := Int.emod_nonneg (x.tmod n + n) (show (n : Int) ≠ 0 by omega)
    omega
  · have h3 := Int.emod_nonneg (x.tmod n + n) (show (n : Int) ≠ 0 by omega)
    have h4 := Int.emod_lt_of_pos (x.tmod n + n) (show 0 < (n : Int) by omega)
    omega
theorem xor_byte (c : UInt8) (z : Int) (h0 : 0 ≤ z) (h1 : z ≤ 255) : ∃ b : UInt8, bits .xor .u8 (c.toNat : Int) z = (b.toNat : Int) := by
  obtain ⟨m, rfl⟩ := Int.eq_ofNat_of_zero_le h0
  have hc := c.toNat_lt
  rw [u8_xor_nat _ _ hc (by omega)]
  have hx : c.toNat ^^^ m < 256 := Nat.xor_lt_two_pow (n := 8) hc (by omega)
  exact ⟨b8 (c.toNat ^^^ m), by rw [b8_toNat hx]⟩
set_option maxHeartbeats 4000000 in
set_option maxRecDepth 20000 in
theorem core (w : World) (v : Value) (l : List UInt8) (h : Arg w v l) (hl : l.length ≤ 262144) (hl0 : 0 < l.length) (at' : Int) (ha0 : -9223372036854775808 ≤ at') (ha1 : at' ≤ 9223372036854775807) (z : Int) (hz0 : 0 ≤ z) (hz1 : z ≤ 255) :
    Calls Try.prog 7 #[v, .int .i64 at', .int .u8 z] w fun e w' => e = .returned (.bool true) ∧ Below w.heap.size w w' := by
  have HA := hide h
  have hT := head_Table w v l h (by omega)
  have HTO := hide (fun all => tab_ok (l := l) (all := all))
  have HTE := hide (fun k => table_err (l := l) (k := k))
  obtain ⟨t, k, ht, ht1, ht2, hk, hkn⟩ := norm_at at' l.length hl0
  have HPS := hide (fun all k c => parse_set (l := l) (all := all) (k := k) (c := c))
  have HPL := hide (pL_len l)
  obtain ⟨a, cap, rfl, _⟩ := h.isSlice
  have HNl := hide (fun W hW => ref8_N W (.slice a l.length cap) l hW 32 8 (by omega) (by omega) (by omega))
  have HPr := hide (fun W hW => head_Parse W (.slice a l.length cap) l hW (by omega))
  have b32 := rd8 l 32
  generalize tableZ l = O at *
  generalize rd l 32 8 = P at *
  obtain ⟨n, hn⟩ : ∃ n, l.length = n := ⟨_, rfl⟩
  have HN := hide hn
  rw [hn] at hl hl0 hT HA HNl HPr ht ht1 ht2 hk hkn ⊢
  have hnI : ¬ (262144 : Int) < (n : Int) := by omega
  have hn0 : ((n : Int) == 0) = false := by simp; omega
  have hn1 : ¬ (n : Int) = 0 := by omega
  clear h hn
  go_enter Try.func7, Try.ntmps7
  go_wp2_with fail
  refine hT.mono ?_
  rintro e w1 ⟨hE, hb1⟩
  have HB1 := hide hb1
  have HA1 := hide (HA.out.below' hb1)
  clear hT hb1 HA
  cases O with
  | error q =>
    have hE' : e = _ := hE
    subst hE'
    have hq : ((q : Int) != 0) = true := by
      have := HTE.out q rfl
      simp; omega
    have hAl := alive08 w1
    clear hE
    go_wp2_with fail
    refine hAl.mono ?_
    rintro e w2 ⟨rfl, hb2⟩
    have HB2 : Hid (Below w.heap.size w w2) := HB1.out.trans (hb2.mono HB1.out.size)
    clear hAl hb2
    go_wp2
    go_ret
    exact ⟨rfl, HB2.out⟩
  | ok all =>
    have hlen := (HTO.out all rfl).2
    have HPS2 := hide (fun k c => HPS.out all k c rfl)
    obtain ⟨v1, rfl, hown⟩ := hE
    obtain ⟨a1, c1, rfl⟩ := (hown.arg (by omega)).form
    have hNN := HNl.out w1 HA1.out
    clear hown HTO HTE HPS HNl
    generalize all.length = L at *
    have hLI : (L : Int) ≤ 16 := by omega
    have HK := hide hkn
    have hkI : (k : Int) < (n : Int) := by omega
    have hnI2 : (n : Int) ≤ 262144 := by omega
    go_wp2_with fail
    refine hNN.mono ?_
    rintro e w2 ⟨rfl, rfl⟩
    clear hNN ht hk ht1 ht2
    by_cases k64 : k < 64
    · have k64I : (k : Int) < 64 := by omega
      have hAl := alive08 w1
      go_wp2_with fail
      refine hAl.mono ?_
      rintro e w2 ⟨rfl, hb2⟩
      have HB2 : Hid (Below w.heap.size w w2) := HB1.out.trans (hb2.mono HB1.out.size)
      clear hAl hb2
      go_wp2
      go_ret
      exact ⟨rfl, HB2.out⟩
    have k64I : ¬ (k : Int) < 64 := by omega
    have k64D : decide ((k : Int) < 64) = false := decide_eq_false k64I
    by_cases kin : P ≤ k ∧ k - P < 56 * L
    · have f1 : decide (P ≤ k) = true := decide_eq_true kin.1
      have f2 : (P : Int) ≤ (k : Int) := by omega
      have f3 : decide ((k : Int) - (P : Int) < 56 * (L : Int)) = true := decide_eq_true (by omega)
      have f4 : (k : Int) - (P : Int) < 56 * (L : Int) := by omega
      clear kin k64
      have hAl := alive08 w1
      go_wp2_with fail
      refine hAl.mono ?_
      rintro e w2 ⟨rfl, hb2⟩
      have HB2 : Hid (Below w.heap.size w w2) := HB1.out.trans (hb2.mono HB1.out.size)
      clear hAl hb2
      go_wp2
      go_ret
      exact ⟨rfl, HB2.out⟩
    have HPS3 := hide (fun c => HPS2.out k c (by omega) kin)
    have hcase : decide (P ≤ k) = false ∨ (decide (P ≤ k) = true ∧ (P : Int) ≤ (k : Int) ∧ decide ((k : Int) - (P : Int) < 56 * (L : Int)) = false) := by
      by_cases c : P ≤ k
      · exact .inr ⟨decide_eq_true c, by omega, decide_eq_false (by omega)⟩
      · exact .inl (decide_eq_false c)
    have hP := HPr.out w1 HA1.out
    have HA0 := hide (fun (W : World) (x : List UInt8) (vv : Value) (hW : Arg W vv x) (hx : x.length ≤ 262144) => head_Parse W vv x hW (by omega))
    generalize parseZ l = O at *
    have k64' := hide k64
    clear HPS2 kin k64 HPr
    rcases hcase with f1 | ⟨f1, f2, f3⟩
    all_goals as_aux_lemma =>
      go_wp2_with fail
      refine hP.mono ?_
      rintro e w2 ⟨hE, hb2⟩
      obtain ⟨v2, rfl, hA2⟩ := parse_get hE HPL.out
      have HB2 : Hid (Below w.heap.size w w2) := HB1.out.trans (hb2.mono HB1.out.size)
      have HAb := hide (HA1.out.below' hb2)
      obtain ⟨a2, c2, rfl⟩ := hA2.form
      have HV2 := hide hA2
      clear hP hb2 hE hA2 f1
      generalize hpm : pM O = m at *
      generalize hpd : pD O = d at *
      generalize hpr : pR O = r at *
      generalize hpe : pE O = q at *
      generalize hpl : pL O = ls at *
      have HM := hide (And.intro hpm (And.intro hpd (And.intro hpr (And.intro hpe hpl))))
      clear hpm hpd hpr hpe hpl
      have HC : Hid (Below w2.heap.size w2 (w2.alloc (.cells (hdCells m (.slice a2 ls.length c2) d r).toArray 37))) := (Below.refl _ _).alloc (Nat.le_refl _) _
      have HG : Hid ((w2.alloc (.cells (hdCells m (.slice a2 ls.length c2) d r).toArray 37)).heap[w2.heap.size]? = some (.cells (hdCells m (.slice a2 ls.length c2) d r).toArray 37 (0, 0))) := heap_alloc_new _ _
      have HB3 : Hid (Below w.heap.size w (w2.alloc (.cells (hdCells m (.slice a2 ls.length c2) d r).toArray 37))) := HB2.out.alloc HB2.out.size _
      have HA3 := hide (HAb.out.below' HC.out)
      have HV3 := hide (HV2.out.below HC.out)
      have hsz : (w2.alloc (.cells (hdCells m (.slice a2 ls.length c2) d r).toArray 37)).heap.size = w2.heap.size + 1 := by simp
      have hown := own_empty (w2.alloc (.cells (hdCells m (.slice a2 ls.length c2) d r).toArray 37))
      have hA4 := HA3.out.alloc (.cells #[] 5)
      have hE4 := fun w1 h => empty_grown (w := (w2.alloc (.cells (hdCells m (.slice a2 ls.length c2) d r).toArray 37))) (w1 := w1) h
      have HSZ := hide hsz
      rw [hsz] at hown
      rw [hsz] at hE4
      have hB5 : w2.heap.size + 1 ≤ ((w2.alloc (.cells (hdCells m (.slice a2 ls.length c2) d r).toArray 37)).alloc (.cells #[] 5)).heap.size := by simp
      clear hsz
      simp only [hdCells] at *
      go_wp2_with (at_builtin; refine append_arg rfl _ _ rfl _ _ _ [] hown _ _ hA4 rfl rfl (by rw [HN.out]; simp; omega) hB5 ?_)
      intro vc w4 q1 q2 q3
      as_aux_lemma =>
        have hb4 := hE4 w4 q2
        rw [← HSZ.out] at hb4
        have HB4 : Hid (Below w.heap.size w w4) := HB3.out.trans (hb4.mono HB3.out.size)
        have HG4 := hide (block_stay HG.out hb4)
        have HV4 := hide (HV3.out.below hb4)
        have HCC : Hid (Below w2.heap.size w2 w4) := HC.out.trans (hb4.mono HC.out.size)
        clear q2 q3 hE4 hown hA4 hb4 hB5 HA3 HV3 HV4 HB3 HC HG HSZ
        have hne : l ≠ [] := by intro e; have := HN.out; rw [e] at this; simp at this; omega
        obtain ⟨g, cp, rfl, hg1, hg2, hg3, hg4, hcell, hfr⟩ := q1.form hne
        have hkl : k < l.length := by rw [HN.out]; exact HK.out
        have ck := hcell k hkl
        have fk := hfr k
        obtain ⟨b, hx⟩ := xor_byte l[k] z hz0 hz1
        have HOS := hide (q1.set k b _ rfl)
        have HPk := hide (HPS3.out b)
        have hcp : cp ≤ 9223372036854775807 := by unfold maxLen at hg4; omega
        have hcpI : (n : Int) ≤ (cp : Int) := by rw [HN.out] at hg3; omega
        have HBs := hide (setCell_below (k := k) (v := .int .u8 (b.toNat : Int)) HB4.out (show w.heap.size ≤ g from Nat.le_trans HB2.out.size (by omega)))
        have HCs := hide (setCell_below (k := k) (v := .int .u8 (b.toNat : Int)) HCC.out (show w2.heap.size ≤ g by omega))
        have HGs := hide ((show (w4.setCell ⟨g, k, none⟩ (.int .u8 (b.toNat : Int))).heap[w2.heap.size]? = w4.heap[w2.heap.size]? by
          simp only [World.setCell, Array.getElem?_modify]; rw [if_neg (by omega)]).trans HG4.out)
        generalize l[k] = c0 at *
        have hP2 := HA0.out _ (l.set k b) _ (HOS.out.arg (by rw [List.length_set, HN.out]; omega)) (by rw [List.length_set, HN.out]; omega)
        rw [HPk.out] at hP2
        rw [HN.out]
        rw [HN.out] at hP2
        clear q1 hcell hfr hne hkl HOS HPk HCC HG4 HB4 HPS3 HA0 hg1 hg3
        go_wp2_with fail
        generalize w4.setCell ⟨g, k, none⟩ (.int .u8 (b.toNat : Int)) = w5 at *
        refine hP2.mono ?_
        rintro e w6 ⟨hE, hb6⟩
        as_aux_lemma =>
          obtain ⟨o1, o2, o3, o4, o5⟩ := HM.out
          obtain ⟨v6, rfl, hA6⟩ := parse_get hE (by rw [o5]; exact HPL.out)
          rw [o1, o2, o3, o4]
          rw [o5] at hA6
          have HB6 : Hid (Below w.heap.size w w6) := HBs.out.trans (hb6.mono HBs.out.size)
          have HC6 : Hid (Below w2.heap.size w2 w6) := HCs.out.trans (hb6.mono HCs.out.size)
          have HG6 := hide (block_stay HGs.out hb6)
          obtain ⟨a6, c6, rfl⟩ := hA6.form
          have HV6 := hide hA6
          clear hP2 hb6 hE hA6 HBs HCs HGs o1 o2 o3 o4 o5 HM ck fk hx
          have HD : Hid (Below w6.heap.size w6 (w6.alloc (.cells (hdCells m (.slice a6 ls.length c6) d r).toArray 37))) := (Below.refl _ _).alloc (Nat.le_refl _) _
          have HB7 : Hid (Below w.heap.size w (w6.alloc (.cells (hdCells m (.slice a6 ls.length c6) d r).toArray 37))) := HB6.out.alloc HB6.out.size _
          have HG7 := hide (block_stay HG6.out HD.out)
          have HK7 : Hid ((w6.alloc (.cells (hdCells m (.slice a6 ls.length c6) d r).toArray 37)).heap[w6.heap.size]? = some (.cells (hdCells m (.slice a6 ls.length c6) d r).toArray 37 (0, 0))) := heap_alloc_new _ _
          have hV2 := HV2.out.below (HC6.out.trans (HD.out.mono HC6.out.size))
          have hV6 := HV6.out.below HD.out
          have hS := ref8_Same (w6.alloc (.cells (hdCells m (.slice a6 ls.length c6) d r).toArray 37)) m _ _ d r ls hV2 hV6
          have hqq : ((q : Int) == (q : Int)) = true := by simp
          have x0 := cells_of_block HG7.out 0 _ rfl
          have x1 := cells_of_block HG7.out 1 _ rfl
          have x2 := cells_of_block HG7.out 2 _ rfl
          have x3 := cells_of_block HG7.out 3 _ rfl
          have x4 := cells_of_block HG7.out 4 _ rfl
          have x5 := cells_of_block HG7.out 5 _ rfl
          have x6 := cells_of_block HG7.out 6 _ rfl
          have x7 := cells_of_block HG7.out 7 _ rfl
          have x8 := cells_of_block HG7.out 8 _ rfl
          have x9 := cells_of_block HG7.out 9 _ rfl
          have x10 := cells_of_block HG7.out 10 _ rfl
          have x11 := cells_of_block HG7.out 11 _ rfl
          have x12 := cells_of_block HG7.out 12 _ rfl
          have x13 := cells_of_block HG7.out 13 _ rfl
          have x14 := cells_of_block HG7.out 14 _ rfl
          have x15 := cells_of_block HG7.out 15 _ rfl
          have y0 := cells_of_block HK7.out 0 _ rfl
          have y1 := cells_of_block HK7.out 1 _ rfl
          have y2 := cells_of_block HK7.out 2 _ rfl
          have y3 := cells_of_block HK7.out 3 _ rfl
          have y4 := cells_of_block HK7.out 4 _ rfl
          have y5 := cells_of_block HK7.out 5 _ rfl
          have y6 := cells_of_block HK7.out 6 _ rfl
          have y7 := cells_of_block HK7.out 7 _ rfl
          have y8 := cells_of_block HK7.out 8 _ rfl
          have y9 := cells_of_block HK7.out 9 _ rfl
          have y10 := cells_of_block HK7.out 10 _ rfl
          have y11 := cells_of_block HK7.out 11 _ rfl
          have y12 := cells_of_block HK7.out 12 _ rfl
          have y13 := cells_of_block HK7.out 13 _ rfl
          have y14 := cells_of_block HK7.out 14 _ rfl
          have y15 := cells_of_block HK7.out 15 _ rfl
          simp only [hdCells] at *
          go_wp2_with fail
          refine hS.mono ?_
          rintro e w8 ⟨rfl, hb8⟩
          as_aux_lemma =>
            have HB8 : Hid (Below w.heap.size w w8) := HB7.out.trans (hb8.mono HB7.out.size)
            have hAl := alive08 w8
            clear hS hb8 x0 y0 x1 y1 x2 y2 x3 y3 x4 y4 x5 y5 x6 y6 x7 y7 x8 y8 x9 y9 x10 y10 x11 y11 x12 y12 x13 y13 x14 y14 x15 y15 hV2 hV6
            go_wp2_with fail
            refine hAl.mono ?_
            rintro e w9 ⟨rfl, hb9⟩
            have HB9 : Hid (Below w.heap.size w w9) := HB8.out.trans (hb9.mono HB8.out.size)
            clear hAl hb9
            go_wp2
            go_ret
            exact ⟨rfl, HB9.out⟩
theorem walk (w : World) (s0 : Option Addr) (len0 cap0 : Nat) (z0 : List Int) (h : IsRow .u8 w s0 len0 cap0 z0) (a1 : Int) (w1 : (Lit.int .i64 a1).wf = true) (a2 : Int) (w2 : (Lit.int .u8 a2).wf = true) :
    Calls Try.prog 7 #[.slice s0 len0 cap0, .int .i64 a1, .int .u8 a2] w fun e w' => e = .returned (.bool true) ∧ Below w.heap.size w w' := by
  have hw1 : -9223372036854775808 ≤ a1 ∧ a1 ≤ 9223372036854775807 := by
    have a : IntKind.i64.min = -9223372036854775808 := rfl
    have b : IntKind.i64.max = 9223372036854775807 := rfl
    simp [Lit.wf] at w1
    omega
  have hw2 := wf_u8 w2
  by_cases hl : len0 ≤ 262144
  · by_cases h0 : len0 = 0
    · subst h0
      have HBR : Hid (Below w.heap.size w w) := Below.refl _ _
      clear h
      go_enter Try.func7, Try.ntmps7
      go_wp2
      go_ret
      exact ⟨rfl, HBR.out⟩
    · obtain ⟨e, ha⟩ := h.arg (by omega)
      have k := core w _ _ ha (by omega) (by omega) a1 hw1.1 hw1.2 a2 hw2.1 hw2.2
      exact k
  · have hl2 : (262144 : Int) < (len0 : Int) := by omega
    have HBR : Hid (Below w.heap.size w w) := Below.refl _ _
    have hlm : len0 ≤ 9223372036854775807 := by
      rcases h with ⟨_, rfl, _⟩ | ⟨_, _, h1, h2, _⟩
      · omega
      · unfold maxLen at h2; omega
    clear h
    go_enter Try.func7, Try.ntmps7
    go_wp2
    go_ret
    exact ⟨rfl, HBR.out⟩
theorem own : ownKnob Try.prog.godebug = none := by kernel_rfl
theorem laidOut : laidOutB Try.prog = true := by kernel_rfl
set_option maxRecDepth 100000 in
theorem lifted (os : Os) (started : os.Started) (H : Type) (enc : TypeId × Value → H) :
    ReturnsInHanded {} Try.checked os 7 .any (Rows.headOnlySpec.pre6 enc Try.prog Try.f7 Rows.headOnlyRow.domain false) (Rows.headOnlySpec.post enc Try.prog Try.f7 false true false false) := by
  refine returnsInHanded_of_change (C := Try.checked) own started (by kernel_rfl) Try.func7
    (ChangeSpec.witness6 (enc := enc) (C := Try.checked) false ⟨#[], #[.slice none 0 0, .int .i64 0, .int .u8 0], []⟩ 8 (by kernel_rfl) (by kernel_rfl) (by kernel_rfl) (by kernel_rfl)) ?_
  intro W base args ds gs before hval0 hW hcnd _
  have hval : ∀ (j : Nat) t v, Try.f7.params[j]? = some t → args[j]? = some v → Value.okWide Try.prog W .any base t v := hval0
  have hW' := hW
  obtain ⟨p, q, hA0, hV, rfl, hfz, hnd⟩ := hW
  have hA : DataW.TrodAll enc Try.prog W 0 (fun _ => true) true Try.f7.params.toList args.toList ds p := hA0
  rw [Try.params7] at hA hval
  obtain ⟨v0, vs0, d0, ds0, p0, q0, hargs, rfl, rfl, h0, r0⟩ := trodAll_cons hA
  obtain ⟨v1, vs1, d1, ds1, p1, q1, rfl, rfl, rfl, h1, r1⟩ := trodAll_cons r0
  obtain ⟨v2, vs2, d2, ds2, p2, q2, rfl, rfl, rfl, h2, r2⟩ := trodAll_cons r1
  obtain ⟨rfl, rfl, rfl⟩ := trodAll_nil r2
  obtain rfl : args = #[v0, v1, v2] := by cases args; simp_all
  obtain ⟨rfl, rfl⟩ := trodVars_none hV
  have k0 := h0
  have lt0 : ∀ x ∈ p0, x.block < W.heap.size := by obtain ⟨m, hm⟩ := k0; exact DataW.trod_lt m _ _ _ hm
  have k1 := h1
  have lt1 : ∀ x ∈ p1, x.block < W.heap.size := by obtain ⟨m, hm⟩ := k1; exact DataW.trod_lt m _ _ _ hm
  have k2 := h2
  have lt2 : ∀ x ∈ p2, x.block < W.heap.size := by obtain ⟨m, hm⟩ := k2; exact DataW.trod_lt m _ _ _ hm
  obtain ⟨s0, len0, cap0, rfl⟩ := okWide_slice Try.underlying22 (hval 0 22 v0 rfl rfl)
  obtain ⟨z0, w0⟩ : ∃ zs, IsRow .u8 W s0 len0 cap0 zs := by
    obtain ⟨fuel, hf⟩ := h0
    rcases open_ints Try.underlying22 Try.underlying5 (by kernel_rfl) hf with ⟨hcs, _⟩ | ⟨x, l, c, zs, hcs, _, hl, hm, hz, _, hcell, hwz⟩
    · simp [Value.cells] at hcs
      obtain ⟨rfl, rfl, rfl⟩ := hcs
      exact ⟨[], .inl ⟨rfl, rfl, rfl, rfl⟩⟩
    · simp [Value.cells] at hcs
      obtain ⟨rfl, rfl, rfl⟩ := hcs
      exact ⟨zs, .inr ⟨_, rfl, hl, hm, by simpa using hz, hcell, hwz⟩⟩
  obtain ⟨a1, rfl, rfl, rfl, w1⟩ := open_int Try.underlying3 (hval 1 3 v1 rfl rfl) h1
  obtain ⟨a2, rfl, rfl, rfl, w2⟩ := open_int Try.underlying5 (hval 2 5 v2 rfl rfl) h2
  clear hA0 hval0
  refine (walk W s0 len0 cap0 z0 w0 a1 w1 a2 w2).mono fun e W' ⟨he, bel⟩ => ?_
  subst he
  exact ⟨_, rfl, _, _, _, [], _, [], hW', trodAll_mk1 (shut_bool Try.underlying4 _), (trodAll_cons_mk (Below.trod laidOut (by kernel_rfl) (of_decide_eq_true (by kernel_rfl)) k0 bel lt0) (trodAll_cons_mk (Below.trod laidOut (by kernel_rfl) (of_decide_eq_true (by kernel_rfl)) k1 bel lt1) (trodAll_cons_mk (Below.trod laidOut (by kernel_rfl) (of_decide_eq_true (by kernel_rfl)) k2 bel lt2) trodAll_mk0))), rfl, bel.frame _, fun h => by cases h⟩

theorem over : Rows.headOnlyRow.holds Try.pinned (OpenSpec.ofChange Rows.headOnlySpec) :=
  OpenClaim.holds_of_wide 7 Try.f7 rfl rfl rfl rfl rfl rfl rfl ⟨rfl, rfl, rfl, rfl, rfl⟩ rfl rfl rfl rfl rfl (by kernel_rfl) Try.func7 (by kernel_rfl)
    (of_decide_eq_true (by kernel_rfl)) (by unfold Func.isWrapper; first | (rw [if_pos (by decide +kernel)]; kernel_rfl) | (rw [if_neg (by decide +kernel)]; exact ⟨rfl, rfl⟩))
    (fun os started H enc _ => lifted os started H enc)
end LHeadOnly
theorem HeadOnly_proved : Rows.HeadOnlySaid := LHeadOnly.over
end Go.Proofs.Ytgpjfcnlhlkblaa
