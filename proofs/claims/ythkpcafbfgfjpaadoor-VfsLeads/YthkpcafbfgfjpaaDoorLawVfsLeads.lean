
/-
  VfsLeads returns true for every row of nodes and every path, and what came in reads afterwards as it read before: no condition (the listed tables of unicode/utf8 are tied to the program's text, and never read; internal/bytealg's MaxLen is not read either).
-/
import Derived.Test.YthkpcafbfgfjpaaDoorRows
import Derived.Test.YthkpcafbfgfjpaaDoorCards
import Derived.Test.YthkpcafbfgfjpaaDoorTie
import Derived.Test.YthkpcafbfgfjpaaDoorFsR
import Derived.Test.YthkpcafbfgfjpaaDoorFsS
import Derived.Test.YthkpcafbfgfjpaaDoorFsZj
import Derived.Test.YthkpcafbfgfjpaaDoorPathI
import Derived.WalkKit
import Derived.ProofKit
import Derived.OpenShut
import Derived.ShutString
import Derived.ChangeOld
import Derived.Below
import Derived.LaidMore
import Derived.Lay
import Derived.SevenTiedAt
import Derived.Stop.Joined
set_option linter.unusedVariables false
namespace Go.Proofs.YthkpcafbfgfjpaaDoor
namespace LVfsLeads
open Go.ChangeShapes Go.WideShapes Go.ChangeAt Go.RowKit
open Go.ChangeMaps (open_string shut_string)
open LVfsOrder (namesL names_any)
theorem run_err (l : List Nd) : ∀ (f : Nat) (s : Way), (runW l f s).1 ≠ 0 → (runW l f s).2 = 0
  | 0, _, _ => rfl
  | f + 1, ⟨p, [], _⟩, h => absurd rfl h
  | f + 1, ⟨p, n :: r, k⟩, h => by
    unfold runW at h ⊢
    split
    · rename_i e
      rw [if_pos e] at h
      exact run_err l f _ h
    · rfl
theorem find_err {l : List Nd} {p : List UInt8} (h : (findN l p).1 ≠ 0) : (findN l p).2 = 0 := by
  unfold findN at h ⊢
  split
  · rfl
  · rename_i e
    rw [if_neg e] at h
    exact run_err l _ _ h
theorem new_68 (w : World) (a : Option Addr) (n cap : Nat) (h : 256 < n) :
    Calls Tryd.prog 5 #[.slice a n cap] w fun e w' => e = .returned (.tuple #[.pointer none, .int .i64 68]) ∧ w = w' := by
  have hI : (256 : Int) < (n : Int) := by omega
  go_enter Tryd.func5, Tryd.ntmps5
  go_wp2
  go_ret2
  exact ⟨rfl, rfl⟩
theorem txt_same (x : ByteArray) : (x.toList == x.toList) = true := by simp
set_option maxHeartbeats 1500000 in
set_option maxRecDepth 20000 in
theorem walk (w : World) (s0 : Option Addr) (len0 cap0 : Nat) (h0 : IsNds w s0 len0 cap0) (p : ByteArray) (hp0 : p.size ≤ maxLen) (hsh : w.ShapedOpen Tryd.prog) (hL : laidMetH Tryd.prog Rows.vfsLeadsRow.laid w) :
    Calls Tryd.prog 3 #[.slice s0 len0 cap0, .string p] w fun e w' => e = .returned (.bool true) ∧ Below w.heap.size w w' := by
  have hm := mx_of_shape hsh
  have hg : 0 < w.heap.size := by
    obtain ⟨m, h⟩ := hm
    exact World.block_lt_of_cell? _ _ h
  obtain ⟨L, hl, hn⟩ := h0.list
  obtain ⟨hlc, hcm, _⟩ := h0
  subst hl
  have hcap2 : cap0 ≤ 9223372036854775807 := by unfold maxLen at hcm; omega
  have hpm : p.size ≤ 9223372036854775807 := by unfold maxLen at hp0; omega
  have hGr := law_Great w s0 cap0 L hlc hcm hn
  have HN := hide hn
  have HM := hide hm
  have HG := hide hg
  have HC := hide hcm
  clear hsh hL hn hm hg hcm hp0
  go_enter Tryd.func3, Tryd.ntmps3
  go_wp2_with fail
  refine hGr.mono ?_
  rintro e w' ⟨⟨b, rfl, hB⟩, hw⟩
  rw [← hw]
  clear hw hGr
  rcases hB with rfl | ⟨rfl, h400, hsm⟩
  · go_wp2
    go_ret
    exact ⟨rfl, Below.refl _ _⟩
  by_cases hp : 4096 < p.size
  · have hpI : (4096 : Int) < (p.size : Int) := by omega
    clear hp
    go_wp2
    go_ret
    exact ⟨rfl, Below.refl _ _⟩
  have hpI : ¬ (4096 : Int) < (p.size : Int) := by omega
  have HSM := hide hsm
  have HCK := hide (fun W (hW : NdsAt W s0 L) => ref6_Check W s0 cap0 L hlc HC.out h400 hW hsm)
  by_cases hbig : 256 < L.length
  · have hNew := new_68 w s0 L.length cap0 hbig
    have hCk := HCK.out w HN.out
    rw [show newErr L = 68 from if_pos hbig] at hCk
    clear hsm hbig HCK
    go_wp2_with fail
    refine hNew.mono ?_
    rintro e w3 ⟨rfl, rfl⟩
    go_wp2_with fail
    refine hCk.mono ?_
    rintro e w4 ⟨rfl, hb4⟩
    have HB4 := hide hb4
    have hAl := alive06 w4 (HM.out.below hb4) (Nat.lt_of_lt_of_le HG.out hb4.size)
    clear hNew hCk hb4
    go_wp2_with (go_at_call 7; refine hAl.mono ?_; rintro e w9 ⟨rfl, hb9⟩)
    go_ret
    exact ⟨rfl, HB4.out.trans (hb9.mono HB4.out.size)⟩
  have hNew := vfs_New w HM.out s0 cap0 L hlc HC.out HN.out hsm
  clear hsm
  go_wp2_with fail
  refine hNew.mono ?_
  rintro e w3 ⟨hE, hb3⟩
  have HB3 := hide hb3
  have HN3 := hide (HN.out.stay hb3)
  have hCk := HCK.out w3 HN3.out
  clear hNew hb3 HCK
  rcases hE with ⟨c, hc, hec, rfl⟩ | ⟨F, rfl, M, v, l, hfs, hso⟩
  · rw [hec] at hCk
    have hcc : (c != c) = false := by simp
    clear hec
    go_wp2_with fail
    refine hCk.mono ?_
    rintro e w4 ⟨rfl, hb4⟩
    have HB4 : Hid (Below w.heap.size w w4) := HB3.out.trans (hb4.mono HB3.out.size)
    have hAl := alive06 w4 (HM.out.below HB4.out) (Nat.lt_of_lt_of_le HG.out HB4.out.size)
    clear hCk hb4
    go_wp2_with (go_at_call 7; refine hAl.mono ?_; rintro e w9 ⟨rfl, hb9⟩)
    go_ret
    exact ⟨rfl, HB4.out.trans (hb9.mono HB4.out.size)⟩
  have hne : newErr L = 0 := sound_zero hso (by omega)
  rw [hne] at hCk
  have hst : l.map strip = L.map strip := hso.grow.same
  have hll : l.length = L.length := by have := congrArg List.length hst; rwa [List.length_map, List.length_map] at this
  have hnod := ((newErr_zero L).1 hne).2.2.1
  obtain ⟨eN1, eN2⟩ := names_perm (a := l) (b := L) (by rw [hst]) hnod p.data.toList
  have eNL : namesL (rootN :: l) p.data.toList = namesL (rootN :: L) p.data.toList := by
    unfold namesL
    rw [← eN1]
    split
    · rename_i e; exact eN2 e
    · rfl
  have eF := strip_find hst p.data.toList
  have eO := strip_open hst p.data.toList
  have hin := findN_in hne HSM.out p.data.toList
  have HRS := hide (fun W (hW : NdsAt W s0 L) => ref6_Resolve W s0 cap0 L hlc HC.out hW HSM.out hne p (by omega))
  have HOP := hide (fun W (hW : NdsAt W s0 L) => ref6_Open W s0 cap0 L hlc HC.out hW HSM.out hne p (by omega))
  have HNM := hide (fun W (hW : NdsAt W s0 L) => ref6_Names W s0 cap0 L hlc HC.out hW HSM.out hne p (by omega))
  have HPT := hide (fun W (hW : NdsAt W s0 L) m hm => ref6_Path W s0 cap0 L hlc HC.out (by omega) hW m hm)
  have HDT : Hid (∀ n ∈ rootN :: l, n.data.length ≤ 262144) := fun n hn => by
    rcases List.mem_cons.1 hn with rfl | hn
    · decide
    · have := hso.grow.chk n hn
      unfold chkN chkE at this
      split at this
      · simp at this
      · split at this
        · simp at this
        · split at this
          · simp at this
          · omega
  have HF3 := hide hfs
  have HVR := hide (fun W (hb : Below w3.heap.size w3 W) => vfs_Resolve W (HM.out.below (HB3.out.trans (hb.mono HB3.out.size))) (Nat.lt_of_lt_of_le HG.out (Nat.le_trans HB3.out.size hb.size)) w.heap.size F M v (rootN :: l) (HF3.out.stay hb) p (by omega))
  have HVO := hide (fun W (hb : Below w3.heap.size w3 W) => vfs_Open W (HM.out.below (HB3.out.trans (hb.mono HB3.out.size))) (Nat.lt_of_lt_of_le HG.out (Nat.le_trans HB3.out.size hb.size)) w.heap.size F M v (rootN :: l) (HF3.out.stay hb) p (by omega) HDT.out)
  have HVN := hide (fun W (hb : Below w3.heap.size w3 W) => vfs_Names W (HM.out.below (HB3.out.trans (hb.mono HB3.out.size))) (Nat.lt_of_lt_of_le HG.out (Nat.le_trans HB3.out.size hb.size)) w.heap.size F M v (rootN :: l) (HF3.out.stay hb) p (by omega))
  have HVL := hide (fun W (hb : Below w3.heap.size w3 W) => vfs_Len W w.heap.size F M v (rootN :: l) (HF3.out.stay hb))
  have HAL := hide (fun W (hb : Below w3.heap.size w3 W) => alive06 W (HM.out.below (HB3.out.trans (hb.mono HB3.out.size))) (Nat.lt_of_lt_of_le HG.out (Nat.le_trans HB3.out.size hb.size)))
  have HNW := hide (fun W (hb : Below w3.heap.size w3 W) => HN3.out.stay hb)
  have HST := hide hst
  have HLL := hide hll
  have HENL := hide eNL
  have HEN1 := hide eN1
  have HIN := hide hin
  have HEF := hide eF
  have HEO := hide eO
  have HOD : Hid (openN (rootN :: L) p.data.toList = if (findN (rootN :: L) p.data.toList).1 ≠ 0 then ((findN (rootN :: L) p.data.toList).1, 0) else if kindAt (rootN :: L) (findN (rootN :: L) p.data.toList).2 = 2 then (0, (findN (rootN :: L) p.data.toList).2) else (66, 0)) := rfl
  have HFE := hide (find_err (l := rootN :: L) (p := p.data.toList))
  have hl4 : L.length ≤ 256 := by omega
  clear hso hne hst hnod eN1 eN2 eNL eF eO hin hfs hll hbig hp
  go_wp2_with fail
  refine hCk.mono ?_
  rintro e w4 ⟨rfl, hb4⟩
  have HB4 := hide hb4
  clear hCk hb4
  have hR := HVR.out w4 HB4.out
  unfold resV at hR
  rw [HEF.out] at hR
  have hQ := HRS.out
  obtain ⟨re, rn, hRR⟩ : ∃ re rn, findN (rootN :: L) p.data.toList = (re, rn) := ⟨_, _, rfl⟩
  rw [hRR] at hR HOD HIN HFE
  simp only [hRR] at hQ
  simp only [strip_path HST.out] at hR
  simp only at hR HOD HIN HFE
  by_cases he : re = 0
  rotate_left
  · have hrn : rn = 0 := HFE.out he
    subst hrn
    rw [if_neg he] at hR
    rw [if_pos he] at HOD
    have e1 : (re != re) = false := by simp
    have e2 : (re == 0) = false := by simpa using he
    have e3 : (re != 0) = true := by simpa using he
    have HOE := hide (show (openN (rootN :: L) p.data.toList).1 ≠ 0 by rw [HOD.out]; exact he)
    clear he HFE
    go_wp2_with fail
    refine hR.mono ?_
    rintro e w5 ⟨rfl, hb5⟩
    have HB5 : Hid (Below w3.heap.size w3 w5) := HB4.out.trans (hb5.mono HB4.out.size)
    have hQ5 := hQ w5 (HNW.out w5 HB5.out)
    clear hR hb5 hQ
    go_wp2_with fail
    refine hQ5.mono ?_
    rintro e w6 ⟨rfl, hb6⟩
    have HB6 : Hid (Below w3.heap.size w3 w6) := HB5.out.trans (hb6.mono HB5.out.size)
    have hO := HVO.out w6 HB6.out
    clear hQ5 hb6
    go_wp2_with fail
    refine hO.mono ?_
    rintro e w7 ⟨hE, hb7⟩
    have HB7 : Hid (Below w3.heap.size w3 w7) := HB6.out.trans (hb7.mono HB6.out.size)
    rcases hE with ⟨h1, rfl⟩ | ⟨h1, _⟩
    rotate_left
    · exact absurd (by rw [HEO.out] at h1; exact h1) HOE.out
    rw [HEO.out, HOD.out]
    have hP := HOP.out w7 (HNW.out w7 HB7.out)
    rw [HOD.out] at hP
    simp only at hP ⊢
    clear hO hb7 h1
    go_wp2_with fail
    refine hP.mono ?_
    rintro e w7b ⟨rfl, hb7b⟩
    have HB7b : Hid (Below w3.heap.size w3 w7b) := HB7.out.trans (hb7b.mono HB7.out.size)
    clear hP hb7b
    go_wp2
    go_quiet (fail)
    obtain ⟨NN, hNN⟩ : ∃ NN, ((namesL (rootN :: L) p.data.toList).map tx).length = NN := ⟨_, rfl⟩
    have HNN := hide hNN
    clear hNN
    have HB8 : Hid (Below w3.heap.size w3 (w7b.drewN nq)) := below_dn HB7b.out nq
    have hVN := HVN.out (w7b.drewN nq) HB8.out
    go_wp2_with fail
    refine hVN.mono ?_
    rintro e w8 ⟨hE8, hb8⟩
    obtain ⟨va, rfl, ow8⟩ := names_any hE8
    rw [HENL.out] at ow8
    rw [HEN1.out]
    have HB9 : Hid (Below w3.heap.size w3 w8) := HB8.out.trans (hb8.mono HB8.out.size)
    have HO8 := hide ow8
    have hRN := HNM.out w8 (HNW.out w8 HB9.out)
    clear hVN hE8 hb8 ow8
    obtain ⟨a8, c8, rfl⟩ := HO8.out.len NN HNN.out
    go_wp2_with fail
    refine hRN.mono ?_
    rintro e w9 ⟨⟨vb9, rfl, ow9⟩, hb9⟩
    have HB10 : Hid (Below w3.heap.size w3 w9) := HB9.out.trans (hb9.mono HB9.out.size)
    have HO9 := hide ow9
    obtain ⟨a9, c9, rfl⟩ := HO9.out.len NN HNN.out
    have hSame := ref_Same w9 _ _ _ _ _ (HO8.out.stay hb9) HO9.out (by rw [List.length_map]; have := LVfsOrder.names_len (rootN :: L) p.data.toList; simp only [List.length_cons] at this; omega)
    clear hRN hb9 ow9
    generalize namesE (rootN :: L) p.data.toList = NE at *
    have hNE : (NE == NE) = true := by simp
    go_wp2_with fail
    refine hSame.mono ?_
    rintro e w10 ⟨rfl, hb10⟩
    have HB11 : Hid (Below w3.heap.size w3 w10) := HB10.out.trans (hb10.mono HB10.out.size)
    have hLen := HVL.out w10 HB11.out
    rw [List.length_cons, HLL.out] at hLen
    have hAl := HAL.out w10 HB11.out
    have hLI : (((L.length + 1 : Nat) : Int) == (L.length : Int) + 1) = true := by simp
    clear hSame hb10
    go_wp2_with fail
    refine hLen.mono ?_
    rintro e w11 ⟨rfl, rfl⟩
    clear hLen
    go_wp2_with fail
    refine hAl.mono ?_
    rintro e w12 ⟨rfl, hb12⟩
    have HB12 : Hid (Below w.heap.size w w12) := (HB3.out.trans (HB11.out.mono HB3.out.size)).trans (hb12.mono (Nat.le_trans HB3.out.size HB11.out.size))
    clear hAl hb12
    go_wp2
    go_ret
    exact ⟨rfl, HB12.out⟩
  subst he
  rw [if_pos rfl] at hR
  rw [if_neg (by simp)] at HOD
  have hrl : rn ≤ L.length := by have := HIN.out; simp only [List.length_cons] at this; omega
  have hPa := fun W hW => HPT.out W hW rn hrl
  obtain ⟨P, hPP⟩ : ∃ P, tx (pathAt (rootN :: L) rn) = P := ⟨_, rfl⟩
  rw [hPP] at hR
  simp only [hPP] at hPa
  have tP := txt_same P
  have eN : ((rn : Int) != (rn : Int)) = false := by simp
  have HPP := hide hPP
  clear hPP HFE
  go_wp2_with fail
  refine hR.mono ?_
  rintro e w5 ⟨rfl, hb5⟩
  have HB5 : Hid (Below w3.heap.size w3 w5) := HB4.out.trans (hb5.mono HB4.out.size)
  have hQ5 := hQ w5 (HNW.out w5 HB5.out)
  clear hR hb5 hQ
  go_wp2_with fail
  refine hQ5.mono ?_
  rintro e w6 ⟨rfl, hb6⟩
  have HB6 : Hid (Below w3.heap.size w3 w6) := HB5.out.trans (hb6.mono HB5.out.size)
  have hP6 := hPa w6 (HNW.out w6 HB6.out)
  have hO := HVO.out w6 HB6.out
  clear hQ5 hb6 hPa
  go_wp2_with fail
  refine hP6.mono ?_
  rintro e w6b ⟨rfl, rfl⟩
  clear hP6
  go_wp2_with fail
  refine hO.mono ?_
  rintro e w7 ⟨hE, hb7⟩
  have HB7 : Hid (Below w3.heap.size w3 w7) := HB6.out.trans (hb7.mono HB6.out.size)
  have hP := HOP.out w7 (HNW.out w7 HB7.out)
  clear hO hb7
  unfold OpenE at hE
  rw [HEO.out, HOD.out] at hE
  rw [HOD.out] at hP
  by_cases hk : kindAt (rootN :: L) rn = 2
  rotate_left
  · rw [if_neg hk] at hE hP
    rcases hE with ⟨_, rfl⟩ | ⟨h1, _⟩
    rotate_left
    · exact absurd h1 (by decide)
    simp only at hP
    clear hk
    go_wp2_with fail
    refine hP.mono ?_
    rintro e w7b ⟨rfl, hb7b⟩
    have HB7b : Hid (Below w3.heap.size w3 w7b) := HB7.out.trans (hb7b.mono HB7.out.size)
    clear hP hb7b
    go_wp2
    go_quiet (fail)
    obtain ⟨NN, hNN⟩ : ∃ NN, ((namesL (rootN :: L) p.data.toList).map tx).length = NN := ⟨_, rfl⟩
    have HNN := hide hNN
    clear hNN
    have HB8 : Hid (Below w3.heap.size w3 (w7b.drewN nq)) := below_dn HB7b.out nq
    have hVN := HVN.out (w7b.drewN nq) HB8.out
    go_wp2_with fail
    refine hVN.mono ?_
    rintro e w8 ⟨hE8, hb8⟩
    obtain ⟨va, rfl, ow8⟩ := names_any hE8
    rw [HENL.out] at ow8
    rw [HEN1.out]
    have HB9 : Hid (Below w3.heap.size w3 w8) := HB8.out.trans (hb8.mono HB8.out.size)
    have HO8 := hide ow8
    have hRN := HNM.out w8 (HNW.out w8 HB9.out)
    clear hVN hE8 hb8 ow8
    obtain ⟨a8, c8, rfl⟩ := HO8.out.len NN HNN.out
    go_wp2_with fail
    refine hRN.mono ?_
    rintro e w9 ⟨⟨vb9, rfl, ow9⟩, hb9⟩
    have HB10 : Hid (Below w3.heap.size w3 w9) := HB9.out.trans (hb9.mono HB9.out.size)
    have HO9 := hide ow9
    obtain ⟨a9, c9, rfl⟩ := HO9.out.len NN HNN.out
    have hSame := ref_Same w9 _ _ _ _ _ (HO8.out.stay hb9) HO9.out (by rw [List.length_map]; have := LVfsOrder.names_len (rootN :: L) p.data.toList; simp only [List.length_cons] at this; omega)
    clear hRN hb9 ow9
    generalize namesE (rootN :: L) p.data.toList = NE at *
    have hNE : (NE == NE) = true := by simp
    go_wp2_with fail
    refine hSame.mono ?_
    rintro e w10 ⟨rfl, hb10⟩
    have HB11 : Hid (Below w3.heap.size w3 w10) := HB10.out.trans (hb10.mono HB10.out.size)
    have hLen := HVL.out w10 HB11.out
    rw [List.length_cons, HLL.out] at hLen
    have hAl := HAL.out w10 HB11.out
    have hLI : (((L.length + 1 : Nat) : Int) == (L.length : Int) + 1) = true := by simp
    clear hSame hb10
    go_wp2_with fail
    refine hLen.mono ?_
    rintro e w11 ⟨rfl, rfl⟩
    clear hLen
    go_wp2_with fail
    refine hAl.mono ?_
    rintro e w12 ⟨rfl, hb12⟩
    have HB12 : Hid (Below w.heap.size w w12) := (HB3.out.trans (HB11.out.mono HB3.out.size)).trans (hb12.mono (Nat.le_trans HB3.out.size HB11.out.size))
    clear hAl hb12
    go_wp2
    go_ret
    exact ⟨rfl, HB12.out⟩
  rw [if_pos hk] at hE hP
  rcases hE with ⟨h1, _⟩ | ⟨_, hlt7, vb, rfl, hsrc⟩
  · exact absurd rfl h1
  simp only at hP hsrc
  simp only [strip_path HST.out, HPP.out]
  rw [strip_data HST.out] at hsrc
  cases rn with
  | zero => exact absurd (show (1 : Int) = 2 from hk) (by decide)
  | succ m =>
    have hm : m < L.length := by omega
    have edt : dataAt (rootN :: L) (m + 1) = L[m].data := by
      unfold dataAt
      rw [List.getElem?_cons_succ, List.getElem?_eq_getElem hm]; rfl
    rw [edt] at hsrc
    have HSR := hide hsrc
    obtain ⟨va7, vc7, hvb, hv1, hv2, hv3⟩ := hsrc
    rw [hvb]
    clear hk edt hlt7
    go_wp2_with fail
    refine hP.mono ?_
    rintro e w7b ⟨rfl, hb7b⟩
    have HB7b : Hid (Below w3.heap.size w3 w7b) := HB7.out.trans (hb7b.mono HB7.out.size)
    obtain ⟨y, o, rfl, hI⟩ := nds_at (HNW.out w7b HB7b.out) hm
    have c2 := (hI m hm).c2
    have hsr2 := (hI m hm).src
    have hsr1 := HSR.out.turn (Turn.of_below hb7b)
    rw [hvb] at hsr1
    have t1 : ∀ k, (convert 35 9 (.slice va7 L[m].data.length vc7)).run Tryd.prog (w7b.drewN k) = .ok (.string (tx L[m].data)) (w7b.drewN k) := fun k => (hsr1.turn (Turn.of_below (below_dn (Below.refl _ _) k))).text
    obtain ⟨vd, cd, hvd, hd1, hd2, hd3⟩ := hsr2
    rw [hvd] at c2
    have t2 : ∀ k, (convert 35 9 (.slice vd L[m].data.length cd)).run Tryd.prog (w7b.drewN k) = .ok (.string (tx L[m].data)) (w7b.drewN k) := fun k => by
      have := (hI m hm).src
      rw [hvd] at this
      exact (this.turn (Turn.of_below (below_dn (Below.refl _ _) k))).text
    have tD := txt_same (tx L[m].data)
    have hmI : (m : Int) < (L.length : Int) := by omega
    have hm1 : (m : Int) + 1 - 1 = (m : Int) := by omega
    have em : ((m : Int) + 1 != (m : Int) + 1) = false := by simp
    clear hP hb7b hI hsr1 hvd hvb hd1 hd2 hd3 hv1 hv2 hv3 HSR eN
    generalize tx L[m].data = DD at *
    generalize L[m].data.length = dn at *
    go_wp2
    go_quiet (fail)
    obtain ⟨NN, hNN⟩ : ∃ NN, ((namesL (rootN :: L) p.data.toList).map tx).length = NN := ⟨_, rfl⟩
    have HNN := hide hNN
    clear hNN
    have HB8 : Hid (Below w3.heap.size w3 (w7b.drewN nq)) := below_dn HB7b.out nq
    have hVN := HVN.out (w7b.drewN nq) HB8.out
    go_wp2_with fail
    refine hVN.mono ?_
    rintro e w8 ⟨hE8, hb8⟩
    obtain ⟨va, rfl, ow8⟩ := names_any hE8
    rw [HENL.out] at ow8
    rw [HEN1.out]
    have HB9 : Hid (Below w3.heap.size w3 w8) := HB8.out.trans (hb8.mono HB8.out.size)
    have HO8 := hide ow8
    have hRN := HNM.out w8 (HNW.out w8 HB9.out)
    clear hVN hE8 hb8 ow8
    obtain ⟨a8, c8, rfl⟩ := HO8.out.len NN HNN.out
    go_wp2_with fail
    refine hRN.mono ?_
    rintro e w9 ⟨⟨vb9, rfl, ow9⟩, hb9⟩
    have HB10 : Hid (Below w3.heap.size w3 w9) := HB9.out.trans (hb9.mono HB9.out.size)
    have HO9 := hide ow9
    obtain ⟨a9, c9, rfl⟩ := HO9.out.len NN HNN.out
    have hSame := ref_Same w9 _ _ _ _ _ (HO8.out.stay hb9) HO9.out (by rw [List.length_map]; have := LVfsOrder.names_len (rootN :: L) p.data.toList; simp only [List.length_cons] at this; omega)
    clear hRN hb9 ow9
    generalize namesE (rootN :: L) p.data.toList = NE at *
    have hNE : (NE == NE) = true := by simp
    go_wp2_with fail
    refine hSame.mono ?_
    rintro e w10 ⟨rfl, hb10⟩
    have HB11 : Hid (Below w3.heap.size w3 w10) := HB10.out.trans (hb10.mono HB10.out.size)
    have hLen := HVL.out w10 HB11.out
    rw [List.length_cons, HLL.out] at hLen
    have hAl := HAL.out w10 HB11.out
    have hLI : (((L.length + 1 : Nat) : Int) == (L.length : Int) + 1) = true := by simp
    clear hSame hb10
    go_wp2_with fail
    refine hLen.mono ?_
    rintro e w11 ⟨rfl, rfl⟩
    clear hLen
    go_wp2_with fail
    refine hAl.mono ?_
    rintro e w12 ⟨rfl, hb12⟩
    have HB12 : Hid (Below w.heap.size w w12) := (HB3.out.trans (HB11.out.mono HB3.out.size)).trans (hb12.mono (Nat.le_trans HB3.out.size HB11.out.size))
    clear hAl hb12
    go_wp2
    go_ret
    exact ⟨rfl, HB12.out⟩
theorem own : ownKnob Tryd.prog.godebug = none := by kernel_rfl
theorem laidOut : laidOutB Tryd.prog = true := by kernel_rfl
set_option maxRecDepth 100000 in
theorem lifted (os : Os) (started : os.Started) (H : Type) (enc : TypeId × Value → H) :
    ReturnsInHanded {} Tryd.checked os 3 .any (fun w args => (Rows.vfsLeadsSpec.pre enc Tryd.prog Tryd.f3 Rows.vfsLeadsRow.domain false w args ∧ laidMetH Tryd.prog Rows.vfsLeadsRow.laid w) ∧ sizedMet enc Tryd.prog Tryd.f3 (OpenSpec.ofChange Rows.vfsLeadsSpec) false w args)
      (Rows.vfsLeadsSpec.post enc Tryd.prog Tryd.f3 false true false false) := by
  refine wrap_and_shaped (C := Tryd.checked) (X := fun w _ => laidMetH Tryd.prog Rows.vfsLeadsRow.laid w) (fun _ _ _ hh h => h.of_heap hh) own started (by kernel_rfl) Tryd.func3
    (ChangeSpec.witness_shaped (enc := enc) (C := Tryd.checked) (os := os) (X := fun w _ => laidMetH Tryd.prog Rows.vfsLeadsRow.laid w) false (World.laidAll Tryd.prog os Rows.vfsLeadsRow.laid) #[.slice none 0 0, .string ByteArray.empty] 8 (World.laidAll_os _ _ _)
      (World.shaped_of_ZipB (by kernel_rfl) (by kernel_rfl)) (by kernel_rfl) (by kernel_rfl) (by kernel_rfl)
      (by rw [MakeChecks.laidMetH_plain _ _ _ (by kernel_rfl)]; exact laidMet_laidAll _ (by kernel_rfl) (by kernel_rfl))) ?_
  intro W base args ds gs before hval0 hW hcnd hz hL hsh
  have hval : ∀ (j : Nat) t v, Tryd.f3.params[j]? = some t → args[j]? = some v → Value.okWide Tryd.prog W .any base t v := hval0
  have hW' := hW
  obtain ⟨p, q, hA0, hV, rfl, hfz, hnd⟩ := hW
  have hA : DataW.TrodAll enc Tryd.prog W 0 (fun _ => true) true Tryd.f3.params.toList args.toList ds p := hA0
  rw [Tryd.params3] at hA hval
  obtain ⟨v0, vs0, d0, ds0, p0, q0, hargs, rfl, rfl, h0, r0⟩ := trodAll_cons hA
  obtain ⟨v1, vs1, d1, ds1, p1, q1, rfl, rfl, rfl, h1, r1⟩ := trodAll_cons r0
  obtain ⟨rfl, rfl, rfl⟩ := trodAll_nil r1
  obtain rfl : args = #[v0, v1] := by cases args; simp_all
  obtain ⟨rfl, rfl⟩ := trodVars_none hV
  have k0 := h0
  have lt0 : ∀ x ∈ p0, x.block < W.heap.size := by obtain ⟨m, hm⟩ := k0; exact DataW.trod_lt m _ _ _ hm
  have k1 := h1
  have lt1 : ∀ x ∈ p1, x.block < W.heap.size := by obtain ⟨m, hm⟩ := k1; exact DataW.trod_lt m _ _ _ hm
  obtain ⟨s0, len0, cap0, rfl⟩ := okWide_slice Tryd.underlying22 (hval 0 22 v0 rfl rfl)
  have w0 := isOps_of h0
  obtain ⟨a1, rfl, rfl, rfl, w1⟩ := open_string Tryd.underlying9 (hval 1 9 v1 rfl rfl) h1
  clear hA0 hval0
  refine (walk W s0 len0 cap0 w0 a1 w1 hsh hL).mono fun e W' ⟨he, bel⟩ => ?_
  subst he
  exact ⟨_, rfl, _, _, _, [], _, [], hW', trodAll_mk1 (shut_bool Tryd.underlying4 _), (trodAll_cons_mk (Below.trod laidOut (by kernel_rfl) (of_decide_eq_true (by kernel_rfl)) k0 bel lt0) (trodAll_cons_mk (Below.trod laidOut (by kernel_rfl) (of_decide_eq_true (by kernel_rfl)) k1 bel lt1) trodAll_mk0)), rfl, bel.frame _, fun h => by cases h⟩

theorem over : Rows.vfsLeadsRow.holds Tryd.pinned (OpenSpec.ofChange Rows.vfsLeadsSpec) :=
  OpenClaim.holds_of_wide 3 Tryd.f3 rfl rfl rfl rfl rfl rfl rfl ⟨rfl, rfl, rfl, rfl, rfl⟩ rfl rfl rfl rfl rfl (by kernel_rfl) Tryd.func3 (by kernel_rfl)
    (of_decide_eq_true (by kernel_rfl)) (by unfold Func.isWrapper; first | (rw [if_pos (by decide +kernel)]; kernel_rfl) | (rw [if_neg (by decide +kernel)]; exact ⟨rfl, rfl⟩))
    (fun os started H enc _ => lifted os started H enc)

theorem card : Claim7.holds Tryd.pinned (.plain (OpenSpec.ofChange Rows.vfsLeadsSpec)) Rows.vfsLeadsCard :=
  Claim7.holds_tied_plain_at .later [] [.data, .pinned] true (true, "d0544f97c541b1562260e0106283456b5209068a9c7ab05c8048607ef1e57cb9") false over (fun _ h => by cases h) (by kernel_rfl) (fun _ h => by cases h) vfsLeads_row_tie rfl ⟨rfl, rfl⟩ (by kernel_rfl) rfl
    (fun f fn hf hfn => by
      obtain rfl : f = 3 := Option.some.inj ((show Tryd.prog.funcNamed Rows.vfsLeadsRow.func = some 3 by kernel_rfl).symm.trans hf) |>.symm
      obtain rfl : fn = Tryd.f3 := (Option.some.inj (Tryd.func3.symm.trans hfn)).symm
      exact ⟨by kernel_rfl, fun j t ht => by
        rw [Tryd.params3] at ht
        have hm : t ∈ [22, 9] := by simpa using Array.mem_of_getElem? ht
        have hall : ([22, 9].all fun u => !Tryd.prog.wantsStandIn u) = true := by kernel_rfl
        exact (show Tryd.prog.wantsStandIn t = false by simpa using List.all_eq_true.1 hall t hm)⟩)
    (by kernel_rfl)
end LVfsLeads
theorem VfsLeads_proved : Rows.VfsLeadsCardSaid := LVfsLeads.card
end Go.Proofs.YthkpcafbfgfjpaaDoor
