
/-
  Layer 6's reference: Names, an insertion sort of what a folder has.
-/
import Derived.Test.YthkpcafbfgfjpaaDoorFsZh
import Derived.Sort.Walk0
import Derived.BigRegion
import Derived.BigQuiet
import Derived.Test.YthkpcafbfgfjpaaDoorFsQe
set_option linter.unusedVariables false
namespace Go.Proofs.YthkpcafbfgfjpaaDoor
open Go.RowKit Go.PlainAid LVfsOrder
theorem sorted_is (l : List (List UInt8)) : (sorted l).Pairwise (fun x y => x ≤ y) := by
  have tr : ∀ x y z : List UInt8, decide (x ≤ y) = true → decide (y ≤ z) = true → decide (x ≤ z) = true := fun x y z h1 h2 => decide_eq_true (List.le_trans (of_decide_eq_true h1) (of_decide_eq_true h2))
  have tt : ∀ x y : List UInt8, (decide (x ≤ y) || decide (y ≤ x)) = true := fun x y => by
    rcases List.le_total x y with h | h
    · simp [h]
    · simp [h]
  exact (List.pairwise_mergeSort tr tt l).imp fun h => of_decide_eq_true h
theorem eq_sorted {a b : List (List UInt8)} (h : a.Perm b) (hs : a.Pairwise (fun x y => x ≤ y)) : a = sorted b := by
  have hp : a.Perm (sorted b) := h.trans (List.mergeSort_perm _ _).symm
  exact hp.eq_of_pairwise (le := fun x y => x ≤ y) (fun x y _ _ h1 h2 => List.le_antisymm h1 h2) hs (sorted_is b)
/-- One text is on its way to its place. -/
structure Ins (S : List (List UInt8)) (x : List UInt8) (A B : List (List UInt8)) : Prop where
  whole : S = A ++ B
  right : ∀ b ∈ B, x < b
theorem Ins.start (S : List (List UInt8)) (x : List UInt8) : Ins S x S [] := ⟨by simp, by simp⟩
theorem Ins.step {S A B : List (List UInt8)} {x y : List UInt8} (h : Ins S x (A ++ [y]) B) (hlt : x < y) : Ins S x A (y :: B) :=
  ⟨by rw [h.whole]; simp, fun b hb => by
    rcases List.mem_cons.1 hb with rfl | hb
    · exact hlt
    · exact h.right b hb⟩
theorem Ins.stop {S A B : List (List UInt8)} {x : List UInt8} {K : List (List UInt8)} (h : Ins S x A B) (hS : S = sorted K) (hA : A = [] ∨ ∃ A' y, A = A' ++ [y] ∧ ¬ x < y) : A ++ x :: B = sorted (K ++ [x]) := by
  refine eq_sorted ?_ ?_
  · have h1 : (A ++ x :: B).Perm (x :: (A ++ B)) := List.perm_middle
    have h2 : S.Perm K := by rw [hS]; exact List.mergeSort_perm _ _
    rw [← h.whole] at h1
    exact h1.trans ((h2.cons x).trans (List.perm_append_singleton x K).symm)
  · have hs := sorted_is K
    rw [← hS, h.whole] at hs
    obtain ⟨p1, p2, p3⟩ := List.pairwise_append.1 hs
    have hx : ∀ b ∈ B, x ≤ b := fun b hb => List.le_of_lt (h.right b hb)
    refine List.pairwise_append.2 ⟨p1, List.pairwise_cons.2 ⟨hx, p2⟩, fun a ha c hc => ?_⟩
    rcases List.mem_cons.1 hc with rfl | hc
    · rcases hA with rfl | ⟨A', y, rfl, hy⟩
      · simp at ha
      · have hyx : y ≤ c := List.not_lt.1 hy
        rcases List.mem_append.1 ha with ha | ha
        · exact List.le_trans ((List.pairwise_append.1 p1).2.2 a ha y (by simp)) hyx
        · rw [List.mem_singleton.1 ha]; exact hyx
    · exact p3 a ha c hc
/-- One of a row of texts is set. -/
theorem OwnS.set {w : World} {B g n cap : Nat} {l : List ByteArray} (h : OwnS w B (.slice (some ⟨g, 0, none⟩) n cap) l) (j : Nat) (z : ByteArray) : OwnS (w.setCell ⟨g, j, none⟩ (.string z)) B (.slice (some ⟨g, 0, none⟩) n cap) (l.set j z) := by
  unfold OwnS at h ⊢
  refine ⟨by simp, ?_⟩
  rcases h.2 with ⟨e, _⟩ | ⟨g', cap', cur, e, hB, hg, h1, h2, h3, h4⟩
  · cases e
  · injection e with e1 e2 e3
    injection e1 with e1
    injection e1 with e1
    subst e1 e2 e3
    refine .inr ⟨g, cap, cur.setIfInBounds j (.string z), by rw [List.length_set], hB, heap_setCell_same w g j cur _ _ hg, by rw [List.length_set]; exact h1, h2, by simpa using h3, ?_⟩
    rw [List.length_set, Array.toList_setIfInBounds, List.take_set, h4, List.map_set]
theorem OwnS.soft {w : World} {B g n cap : Nat} {l : List ByteArray} (h : OwnS w B (.slice (some ⟨g, 0, none⟩) n cap) l) (j : Nat) : w.frozen? ⟨g, j, none⟩ = false := by
  unfold OwnS at h
  rcases h.2 with ⟨e, _⟩ | ⟨g', cap', cur, e, hB, hg, _⟩
  · cases e
  · injection e with e1 e2 e3
    injection e1 with e1
    injection e1 with e1
    subst e1
    simp [World.frozen?, hg]
theorem OwnS.drewN {w : World} {B : Nat} {v : Value} {l : List ByteArray} (h : OwnS w B v l) (k : Nat) : OwnS (w.drewN k) B v l := h
theorem set_two (A B : List (List UInt8)) (x y : List UInt8) : (((A ++ y :: x :: B).map tx).set (A.length + 1) (tx y)).set A.length (tx x) = (A ++ x :: y :: B).map tx := by
  induction A with
  | nil => rfl
  | cons a A ih =>
    simp only [List.cons_append, List.map_cons, List.length_cons, List.set_cons_succ]
    rw [ih]
theorem below_set {B g : Nat} {w w' : World} (h : Below B w w') (hg : B ≤ g) (j : Nat) (u : Value) : Below B w (w'.setCell ⟨g, j, none⟩ u) :=
  ⟨h.os, h.tape, h.output, by simpa using h.size, fun k hk => by rw [Below.heap_setCell _ _ _ _ (by simp; omega)]; exact h.block k hk⟩
theorem kids_root (L : List Nd) (d : List UInt8) : kidsOf (rootN :: L) d = kidsOf L d := by
  unfold kidsOf
  rw [List.filter_cons, if_neg]
  show ¬ childOf [47] d = true
  simp [childOf]
theorem kid_good {L : List Nd} (h : newErr L = 0) : ∀ n ∈ L, n.path.data.toList ≠ [] ∧ n.path.data.toList ≠ [47] := fun n hn => by
  have hc := ((newErr_zero L).1 h).2.1 n hn
  unfold chkN chkE at hc
  split at hc
  · simp at hc
  · rename_i hno
    refine ⟨fun e => hno (.inl ?_), fun e => hno (.inr e)⟩
    rw [e]; decide
theorem child_is {p d : List UInt8} (h : p ≠ [] ∧ p ≠ [47]) : childOf p d = (upOf p == d) := by
  unfold childOf
  rw [show (p != []) = true by simpa using h.1, show (p != [47]) = true by simpa using h.2]
  simp
theorem below_dn {B : Nat} {w w' : World} (h : Below B w w') (k : Nat) : Below B w (w'.drewN k) := ⟨h.os, h.tape, h.output, h.size, h.block⟩
theorem nds_at {w : World} {a : Option Addr} {L : List Nd} (h : NdsAt w a L) {m : Nat} (hm : m < L.length) : ∃ y o, a = some ⟨y, o, none⟩ ∧ ∀ i (h : i < L.length), IsNd w y (o + i * 4) L[i] := by
  rcases h.at_ with e | e
  · rw [e] at hm; simp at hm
  · exact e
theorem tx_same (x y : List UInt8) : ((tx x).toList == (tx y).toList) = (x == y) := by rw [tx_list, tx_list]
theorem tx_less (x y : List UInt8) : Op.bytesLess (tx x).toList (tx y).toList = decide (x < y) := by rw [tx_list, tx_list, bytesLess_eq]
theorem last_or (A : List (List UInt8)) : A = [] ∨ ∃ A' y, A = A' ++ [y] := by
  rcases List.eq_nil_or_concat A with h | ⟨A', y, h⟩
  · exact .inl h
  · exact .inr ⟨A', y, by rw [h, List.concat_eq_append]⟩
theorem get_mid (A B : List (List UInt8)) (x y : List UInt8) : ((A ++ y :: x :: B).map tx)[A.length]? = some (tx y) ∧ ((A ++ y :: x :: B).map tx)[A.length + 1]? = some (tx x) := by
  constructor
  · simp
  · rw [List.getElem?_map, List.getElem?_append_right (by omega)]
    simp
set_option maxHeartbeats 4000000 in
set_option maxRecDepth 20000 in
theorem ref6_Names (w : World) (a : Option Addr) (cap : Nat) (L : List Nd) (hlc : L.length ≤ cap) (hcm : cap ≤ maxLen) (h : NdsAt w a L) (hsm : ∀ n ∈ L, SmallN n) (hne : newErr L = 0) (q : ByteArray) (hq : q.size ≤ 4096) :
    Calls Tryd.prog 14 #[.slice a L.length cap, .string q] w fun e w' => (∃ va, e = .returned (.tuple #[va, .int .i64 (namesE (rootN :: L) q.data.toList)]) ∧ OwnS w' w.heap.size va ((namesL (rootN :: L) q.data.toList).map tx)) ∧ Below w.heap.size w w' := by
  have hR := ref6_Resolve w a cap L hlc hcm h hsm hne q hq
  have hlt := findN_in hne hsm q.data.toList
  have HN := hide h
  have hcap2 : cap ≤ 9223372036854775807 := by unfold maxLen at hcm; omega
  have hl : L.length ≤ 256 := ((newErr_zero L).1 hne).1
  have HPT := hide (fun W (hW : NdsAt W a L) m hm => ref6_Path W a cap L hlc hcm (by omega) hW m hm)
  have HKG := hide (kid_good hne)
  have HSM := hide hsm
  have HO : Hid (namesE (rootN :: L) q.data.toList = if (findN (rootN :: L) q.data.toList).1 ≠ 0 then (findN (rootN :: L) q.data.toList).1 else if kindAt (rootN :: L) (findN (rootN :: L) q.data.toList).2 = 1 then 0 else 65) := rfl
  have HL : Hid (namesL (rootN :: L) q.data.toList = if namesE (rootN :: L) q.data.toList = 0 then sorted (kidsOf (rootN :: L) (pathAt (rootN :: L) (findN (rootN :: L) q.data.toList).2)) else []) := rfl
  generalize namesL (rootN :: L) q.data.toList = NL at *
  generalize namesE (rootN :: L) q.data.toList = NE at *
  generalize findN (rootN :: L) q.data.toList = R at *
  obtain ⟨re, rn⟩ := R
  simp only at hR hlt HO HL
  clear h hsm hne hcm
  by_cases he : re = 0
  rotate_left
  · rw [if_pos (by simpa using he)] at HO
    have HN0 : Hid (NL = []) := by rw [Hid, HL.out, HO.out, if_neg he]
    have heb : (re == 0) = false := by rw [beq_eq_false_iff_ne]; exact he
    have heb2 : (re != 0) = true := by simpa using he
    clear he
    go_enter Tryd.func14, Tryd.ntmps14
    go_wp2_with fail
    refine hR.mono ?_
    rintro e w1 ⟨rfl, hb⟩
    have HB := hide hb
    clear hR hb
    go_wp2
    go_ret2
    exact ⟨⟨_, by rw [HO.out]; rfl, by rw [HN0.out]; exact OwnS.nil _ _⟩, HB.out⟩
  rw [if_neg (by simpa using he)] at HO
  subst he
  have hrn : rn ≤ L.length := by simpa [Nat.lt_succ_iff] using hlt
  by_cases hk : kindAt (rootN :: L) rn = 1
  rotate_left
  · rw [if_neg hk] at HO
    have HN0 : Hid (NL = []) := by rw [Hid, HL.out, HO.out, if_neg (by decide)]
    cases rn with
    | zero => exact absurd rfl hk
    | succ m =>
      have hm : m < L.length := by omega
      have HKQ : Hid (kindAt (rootN :: L) (m + 1) = L[m].kind) := by rw [Hid, kindAt_of hlt]; rfl
      rw [HKQ.out] at hk
      have hmI : (m : Int) < (L.length : Int) := by omega
      have hm1 : ((m : Int) + 1) - 1 = (m : Int) := by omega
      have hm0 : (0 : Int) < (m : Int) + 1 := by omega
      go_enter Tryd.func14, Tryd.ntmps14
      go_wp2_with fail
      refine hR.mono ?_
      rintro e w1 ⟨rfl, hb⟩
      have HB := hide hb
      obtain ⟨y, o, rfl, hI⟩ : ∃ y o, a = some ⟨y, o, none⟩ ∧ ∀ i (h : i < L.length), IsNd w1 y (o + i * 4) L[i] := by
        rcases (HN.out.stay hb).at_ with e | e
        · rw [e] at hm; simp at hm
        · exact e
      have c1 := (hI m hm).c1
      have hkb2 : (L[m].kind != 1) = true := by simpa using hk
      clear hR hb hI hk
      generalize L[m].kind = kk at *
      go_wp2
      go_ret2
      exact ⟨⟨_, by rw [HO.out]; rfl, by rw [HN0.out]; exact OwnS.nil _ _⟩, HB.out⟩
  rw [if_pos hk] at HO
  obtain ⟨d, hd⟩ : ∃ d, pathAt (rootN :: L) rn = d := ⟨_, rfl⟩
  have HF : Hid (NL = sorted (kidsOf L d)) := by rw [Hid, HL.out, HO.out, if_pos rfl, kids_root, hd]
  have HD := hide hd
  clear HL hd hlt
  have HPD : Hid (∀ W, NdsAt W a L → _) := fun W hW => by have := HPT.out W hW rn hrn; rw [HD.out] at this; exact this
  clear HPT
  have hcase : (∃ m, ∃ hm : m < L.length, rn = m + 1 ∧ L[m].kind = 1) ∨ rn = 0 := by
    cases rn with
    | zero => exact .inr rfl
    | succ m =>
      have hm : m < L.length := by omega
      refine .inl ⟨m, hm, rfl, ?_⟩
      rw [← hk, kindAt_of (show m + 1 < (rootN :: L).length by simp; omega)]; rfl
  have HK := hide hk
  clear hk hrn
  rcases hcase with ⟨m, hm, rfl, hkm⟩ | rfl
  all_goals
    go_enter Tryd.func14, Tryd.ntmps14
    go_wp2_with fail
    refine hR.mono ?_
    rintro e w1 ⟨rfl, hb⟩
    have HB := hide hb
    have HN1 := hide (HN.out.stay hb)
    clear hR hb HN
    first
      | (obtain ⟨y, o, rfl, hI⟩ := nds_at HN1.out hm
         have c1 := (hI m hm).c1
         rw [hkm] at c1
         have hmI : (m : Int) < (L.length : Int) := by omega
         have hm1 : ((m : Int) + 1) - 1 = (m : Int) := by omega
         have hm0 : (0 : Int) < (m : Int) + 1 := by omega
         clear hI)
      | skip
    go_wp2
    try clear c1 hmI hm1 hm0 hkm
    go_loopw [8, 9, 10] (fun v8 v9 _ wr => ∃ i : Nat, i ≤ L.length ∧ v9 = .int .i64 i ∧ Hid (OwnS wr w1.heap.size v8 ((sorted (kidsOf (L.take i) d)).map tx)) ∧ Hid (Below w1.heap.size w1 wr)) (fun _ v9 _ _ => L.length - (intOf v9).toNat)
    case atStart => exact ⟨0, by omega, rfl, by rw [Hid, show sorted (kidsOf (L.take 0) d) = [] by simp [kidsOf, sorted]]; exact OwnS.nil _ _, Below.refl _ _⟩
    case round =>
      obtain ⟨i, hi, rfl, HOW, HBs⟩ := hrel
      by_cases hlt : i < L.length
      · have hltI : (i : Int) < (L.length : Int) := by omega
        have hNr := HN1.out.stay HBs.out
        obtain ⟨y2, o2, ea, hI⟩ := nds_at hNr hlt
        have c0 := (hI i hlt).c0
        have hPa := HPD.out wr hNr
        have hsz := (HSM.out L[i] (List.getElem_mem hlt)).1
        have hUp := ref_Up L[i].path wr (by omega)
        have HBa := hide (fun W => ref_Base L[i].path W (by omega))
        have HCH := hide (child_is (d := d) (HKG.out L[i] (List.getElem_mem hlt)))
        have HSN := hide (kids_snoc hlt d)
        have hkl := kids_len L i d
        cases ea
        clear hNr hI
        generalize L[i] = n at *
        rw [HCH.out] at HSN
        clear HCH
        generalize upOf n.path.data.toList = u at *
        generalize baseOf n.path.data.toList = x at *
        obtain ⟨K, hK⟩ : ∃ K, kidsOf (L.take i) d = K := ⟨_, rfl⟩
        rw [hK] at HSN HOW hkl
        obtain ⟨S, hS⟩ : ∃ S, sorted K = S := ⟨_, rfl⟩
        have hSl : S.length ≤ 256 := by rw [← hS]; unfold sorted; rw [List.length_mergeSort]; omega
        rw [hS] at HOW
        have HS := hide hS
        clear hK hS hkl
        by_cases hud : u = d
        · have hcmp : ((tx u).toList == (tx d).toList) = true := by rw [tx_same, hud]; simp
          have HS2 : Hid (kidsOf (L.take (i + 1)) d = K ++ [x]) := by rw [Hid, HSN.out, hud, if_pos (by simp)]
          clear HSN hud
          go_wp2_with fail
          refine hUp.mono ?_
          rintro e w2 ⟨rfl, rfl⟩
          clear hUp
          go_wp2_with fail
          refine hPa.mono ?_
          rintro e w2 ⟨rfl, rfl⟩
          clear hPa
          go_wp2_with fail
          refine (HBa.out _).mono ?_
          rintro e w2 ⟨rfl, rfl⟩
          clear c0 hcmp
          go_wp2_with (at_builtin; refine append_text rfl _ _ rfl w1.heap.size w2 _ _ HOW.out (tx x) rfl rfl (by rw [List.length_map]; omega) HBs.out.size ?_)
          intro v' w3 h1 h2
          have h1' : OwnS w3 w1.heap.size v' ((S ++ [x]).map tx) := by simpa using h1
          obtain ⟨g, cap2, rfl, hg1, hg2, hg3, hg4, _⟩ := h1'.form (by simp)
          have HB3 : Hid (Below w1.heap.size w1 w3) := HBs.out.trans h2
          have HB4 : Hid (w1.heap.size ≤ g) := hg1
          have hNl : ((S ++ [x]).map tx).length = S.length + 1 := by simp
          rw [hNl] at h1' hg3
          have HO3 := hide h1'
          have hc3 : cap2 ≤ 9223372036854775807 := by unfold maxLen at hg4; omega
          have hgI : (S.length : Int) + 1 ≤ (cap2 : Int) := by omega
          simp only [hNl]
          clear h1 h2 h1' hg1 hg2 hg4 hNl HOW HBs HBa
          go_wp2
          go_loopw [10] (fun v10 wr => ∃ A B : List (List UInt8), v10 = .int .i64 (A.length : Nat) ∧ Hid (Ins S x A B) ∧ Hid (OwnS wr w1.heap.size (.slice (some ⟨g, 0, none⟩) (S.length + 1) cap2) ((A ++ x :: B).map tx)) ∧ Hid (Below w1.heap.size w1 wr)) (fun v10 _ => (intOf v10).toNat)
          case atStart => exact ⟨S, [], by go_num, Ins.start _ _, HO3, HB3⟩
          case round =>
            obtain ⟨A, B, rfl, HI, HOA, HBA⟩ := hrel
            have hAl : A.length ≤ S.length := by rw [HI.out.whole, List.length_append]; omega
            rcases last_or A with rfl | ⟨A', y', rfl⟩
            · have HE : Hid ([] ++ x :: B = sorted (K ++ [x])) := HI.out.stop HS.out.symm (.inl rfl)
              have hd0 : decide ((0 : Int) < 0) = false := rfl
              simp only [List.length_nil]
              go_wp2
              go_quiet (fail)
              go_wp2
              go_roundw
              case rel => exact ⟨i + 1, by omega, by go_num, by rw [Hid, HS2.out, ← HE.out]; exact HOA.out.drewN _, below_dn HBA.out _⟩
              case measure => simp [intOf]; omega
            · obtain ⟨j, hj⟩ : ∃ j, A'.length = j := ⟨_, rfl⟩
              have hjl : (A' ++ [y']).length = j + 1 := by simp [hj]
              rw [hjl] at hAl
              have eL : (A' ++ [y']) ++ x :: B = A' ++ y' :: x :: B := by simp
              rw [eL] at HOA
              obtain ⟨g', e, hb', hl', hlc', hcm', hcc⟩ := HOA.out.cells (by simp; omega)
              cases e
              obtain ⟨q0, q1⟩ := get_mid A' B x y'
              have c0 := hcc _ _ q0
              have c1 := hcc _ _ q1
              have f0 := HOA.out.soft j
              have f1 := HOA.out.soft (j + 1)
              rw [hj] at c0 c1
              have hj1 : (0 : Int) < (j : Int) + 1 := by omega
              have hj2 : (j : Int) + 1 - 1 = (j : Int) := by omega
              have hj3 : (j : Int) + 1 < (S.length : Int) + 1 := by omega
              have hj4 : (j : Int) < (S.length : Int) + 1 := by omega
              have hls := tx_less x y'
              simp only [hjl, Int.natCast_add, Int.cast_ofNat_Int]
              clear hcc q0 q1 hlc' hb' hl' hcm' hjl hAl
              by_cases hxy : x < y'
              · rw [decide_eq_true hxy] at hls
                have HX := hide hxy
                clear hxy
                go_wp2
                go_quiet (fail)
                go_wp2
                go_region
                all_goals go_wp2
                go_roundw
                case rel =>
                  refine ⟨A', y' :: B, by rw [hj], HI.out.step HX.out, ?_, below_set (below_set (below_dn HBA.out _) HB4.out _ _) HB4.out _ _⟩
                  have k := ((HOA.out.drewN (nq + 1)).set (j + 1) (tx y')).set j (tx x)
                  rw [← hj, set_two] at k
                  rw [hj] at k
                  exact k
                case measure => simp [intOf]
              · rw [decide_eq_false hxy] at hls
                have HE : Hid (A' ++ y' :: x :: B = sorted (K ++ [x])) := by rw [Hid, ← eL]; exact HI.out.stop HS.out.symm (.inr ⟨A', y', rfl, hxy⟩)
                clear hxy
                go_wp2
                go_quiet (fail)
                go_wp2
                go_roundw
                case rel => exact ⟨i + 1, by omega, by go_num, by rw [Hid, HS2.out, ← HE.out]; exact HOA.out.drewN _, below_dn HBA.out _⟩
                case measure => simp [intOf]; omega
        · have hcmp : ((tx u).toList == (tx d).toList) = false := by rw [tx_same]; simpa using hud
          have HS2 : Hid (kidsOf (L.take (i + 1)) d = K) := by rw [Hid, HSN.out, if_neg (by simpa using hud), List.append_nil]
          clear HSN hud
          go_wp2_with fail
          refine hUp.mono ?_
          rintro e w2 ⟨rfl, rfl⟩
          clear hUp
          go_wp2_with fail
          refine hPa.mono ?_
          rintro e w2 ⟨rfl, rfl⟩
          clear hPa
          go_wp2
          go_roundw
          case rel => exact ⟨i + 1, by omega, by go_num, by rw [Hid, HS2.out, HS.out]; exact HOW.out, HBs⟩
          case measure => simp [intOf]; omega
      · have hltI : ¬ (i : Int) < (L.length : Int) := by omega
        have he : i = L.length := by omega
        subst he
        have hE := HOW.out
        rw [List.take_length, ← HF.out] at hE
        have HE := hide hE
        clear hE
        go_wp2
        go_ret2
        exact ⟨⟨_, by rw [HO.out]; rfl, HE.out.low HB.out.size⟩, HB.out.trans (HBs.out.mono HB.out.size)⟩
end Go.Proofs.YthkpcafbfgfjpaaDoor
