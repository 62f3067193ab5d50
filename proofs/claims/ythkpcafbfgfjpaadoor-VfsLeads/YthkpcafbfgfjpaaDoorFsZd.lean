
/-
  Layer 6's reference: Check.
-/
import Derived.Test.YthkpcafbfgfjpaaDoorFsZc
import Derived.Lib.QuietBelow
set_option linter.unusedVariables false
namespace Go.Proofs.YthkpcafbfgfjpaaDoor
open Go.RowKit Go.PlainAid Go.Sort
theorem NdsAt.take {w : World} {a : Option Addr} {L : List Nd} (h : NdsAt w a L) (i : Nat) : NdsAt w a (L.take i) := by
  rcases h.at_ with e | ⟨y, o, e, hI⟩
  · exact ⟨.inl (by rw [e]; simp)⟩
  · refine ⟨.inr ⟨y, o, e, fun j hj => ?_⟩⟩
    rw [List.getElem_take]
    exact hI j (by rw [List.length_take] at hj; omega)
/-- The folder's test, by the reference's number. -/
theorem dirB_ref (L : List Nd) (p : List UInt8) : (refFind L p = -1 ∧ dirB (rootN :: L) p = false) ∨ (refFind L p = 0 ∧ dirB (rootN :: L) p = true) ∨ ∃ (m : Nat) (h : m < L.length), refFind L p = (m : Int) + 1 ∧ dirB (rootN :: L) p = (L[m].kind == 1) := by
  have h := refFind_is L p
  unfold dirB
  cases hi : isIn (pathsOf (rootN :: L)) p with
  | false => rw [hi] at h; exact .inl ⟨h, rfl⟩
  | true =>
    rw [hi] at h
    have hlt : numOf (pathsOf (rootN :: L)) p < (rootN :: L).length := by
      rw [← pathsOf_len]
      unfold isIn at hi
      unfold numOf
      obtain ⟨j, hj⟩ := Option.isSome_iff_exists.1 hi
      rw [hj]
      exact (List.idxOf?_eq_some_iff.1 hj).1
    generalize numOf (pathsOf (rootN :: L)) p = q at *
    cases q with
    | zero => exact .inr (.inl ⟨h, by rfl⟩)
    | succ m =>
      have hm : m < L.length := by rw [List.length_cons] at hlt; omega
      refine .inr (.inr ⟨m, hm, by rw [h]; simp, ?_⟩)
      rw [kindAt_of hlt]; simp
structure C1 (w wr : World) (i : Nat) (L : List Nd) : Prop where
  below : Below w.heap.size w wr
  err : addAll [[47]] L = addAll ([47] :: pathsOf (L.take i)) (L.drop i)
set_option maxHeartbeats 4000000 in
theorem ref6_Check (w : World) (a : Option Addr) (cap : Nat) (L : List Nd) (hlc : L.length ≤ cap) (hcm : cap ≤ maxLen) (hl : L.length ≤ 400) (h : NdsAt w a L) (hsm : ∀ n ∈ L, SmallN n) :
    Calls Tryd.prog 6 #[.slice a L.length cap] w fun e w' => e = .returned (.int .i64 (newErr L)) ∧ Below w.heap.size w w' := by
  have HN := hide h
  have HSM := hide hsm
  have HC : Hid (cap ≤ maxLen) := hcm
  have hcap2 : cap ≤ 9223372036854775807 := by unfold maxLen at hcm; omega
  have HQ : Hid (newErr L = if 256 < L.length then 68 else if addAll [[47]] L ≠ 0 then addAll [[47]] L else if L.all (fun n => dirB (rootN :: L) (upOf n.path.data.toList)) then 0 else 62) := rfl
  generalize newErr L = Q at *
  clear h hcm hsm
  by_cases hbig : 256 < L.length
  · have hbI : (256 : Int) < (L.length : Int) := by omega
    rw [if_pos hbig] at HQ
    go_enter Tryd.func6, Tryd.ntmps6
    go_wp2
    go_ret
    exact ⟨by rw [HQ.out]; rfl, Below.refl _ _⟩
  rw [if_neg hbig] at HQ
  have hbI : ¬ (256 : Int) < (L.length : Int) := by omega
  go_enter Tryd.func6, Tryd.ntmps6
  go_wp2
  go_loopw [3] (fun vi wr => ∃ i : Nat, i ≤ L.length ∧ vi = .int .i64 i ∧ Hid (C1 w wr i L)) (fun vi _ => L.length - (intOf vi).toNat)
  case atStart => exact ⟨0, by omega, rfl, hide ⟨Below.refl _ _, rfl⟩⟩
  case round =>
    obtain ⟨i, hi, rfl, HK⟩ := hrel
    by_cases hlt : i < L.length
    · have hltI : (i : Int) < (L.length : Int) := by omega
      have HNr := HN.out.stay HK.out.below
      obtain ⟨y, o, rfl, hI⟩ : ∃ y o, a = some ⟨y, o, none⟩ ∧ ∀ i (h : i < L.length), IsNd wr y (o + i * 4) L[i] := by
        rcases HNr.at_ with e | e
        · rw [e] at hlt; simp at hlt
        · exact e
      obtain ⟨c0, c1, c2, c3, _, _, hsrc⟩ := hI i hlt
      obtain ⟨da, dc, hvd, q1, q2, q3⟩ := hsrc
      rw [hvd] at c2
      have hs4 := HSM.out L[i] (List.getElem_mem hlt)
      have hlen : (L.take i).length = i := by rw [List.length_take]; omega
      have hO := fun w' (hn : NdsAt w' (some ⟨y, o, none⟩) (L.take i)) => ref6_one w' L[i].path L[i].to L[i].kind da L[i].data.length dc (by first | omega | (unfold maxLen at *; omega)) hs4.1 hs4.2 (some ⟨y, o, none⟩) cap (L.take i) (by omega) HC.out (by omega) hn
      rw [hlen, oneR_is] at hO
      have HER : Hid (addAll [[47]] L = if addP ([47] :: pathsOf (L.take i)) L[i] ≠ 0 then addP ([47] :: pathsOf (L.take i)) L[i] else addAll ([47] :: pathsOf (L.take (i + 1))) (L.drop (i + 1))) := by
        have := HK.out.err
        rw [List.drop_eq_getElem_cons hlt] at this
        have e : pathsOf (L.take (i + 1)) = pathsOf (L.take i) ++ [L[i].path.data.toList] := by rw [take_more hlt]; unfold pathsOf; rw [List.map_append]; rfl
        rw [Hid, this, e]; rfl
      have HNT := hide (HNr.take i)
      have HB := hide HK.out.below
      clear hI HNr HK q1 q2 q3 hvd hs4 hlen
      generalize addP ([47] :: pathsOf (L.take i)) L[i] = ae at *
      generalize L[i].data.length = dn at *
      generalize L[i].path = pp at *
      generalize L[i].kind = kk at *
      generalize L[i].to = tt at *
      have hi2 : i ≤ cap := by omega
      go_wp2
      try simp only [List.append_eq, List.cons_append, List.nil_append]
      refine wp_region_quiet_below (by kernel_rfl) (by kernel_rfl) ?_
      have d0 := fun d os => cell_regrown c0 d os
      have d1 := fun d os => cell_regrown c1 d os
      have d2 := fun d os => cell_regrown c2 d os
      have d3 := fun d os => cell_regrown c3 d os
      have hO2 := fun d os => hO (grow (redrawn wr d) os) (HNT.out.stay (below_regrown wr d os))
      repeat (go_big_quiet_step (exact Calls.regrown_of (hO2 _ _)))
      refine wpQuiet_nil ?_
      intro _ hw'
      obtain ⟨⟨dq, osq⟩, hw''⟩ := hw'
      subst hw''
      have HB2 : Hid (Below w.heap.size w (grow (redrawn wr dq) osq)) := HB.out.trans ((below_regrown wr dq osq).mono HB.out.size)
      generalize grow (redrawn wr dq) osq = w2 at *
      clear d0 d1 d2 d3 hO2 hO c0 c1 c2 c3
      by_cases hz : ae = 0
      · subst hz
        have HK2 : Hid (C1 w w2 (i + 1) L) := ⟨HB2.out, by rw [HER.out]; simp⟩
        go_wp2
        go_roundw
        case rel => exact ⟨i + 1, by omega, by go_num, HK2⟩
        case measure => simp [intOf]; omega
      · have hzb : (ae == 0) = false := by rw [beq_eq_false_iff_ne]; exact hz
        have HQ2 : Hid (Q = ae) := by
          have h1 := HER.out
          rw [if_pos hz] at h1
          rw [Hid, HQ.out, h1, if_pos hz]
        clear hz
        go_wp2
        go_ret
        exact ⟨by rw [HQ2.out]; rfl, HB2.out⟩
    · have hltI : ¬ (i : Int) < (L.length : Int) := by omega
      have ei : i = L.length := by omega
      subst ei
      have h0 : addAll [[47]] L = 0 := by
        have := HK.out.err
        rw [List.drop_length] at this
        exact this
      rw [h0, if_neg (by simp)] at HQ
      have HB := hide HK.out.below
      clear HK h0 hi hltI hlt
      go_wp2
      go_loopw [5] (fun vi w' => w' = wr ∧ ∃ i : Nat, i ≤ L.length ∧ vi = .int .i64 i ∧ Hid (∀ j (h : j < L.length), j < i → dirB (rootN :: L) (upOf L[j].path.data.toList) = true)) (fun vi _ => L.length - (intOf vi).toNat)
      case atStart => exact ⟨rfl, 0, by omega, rfl, fun j _ hj => by omega⟩
      case round =>
        obtain ⟨rfl, i, hi, rfl, HD⟩ := hrel
        by_cases hlt : i < L.length
        · have hltI : (i : Int) < (L.length : Int) := by omega
          have HNr := HN.out.stay HB.out
          obtain ⟨y, o, rfl, hI⟩ : ∃ y o, a = some ⟨y, o, none⟩ ∧ ∀ i (h : i < L.length), IsNd wr y (o + i * 4) L[i] := by
            rcases HNr.at_ with e | e
            · rw [e] at hlt; simp at hlt
            · exact e
          have c0 := (hI i hlt).c0
          have hs4 := HSM.out L[i] (List.getElem_mem hlt)
          have hU := ref_Up L[i].path wr (by have := hs4.1; omega)
          have hF := ref6_Find wr (some ⟨y, o, none⟩) cap L hlc HC.out hl HNr (tx (upOf L[i].path.data.toList))
          rw [data_tx] at hF
          have hR := dirB_ref L (upOf L[i].path.data.toList)
          have HNO : Hid (dirB (rootN :: L) (upOf L[i].path.data.toList) = false → Q = 62) := fun hd => by
            rw [HQ.out, if_neg]
            intro ha
            have := List.all_eq_true.1 ha L[i] (List.getElem_mem hlt)
            rw [hd] at this
            cases this
          have HDS : Hid (dirB (rootN :: L) (upOf L[i].path.data.toList) = true → ∀ j (h : j < L.length), j < i + 1 → dirB (rootN :: L) (upOf L[j].path.data.toList) = true) := fun hd j hj hj2 => by
            by_cases e : j = i
            · subst e; exact hd
            · exact HD.out j hj (by omega)
          have HI := hide hI
          clear hI HNr hs4 HD
          generalize dirB (rootN :: L) (upOf L[i].path.data.toList) = db at *
          generalize refFind L (upOf L[i].path.data.toList) = F at *
          generalize tx (upOf L[i].path.data.toList) = up at *
          generalize L[i].path = pp at *
          rcases hR with ⟨rfl, rfl⟩ | ⟨rfl, rfl⟩ | ⟨m, hm, rfl, rfl⟩
          · have HQ2 : Hid (Q = 62) := HNO.out rfl
            clear HQ
            go_wp2_with fail
            refine hU.mono ?_
            rintro e w2 ⟨rfl, rfl⟩
            go_wp2_with fail
            refine hF.mono ?_
            rintro e w3 ⟨rfl, rfl⟩
            go_wp2
            go_ret
            exact ⟨by rw [HQ2.out]; rfl, HB.out⟩
          · have HD2 := hide (HDS.out rfl)
            clear HQ
            go_wp2_with fail
            refine hU.mono ?_
            rintro e w2 ⟨rfl, rfl⟩
            go_wp2_with fail
            refine hF.mono ?_
            rintro e w3 ⟨rfl, rfl⟩
            go_wp2
            go_roundw
            case rel => exact ⟨trivial, i + 1, by omega, by go_num, HD2⟩
            case measure => simp [intOf]; omega
          · have k1 := (HI.out m hm).c1
            have hmI : (m : Int) < (L.length : Int) := by omega
            have e1 : (m : Int) + 1 - 1 = (m : Int) := by omega
            have hn0 : ¬ (m : Int) + 1 < 0 := by omega
            have hn1 : (0 : Int) < (m : Int) + 1 := by omega
            generalize (m : Int) + 1 = F at *
            have hn2 : (decide (F < 0)) = false := by simpa using hn0
            generalize L[m].kind = kk at *
            cases hkk : (kk == 1) with
            | true =>
              have HD2 := hide (HDS.out hkk)
              have hkk2 : (kk != 1) = false := by simpa using hkk
              have hkk3 : kk = 1 := by simpa using hkk
              subst hkk3
              clear HQ
              go_wp2_with fail
              refine hU.mono ?_
              rintro e w2 ⟨rfl, rfl⟩
              go_wp2_with fail
              refine hF.mono ?_
              rintro e w3 ⟨rfl, rfl⟩
              go_wp2
              go_roundw
              case rel => exact ⟨trivial, i + 1, by omega, by go_num, HD2⟩
              case measure => simp [intOf]; omega
            | false =>
              have HQ2 : Hid (Q = 62) := HNO.out hkk
              have hkk2 : (kk != 1) = true := by simpa using hkk
              clear HQ
              go_wp2_with fail
              refine hU.mono ?_
              rintro e w2 ⟨rfl, rfl⟩
              go_wp2_with fail
              refine hF.mono ?_
              rintro e w3 ⟨rfl, rfl⟩
              go_wp2
              go_ret
              exact ⟨by rw [HQ2.out]; rfl, HB.out⟩
        · have hltI : ¬ (i : Int) < (L.length : Int) := by omega
          have HQ2 : Hid (Q = 0) := by
            rw [Hid, HQ.out, if_pos]
            refine List.all_eq_true.2 fun n hn => ?_
            obtain ⟨j, hj, rfl⟩ := List.mem_iff_getElem.1 hn
            exact HD.out j hj (by omega)
          clear HQ HD
          go_wp2
          go_ret
          exact ⟨by rw [HQ2.out]; rfl, HB.out⟩
end Go.Proofs.YthkpcafbfgfjpaaDoor
