
/-
  Layer 6's reference: Open.
-/
import Derived.Test.YthkpcafbfgfjpaaDoorFsZg
set_option linter.unusedVariables false
namespace Go.Proofs.YthkpcafbfgfjpaaDoor
open Go.RowKit Go.PlainAid
theorem ref_lt {l : List Nd} (H : Fine l) (f : Nat) : ∀ (d : List UInt8) (ns : List (List UInt8)) (k : Nat), isIn (pathsOf l) d = true → kindAt l (numOf (pathsOf l) d) = 1 → (refRun l f d ns k).2 < l.length := by
  induction f with
  | zero => intro d ns k _ _; exact H.pos
  | succ f ih =>
    intro d ns k hd hk
    cases ns with
    | nil => rw [refRun]; exact (at_num hd).1
    | cons n r =>
      rw [refRun]
      by_cases hn : n = [46, 46]
      · rw [if_pos hn]
        obtain ⟨a1, a2⟩ := at_num hd
        have := H.up _ a1
        rw [a2] at this
        exact ih _ r k this.1 this.2
      · rw [if_neg hn]
        cases hi : isIn (pathsOf l) (belowOf d n) with
        | false => exact H.pos
        | true =>
          rw [if_neg (show ¬ true = false by decide)]
          obtain ⟨a1, a2⟩ := at_num hi
          have hkk := H.kinds _ a1
          by_cases k2 : kindAt l (numOf (pathsOf l) (belowOf d n)) = 2
          · rw [if_pos k2]
            split
            · exact a1
            · exact H.pos
          · rw [if_neg k2]
            by_cases k3 : kindAt l (numOf (pathsOf l) (belowOf d n)) = 3
            · rw [if_pos k3]
              split
              · exact H.pos
              · split
                · have hb := H.back 0 H.pos
                  rw [H.rootP] at hb
                  refine ih _ _ _ ?_ ?_
                  · have := paths_get (l := l) (k := 0) H.pos
                    rw [H.rootP] at this
                    unfold isIn
                    rw [List.isSome_idxOf?]
                    rw [this]
                    simp
                  · rw [hb]; exact H.root
                · exact ih _ _ _ hd hk
            · rw [if_neg k3]
              exact ih _ r k hi (by rcases hkk with e | e | e; exact e; exact absurd e k2; exact absurd e k3)
theorem findN_in {L : List Nd} (h : newErr L = 0) (ht : ∀ n ∈ L, SmallN n) (p : List UInt8) : (findN (rootN :: L) p).2 < (rootN :: L).length := by
  by_cases hc : clE p = 0
  · rw [findN_ref h ht p hc]
    have H := fine_of h ht
    obtain ⟨r1, r2⟩ := root_in (l := L)
    exact ref_lt H _ _ _ _ r1 (by rw [r2]; exact H.root)
  · unfold findN
    rw [if_pos hc]
    simp
set_option maxHeartbeats 2000000 in
theorem ref6_Open (w : World) (a : Option Addr) (cap : Nat) (L : List Nd) (hlc : L.length ≤ cap) (hcm : cap ≤ maxLen) (h : NdsAt w a L) (hsm : ∀ n ∈ L, SmallN n) (hne : newErr L = 0) (q : ByteArray) (hq : q.size ≤ 4096) :
    Calls Tryd.prog 12 #[.slice a L.length cap, .string q] w fun e w' => e = .returned (.tuple #[.int .i64 ((openN (rootN :: L) q.data.toList).2 : Nat), .int .i64 (openN (rootN :: L) q.data.toList).1]) ∧ Below w.heap.size w w' := by
  have hR := ref6_Resolve w a cap L hlc hcm h hsm hne q hq
  have hlt := findN_in hne hsm q.data.toList
  have HN := hide h
  have hcap2 : cap ≤ 9223372036854775807 := by unfold maxLen at hcm; omega
  have hl : L.length ≤ 256 := ((newErr_zero L).1 hne).1
  have HO : Hid (openN (rootN :: L) q.data.toList = if (findN (rootN :: L) q.data.toList).1 ≠ 0 then ((findN (rootN :: L) q.data.toList).1, 0) else if kindAt (rootN :: L) (findN (rootN :: L) q.data.toList).2 = 2 then (0, (findN (rootN :: L) q.data.toList).2) else (66, 0)) := rfl
  generalize openN (rootN :: L) q.data.toList = O at *
  generalize findN (rootN :: L) q.data.toList = R at *
  obtain ⟨re, rn⟩ := R
  simp only at hR hlt HO
  clear h hsm hne hcm
  by_cases he : re = 0
  · rw [if_neg (by simpa using he)] at HO
    subst he
    cases rn with
    | zero =>
      have HO2 : Hid (O = (66, 0)) := by rw [Hid, HO.out, if_neg]; show ¬ (1 : Int) = 2; decide
      clear HO
      go_enter Tryd.func12, Tryd.ntmps12
      go_wp2_with fail
      refine hR.mono ?_
      rintro e w1 ⟨rfl, hb⟩
      have HB := hide hb
      clear hR hb
      go_wp2
      go_ret2
      exact ⟨by rw [HO2.out]; rfl, HB.out⟩
    | succ m =>
      have hm : m < L.length := by simpa using hlt
      have HKQ : Hid (kindAt (rootN :: L) (m + 1) = L[m].kind) := by rw [Hid, kindAt_of hlt]; rfl
      rw [HKQ.out] at HO
      have hmI : (m : Int) < (L.length : Int) := by omega
      have hmn : (((m + 1 : Nat) : Int) == 0) = false := by rw [beq_eq_false_iff_ne]; omega
      have hm1 : ((m + 1 : Nat) : Int) - 1 = (m : Int) := by omega
      go_enter Tryd.func12, Tryd.ntmps12
      go_wp2_with fail
      refine hR.mono ?_
      rintro e w1 ⟨rfl, hb⟩
      have HB := hide hb
      obtain ⟨y, o, rfl, hI⟩ : ∃ y o, a = some ⟨y, o, none⟩ ∧ ∀ i (h : i < L.length), IsNd w1 y (o + i * 4) L[i] := by
        rcases (HN.out.stay hb).at_ with e | e
        · rw [e] at hm; simp at hm
        · exact e
      have c1 := (hI m hm).c1
      clear hR hb hI
      generalize L[m].kind = kk at *
      by_cases hk : kk = 2
      · rw [if_pos hk] at HO
        subst hk
        go_wp2
        go_ret2
        exact ⟨by rw [HO.out]; rfl, HB.out⟩
      · rw [if_neg hk] at HO
        have hkb : (kk == 2) = false := by rw [beq_eq_false_iff_ne]; exact hk
        have hkb2 : (kk != 2) = true := by simpa using hk
        clear hk
        go_wp2
        go_ret2
        exact ⟨by rw [HO.out]; rfl, HB.out⟩
  · rw [if_pos (by simpa using he)] at HO
    have heb : (re == 0) = false := by rw [beq_eq_false_iff_ne]; exact he
    clear he
    go_enter Tryd.func12, Tryd.ntmps12
    go_wp2_with fail
    refine hR.mono ?_
    rintro e w1 ⟨rfl, hb⟩
    have HB := hide hb
    clear hR hb
    go_wp2
    go_ret2
    exact ⟨by rw [HO.out]; rfl, HB.out⟩
end Go.Proofs.YthkpcafbfgfjpaaDoor
