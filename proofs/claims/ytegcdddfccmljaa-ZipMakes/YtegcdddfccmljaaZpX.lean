
/-
  Layer 7's reference: Make.
-/
import Derived.Test.YtegcdddfccmljaaZpW
import Derived.BigQuiet
set_option linter.unusedVariables false
namespace Go.Proofs.Ytegcdddfccmljaa
open Go.RowKit Go.PlainAid
theorem own_put {w : World} {B : Nat} {v : Value} {x : List UInt8} (h : Own w B v x) (hB : B ≤ w.heap.size) (hl : x.length ≤ 900000000) (ns : List Nat) (hns : ns.length ≤ 10) (hn : ∀ n ∈ ns, n ≤ 18446744073709551615) :
    Calls Try.prog 31 #[v, .slice (some ⟨w.heap.size, 0, none⟩) ns.length ns.length] (w.alloc (nsObj ns)) fun e w' => ∃ v', e = .returned v' ∧ Own w' B v' (x ++ ns.flatMap (leN 2)) ∧ Below B w w' := by
  have hb : Below w.heap.size w (w.alloc (nsObj ns)) := (Below.refl _ w).alloc (Nat.le_refl _) _
  have h' := h.stay hb
  have hB' := Nat.le_trans hB hb.size
  refine (ref_put (w.alloc (nsObj ns)) B v x ns w.heap.size ns.length h' hB' hl (by omega) (Nat.le_refl _) (by omega) (nsObj_cell w ns hn) (fun e => by have := (h.base _ e).2; omega)).mono ?_
  rintro e w' ⟨v', rfl, o', g'⟩
  exact ⟨v', rfl, o', (hb.mono hB).trans (g'.belowB h' hB')⟩
theorem own_put4 {w : World} {B : Nat} {v : Value} {x : List UInt8} (h : Own w B v x) (hB : B ≤ w.heap.size) (hl : x.length ≤ 900000000) (ns : List Nat) (hns : ns.length ≤ 10) (hn : ∀ n ∈ ns, n ≤ 18446744073709551615) :
    Calls Try.prog 30 #[v, .slice (some ⟨w.heap.size, 0, none⟩) ns.length ns.length] (w.alloc (nsObj ns)) fun e w' => ∃ v', e = .returned v' ∧ Own w' B v' (x ++ ns.flatMap (leN 4)) ∧ Below B w w' := by
  have hb : Below w.heap.size w (w.alloc (nsObj ns)) := (Below.refl _ w).alloc (Nat.le_refl _) _
  have h' := h.stay hb
  have hB' := Nat.le_trans hB hb.size
  refine (ref_put4 (w.alloc (nsObj ns)) B v x ns w.heap.size ns.length h' hB' hl (by omega) (Nat.le_refl _) (by omega) (nsObj_cell w ns hn) (fun e => by have := (h.base _ e).2; omega)).mono ?_
  rintro e w' ⟨v', rfl, o', g'⟩
  exact ⟨v', rfl, o', (hb.mono hB).trans (g'.belowB h' hB')⟩
theorem pad_up (e z : Nat) (h : z ≤ padN e) : ((e + z) % 256 = 0 ↔ z = padN e) := by unfold padN at *; omega
set_option maxHeartbeats 8000000 in
set_option maxRecDepth 20000 in
theorem ref_Make (w : World) (vf : Value) (B0 : Nat) (fs : List Fl) (hown : OwnR w B0 vf fs) (hB0 : True) (hfs : ∀ f ∈ fs, Arg w f.vd f.data ∧ f.name.length ≤ 9223372036854775807) (hl : fs.length ≤ 300) :
    Calls Try.prog 14 #[vf] w fun e w' => MakesZ w' w.heap.size (makeN fs) e ∧ Below w.heap.size w w' := by
  have HOW := hide hown
  have HFS := hide hfs
  obtain ⟨a, cap, hvf, hcl⟩ : ∃ a cap, vf = .slice a fs.length cap ∧ cap ≤ 9223372036854775807 := by
    unfold OwnR at hown
    rcases hown.2 with ⟨rfl, hn⟩ | ⟨g, cap, cur, rfl, _, _, _, hm, _⟩
    · exact ⟨none, 0, by rw [hn], by omega⟩
    · exact ⟨_, cap, rfl, by unfold maxLen at hm; omega⟩
  subst hvf
  obtain ⟨O, hO⟩ : ∃ O, makeN fs = O := ⟨_, rfl⟩
  have HO := hide hO
  rw [hO]
  clear hO hown hfs
  obtain ⟨n, hn⟩ : ∃ n, fs.length = n := ⟨_, rfl⟩
  have HN := hide hn
  rw [hn] at hl ⊢ HOW
  clear hn
  have HBR : Hid (Below w.heap.size w w) := Below.refl _ _
  by_cases hbig : 256 < n
  · have hbI : (256 : Int) < (n : Int) := by omega
    have HV : Hid (O = .error 68) := by rw [Hid, ← HO.out, makeN, if_pos (by rw [HN.out]; exact hbig)]
    clear HO
    go_enter Try.func14, Try.ntmps14
    go_wp2
    go_ret2
    exact ⟨by rw [HV.out]; rfl, HBR.out⟩
  have hbI : ¬ (256 : Int) < (n : Int) := by omega
  have hOe := HO.out
  rw [makeN, if_neg (by rw [HN.out]; exact hbig), HN.out] at hOe
  obtain ⟨M, hM⟩ : ∃ M, makeZ fs [] [] = M := ⟨_, rfl⟩
  rw [hM] at hOe
  have HM : Hid (M = makeZ (fs.drop 0) [] []) := by rw [Hid, ← hM]; rfl
  have HOE := hide hOe
  clear hOe hM HO
  go_enter Try.func14, Try.ntmps14
  go_wp2
  go_loopw [4, 5, 6, 7, 8, 9, 10, 11] (fun v4 v5 v6 _ _ _ _ _ wr => ∃ (i : Nat) (x c : List UInt8), i ≤ n ∧ v6 = .int .i64 i ∧ Hid (Own wr w.heap.size v4 x ∧ Own wr w.heap.size v5 c ∧ (v4.ownBlock = none ∨ v4.ownBlock ≠ v5.ownBlock)) ∧ Hid (Below w.heap.size w wr) ∧ Hid (M = makeZ (fs.drop i) x c) ∧ Hid (x.length + c.length + 22 ≤ 262144))
    (fun _ _ v6 _ _ _ _ _ _ => n - (intOf v6).toNat)
  case atStart => exact ⟨0, [], [], by omega, rfl, ⟨Own.nil _ _, Own.nil _ _, .inl rfl⟩, HBR, HM, by simp [Hid]⟩
  case round =>
    obtain ⟨i, x, c, hi, rfl, HT, HB, HR, HXC⟩ := hrel
    by_cases hlt : i < n
    · have hltI : (i : Int) < (n : Int) := by omega
      have hil : i < fs.length := by rw [HN.out]; exact hlt
      obtain ⟨g, hag, hcl2, hcc⟩ : ∃ g, a = some ⟨g, 0, none⟩ ∧ n ≤ cap ∧ g < w.heap.size ∧ w.cell? ⟨g, i * 2, none⟩ = some (.string ⟨fs[i].name.toArray⟩) ∧ w.cell? ⟨g, i * 2 + 1, none⟩ = some fs[i].vd := by
        have h0 := HOW.out
        unfold OwnR at h0
        rcases h0.2 with ⟨e, hn0⟩ | ⟨g, cap', cur, e, _, hg, hnc, _⟩
        · omega
        · injection e with e1 e2 e3
          subst e3
          have k := fun k (hk : k < 2) u (hu : fs[i].cells[k]? = some u) => World.ownsRow.cells h0 (g := g) (by rw [e1]; rfl) (i * 2 + k) u (by rw [flatF_get fs i hil k hk]; exact hu)
          simp only [add_at, Nat.zero_add] at k
          exact ⟨g, e1, by have := HN.out; omega, (Array.getElem?_eq_some_iff.1 hg).1, k 0 (by omega) _ rfl, k 1 (by omega) _ rfl⟩
      obtain ⟨hgl, m0, m1⟩ := hcc
      subst hag
      obtain ⟨hfa, hnl⟩ := HFS.out fs[i] (List.getElem_mem hil)
      have hstep := HR.out
      rw [List.drop_eq_getElem_cons hil, makeZ] at hstep
      generalize fs[i] = f at *
      obtain ⟨nm, d, vd⟩ := f
      obtain ⟨va, vc, hvd, _, _, hd12⟩ := hfa.isSlice
      simp only at hvd hd12 hstep hnl m0 m1 hfa
      subst hvd
      have k0 : wr.cell? ⟨g, i * 2, none⟩ = some (.string ⟨nm.toArray⟩) := by rw [HB.out.cell (p := ⟨g, i * 2, none⟩) hgl]; exact m0
      have k1 : wr.cell? ⟨g, i * 2 + 1, none⟩ = some (.slice va d.length vc) := by rw [HB.out.cell (p := ⟨g, i * 2 + 1, none⟩) hgl]; exact m1
      have HFA := hide hfa
      have HB0 : Hid (Below wr.heap.size wr (wr.alloc (.cells #[.string ⟨nm.toArray⟩, .slice va d.length vc] 69))) := (Below.refl _ wr).alloc (Nat.le_refl _) _
      have HBW : Hid (Below w.heap.size w (wr.alloc (.cells #[.string ⟨nm.toArray⟩, .slice va d.length vc] 69))) := HB.out.trans (HB0.out.mono HB.out.size)
      obtain ⟨D, hD⟩ : ∃ D, d.length = D := ⟨_, rfl⟩
      have HD := hide hD
      rw [hD] at HB0 HBW hd12 k1 hstep
      have HRZ : Hid (Rz (wr.alloc (.cells #[.string ⟨nm.toArray⟩, .slice va D vc] 69)) w.heap.size wr.heap.size _ _ x c nm va D vc) :=
        ⟨HT.out.1.stay HB0.out, HT.out.2.1.stay HB0.out, HT.out.2.2, fun e => by have := (HT.out.1.base _ e).2; omega, fun e => by have := (HT.out.2.1.base _ e).2; omega,
          by rw [World.cell?_alloc_at _ _ _ _ (by simp)]; simp, by rw [World.cell?_alloc_at _ _ _ _ (by simp)]; simp⟩
      have hdI : (D : Int) ≤ 1000000000000 := by omega
      have hnI : (nm.length : Int) ≤ 9223372036854775807 := by omega
      have z0 := HRZ.out.c0
      have z1 := HRZ.out.c1
      have HZ0 := hide z0
      have HZ1 := hide z1
      clear hD m0 m1 hfa z0 z1 HR
      by_cases hnil : nm = []
      · subst hnil
        rw [if_neg (by unfold chkF; simp)] at hstep
        have hOe := HOE.out
        rw [hstep] at hOe
        simp only [chkF, List.length_nil, true_or, if_true] at hOe
        subst hOe
        clear hstep
        go_wp2
        go_ret2
        exact ⟨rfl, HBW.out⟩
      have hb0 : (nm == []) = false := by cases nm with | nil => exact absurd rfl hnil | cons c t => rfl
      have hn0 : 0 < nm.length := List.length_pos_iff.2 hnil
      by_cases h256 : 256 < nm.length
      · have hck : chkF nm.length D = 40 := by unfold chkF; rw [if_pos (.inr h256)]
        rw [hck, if_neg (by decide)] at hstep
        have hOe := HOE.out
        rw [hstep] at hOe
        simp only at hOe
        subst hOe
        have hI : (256 : Int) < (nm.length : Int) := by omega
        clear hstep hnil
        go_wp2
        go_ret2
        exact ⟨rfl, HBW.out⟩
      have hI : decide ((256 : Int) < (nm.length : Int)) = false := decide_eq_false (by omega)
      by_cases hDb : 262144 < D
      · have hck : chkF nm.length D = 67 := by unfold chkF; rw [if_neg (by omega), if_pos hDb]
        rw [hck, if_neg (by decide)] at hstep
        have hOe := HOE.out
        rw [hstep] at hOe
        simp only at hOe
        subst hOe
        have hI2 : (262144 : Int) < (D : Int) := by omega
        clear hstep hnil
        go_wp2
        go_ret2
        exact ⟨rfl, HBW.out⟩
      have hI2 : decide ((262144 : Int) < (D : Int)) = false := decide_eq_false (by omega)
      have hck : chkF nm.length D = 0 := by unfold chkF; rw [if_neg (by omega), if_neg hDb]
      rw [if_pos hck] at hstep
      obtain ⟨a4, c4, h4, _⟩ := HRZ.out.o4.slice
      subst h4
      have hxl := HXC.out
      have w1 : IntKind.u64.wrap (x.length : Int) = (x.length : Int) := by rw [IntKind.wrap_u64]; omega
      have w2 : IntKind.u64.wrap (nm.length : Int) = (nm.length : Int) := by rw [IntKind.wrap_u64]; omega
      have w3 : IntKind.u64.wrap (D : Int) = (D : Int) := by rw [IntKind.wrap_u64]; omega
      have HST := hide hstep
      clear hstep hck
      go_wp2_with fail
      go_quiet (fail)
      clear w1 w2 w3 k0 k1
      have R0 : Hid (Rz ((wr.alloc (.cells #[.string ⟨nm.toArray⟩, .slice va D vc] 69)).drewN nq) w.heap.size wr.heap.size (.slice a4 x.length c4) _ x c nm va D vc) := HRZ.out.below ⟨rfl, rfl, rfl, Nat.le_refl _, fun _ _ => rfl⟩
      have BW0 : Hid (Below w.heap.size w ((wr.alloc (.cells #[.string ⟨nm.toArray⟩, .slice va D vc] 69)).drewN nq)) := ⟨HBW.out.os, HBW.out.tape, HBW.out.output, HBW.out.size, HBW.out.block⟩
      clear HRZ HBW HB0 HZ0 HZ1 HT
      generalize (wr.alloc (.cells #[.string ⟨nm.toArray⟩, .slice va D vc] 69)).drewN nq = t0 at *
      generalize wr.heap.size = Z at *
      obtain ⟨P, hP⟩ : ∃ P, padN (x.length + 30 + nm.length) = P := ⟨_, rfl⟩
      have hPl := (padN_is (x.length + 30 + nm.length)).2.1
      rw [hP] at hPl
      have HP := hide hP
      have hxI : (x.length : Int) ≤ 262144 := by omega
      have hmI : (nm.length : Int) ≤ 256 := by omega
      have hDI : (D : Int) ≤ 262144 := by omega
      clear hP
      go_wp2
      go_loopw [11] (fun v11 wr' => wr' = t0 ∧ ∃ z : Nat, z ≤ P ∧ v11 = .int .u64 z) (fun v11 _ => P - (intOf v11).toNat)
      case atStart => exact ⟨rfl, 0, by omega, rfl⟩
      case round =>
        obtain ⟨rfl, z, hz, rfl⟩ := hrel
        have hpu := pad_up (x.length + 30 + nm.length) z (by rw [HP.out]; exact hz)
        rw [HP.out] at hpu
        have hzI : (z : Int) < 256 := by omega
        by_cases hzP : z = P
        · have hm0 : (x.length + 30 + nm.length + z) % 256 = 0 := hpu.2 hzP
          have hmb : ((((x.length : Int) + 30 + (nm.length : Int) + (z : Int)) % 256) != 0) = false := by simp; omega
          have HZP := hide hzP
          clear hpu hm0 hzP
          go_wp2_with fail
          refine (rz_put4L R0.out BW0.out.size (by have := HXC.out; omega) [67324752] (by simp) (by intro q hq; simp at hq; omega)).mono ?_
          rintro e t1 ⟨y1, rfl, hR, hb⟩
          have R1 := hide hR
          have BW1 : Hid (Below w.heap.size w t1) := BW0.out.trans hb
          clear hR hb
          go_wp2_with fail
          refine (rz_putL R1.out BW1.out.size (by have := HXC.out; simp [leN_length]; omega) [10, 0, 0, 0, 0] (by simp) (by intro q hq; simp at hq; omega)).mono ?_
          rintro e t2 ⟨y2, rfl, hR, hb⟩
          have R2 := hide hR
          have BW2 : Hid (Below w.heap.size w t2) := BW1.out.trans hb
          clear hR hb
          go_wp2_with fail
          refine (rz_put4L R2.out BW2.out.size (by have := HXC.out; simp [leN_length]; omega) [0, D, D] (by simp) (by intro q hq; simp at hq; omega)).mono ?_
          rintro e t3 ⟨y3, rfl, hR, hb⟩
          have R3 := hide hR
          have BW3 : Hid (Below w.heap.size w t3) := BW2.out.trans hb
          clear hR hb
          go_wp2_with fail
          refine (rz_putL R3.out BW3.out.size (by have := HXC.out; simp [leN_length]; omega) [nm.length, z] (by simp) (by intro q hq; simp at hq; omega)).mono ?_
          rintro e t4 ⟨y4, rfl, hR, hb⟩
          have R4 := hide hR
          have BW4 : Hid (Below w.heap.size w t4) := BW3.out.trans hb
          clear hR hb
          have q0 := R4.out.c0
          go_wp2_with (at_builtin; refine append_text rfl _ _ rfl w.heap.size t4 _ _ nm R4.out.o4 (by intro e; have := congrArg List.length e; simp [leN_length] at this) rfl rfl (by have := HXC.out; simp [leN_length]; omega) BW4.out.size ?_)
          intro y5 t5 o' g'
          have R5 := hide (R4.out.left o' g')
          have BW5 : Hid (Below w.heap.size w t5) := BW4.out.trans (g'.belowB R4.out.o4 BW4.out.size)
          clear o' g' q0
          go_wp2_with fail
          refine (ref_Zeros t5 w.heap.size _ _ (z : Int) R5.out.o4 BW5.out.size (by have := HXC.out; simp [leN_length]; omega) (by omega)).mono ?_
          rintro e t6 ⟨y6, rfl, o', g'⟩
          rw [Int.toNat_natCast] at o'
          have R6 := hide (R5.out.left o' g')
          have BW6 : Hid (Below w.heap.size w t6) := BW5.out.trans (g'.belowB R5.out.o4 BW5.out.size)
          clear o' g'
          have q1 := R6.out.c1
          have HAD : Hid (Arg t6 (.slice va D vc) d) := by have q := HFA.out.below BW6.out rfl; rw [HD.out] at q; exact q
          go_wp2_with (at_builtin; refine append_arg rfl _ _ rfl w.heap.size t6 _ _ R6.out.o4 _ d HAD.out rfl rfl (by have := HXC.out; have := HD.out; simp [leN_length]; omega) BW6.out.size ?_)
          intro y7 t7 o' g1 g2
          have g' : Gx t6 t7 _ y7 := ⟨g1, g2.imp id fun e => ⟨_, e, Nat.le_refl _⟩⟩
          have R7 := hide (R6.out.left o' g')
          have BW7 : Hid (Below w.heap.size w t7) := BW6.out.trans (g'.belowB R6.out.o4 BW6.out.size)
          clear o' g1 g2 g' q1 HAD
          go_wp2_with fail
          refine (rz_put4R R7.out BW7.out.size (by have := HXC.out; omega) [33639248] (by simp) (by intro q hq; simp at hq; omega)).mono ?_
          rintro e t8 ⟨y8, rfl, hR, hb⟩
          have R8 := hide hR
          have BW8 : Hid (Below w.heap.size w t8) := BW7.out.trans hb
          clear hR hb
          go_wp2_with fail
          refine (rz_putR R8.out BW8.out.size (by have := HXC.out; simp [leN_length]; omega) [10, 10, 0, 0, 0, 0] (by simp) (by intro q hq; simp at hq; omega)).mono ?_
          rintro e t9 ⟨y9, rfl, hR, hb⟩
          have R9 := hide hR
          have BW9 : Hid (Below w.heap.size w t9) := BW8.out.trans hb
          clear hR hb
          go_wp2_with fail
          refine (rz_put4R R9.out BW9.out.size (by have := HXC.out; simp [leN_length]; omega) [0, D, D] (by simp) (by intro q hq; simp at hq; omega)).mono ?_
          rintro e t10 ⟨y10, rfl, hR, hb⟩
          have R10 := hide hR
          have BW10 : Hid (Below w.heap.size w t10) := BW9.out.trans hb
          clear hR hb
          go_wp2_with fail
          refine (rz_putR R10.out BW10.out.size (by have := HXC.out; simp [leN_length]; omega) [nm.length, 0, 0, 0, 0] (by simp) (by intro q hq; simp at hq; omega)).mono ?_
          rintro e t11 ⟨y11, rfl, hR, hb⟩
          have R11 := hide hR
          have BW11 : Hid (Below w.heap.size w t11) := BW10.out.trans hb
          clear hR hb
          go_wp2_with fail
          refine (rz_put4R R11.out BW11.out.size (by have := HXC.out; simp [leN_length]; omega) [0, x.length] (by simp) (by intro q hq; simp at hq; omega)).mono ?_
          rintro e t12 ⟨y12, rfl, hR, hb⟩
          have R12 := hide hR
          have BW12 : Hid (Below w.heap.size w t12) := BW11.out.trans hb
          clear hR hb
          have q0 := R12.out.c0
          go_wp2_with (at_builtin; refine append_text rfl _ _ rfl w.heap.size t12 _ _ nm R12.out.o5 (by intro e; have := congrArg List.length e; simp [leN_length] at this) rfl rfl (by have := HXC.out; simp [leN_length]; omega) BW12.out.size ?_)
          intro y13 t13 o' g'
          have R13 := hide (R12.out.right o' g')
          have BW13 : Hid (Below w.heap.size w t13) := BW12.out.trans (g'.belowB R12.out.o5 BW12.out.size)
          clear o' g' q0
          have e1 := own_pieces x nm d z (by rw [HP.out]; exact HZP.out.symm)
          have e2 := list_pieces c nm d x.length
          have hXL := ownB_len x.length nm d
          have hCL := listB_len x.length nm d
          have hst := HST.out
          rw [HD.out] at e1 e2 hXL
          rw [HP.out] at hXL
          have RG : Hid (Rz t13 w.heap.size Z y7 y13 (x ++ ownB x.length nm d) (c ++ listB x.length nm d) nm va D vc) := by rw [Hid, ← e1, ← e2]; simpa [List.append_assoc] using R13.out
          obtain ⟨A, hA⟩ : ∃ A, (x ++ ownB x.length nm d).length = A := ⟨_, rfl⟩
          obtain ⟨C, hC⟩ : ∃ C, (c ++ listB x.length nm d).length = C := ⟨_, rfl⟩
          rw [hA, hC] at hst
          obtain ⟨a4', c4', h4', _⟩ := RG.out.o4.slice
          obtain ⟨a5', c5', h5', _⟩ := RG.out.o5.slice
          subst h4' h5'
          have hAI : (A : Int) ≤ 1000000 := by have := HXC.out; rw [List.length_append, hXL] at hA; omega
          have hCI : (C : Int) ≤ 1000000 := by have := HXC.out; rw [List.length_append, hCL] at hC; omega
          have HAC := hide (And.intro hA hC)
          have RF := RG
          rw [hA, hC] at RF ⊢
          clear e1 e2 hXL hCL hA hC HST
          by_cases hbg : 262144 < A + C + 22
          · rw [if_pos hbg] at hst
            have hbgI : (262144 : Int) < (A : Int) + (C : Int) + 22 := by omega
            have hOe := HOE.out
            rw [hst] at hOe
            simp only at hOe
            subst hOe
            clear hst hbg
            go_wp2
            go_ret2
            exact ⟨rfl, BW13.out⟩
          · rw [if_neg hbg] at hst
            have hbgD : decide ((262144 : Int) < (A : Int) + (C : Int) + 22) = false := decide_eq_false (by omega)
            have HST := hide hst
            have HBG := hide hbg
            clear hst hbg
            go_wp2
            go_roundw
            case rel => exact ⟨i + 1, _, _, by omega, by go_num, ⟨RF.out.o4, RF.out.o5, RF.out.ne⟩, BW13, HST, by have h1 := HAC.out; have h2 := HBG.out; rw [Hid, h1.1, h1.2]; omega⟩
            case measure => simp [intOf]; omega
        · have hm0 : ¬ (x.length + 30 + nm.length + z) % 256 = 0 := fun e => hzP (hpu.1 e)
          have hmb : ((((x.length : Int) + 30 + (nm.length : Int) + (z : Int)) % 256) != 0) = true := by simp; omega
          clear hpu
          go_wp2
          go_roundw
          case rel => exact ⟨trivial, z + 1, by omega, by go_num⟩
          case measure => simp [intOf]; omega
    · have him : i = n := by omega
      subst him
      have hM2 := HR.out
      rw [List.drop_of_length_le (by rw [HN.out]; exact Nat.le_refl _), makeZ] at hM2
      have hOe := HOE.out
      rw [hM2] at hOe
      simp only at hOe
      subst hOe
      obtain ⟨a4, c4, h4, _⟩ := HT.out.1.slice
      obtain ⟨a5, c5, h5, _⟩ := HT.out.2.1.slice
      subst h4 h5
      have hxI : (x.length : Int) ≤ 262144 := by have := HXC.out; omega
      have hcI : (c.length : Int) ≤ 262144 := by have := HXC.out; omega
      have hnI2 : (i : Int) ≤ 256 := by omega
      have HA5 := hide (HT.out.2.1.arg (by have := HXC.out; omega))
      have HO4 := hide HT.out.1
      clear HR hM2 HM HT
      go_wp2_with (at_builtin; refine append_arg rfl _ _ rfl w.heap.size wr _ _ HO4.out _ c HA5.out rfl rfl (by have := HXC.out; omega) HB.out.size ?_)
      intro y1 t1 o1 g1 _
      have O1 := hide o1
      have BW1 : Hid (Below w.heap.size w t1) := HB.out.grown g1 HB.out.size (fun k hk => (HO4.out.base k hk).1)
      clear o1 g1
      go_wp2_with fail
      refine (own_put4 O1.out BW1.out.size (by have := HXC.out; simp; omega) [101010256, 0] (by simp) (by intro q hq; simp at hq; omega)).mono ?_
      rintro e t2 ⟨y2, rfl, o2, b2⟩
      have O2 := hide o2
      have BW2 : Hid (Below w.heap.size w t2) := BW1.out.trans b2
      clear o2 b2
      go_wp2_with fail
      refine (own_put O2.out BW2.out.size (by have := HXC.out; simp [leN_length]; omega) [i, i] (by simp) (by intro q hq; simp at hq; omega)).mono ?_
      rintro e t3 ⟨y3, rfl, o3, b3⟩
      have O3 := hide o3
      have BW3 : Hid (Below w.heap.size w t3) := BW2.out.trans b3
      clear o3 b3
      go_wp2_with fail
      refine (own_put4 O3.out BW3.out.size (by have := HXC.out; simp [leN_length]; omega) [c.length, x.length] (by simp) (by intro q hq; simp at hq; omega)).mono ?_
      rintro e t4 ⟨y4, rfl, o4, b4⟩
      have O4 := hide o4
      have BW4 : Hid (Below w.heap.size w t4) := BW3.out.trans b4
      clear o4 b4
      go_wp2_with fail
      refine (own_put O4.out BW4.out.size (by have := HXC.out; simp [leN_length]; omega) [0] (by simp) (by intro q hq; simp at hq; omega)).mono ?_
      rintro e t5 ⟨y5, rfl, o5, b5⟩
      have O5 : Hid (Own t5 w.heap.size y5 (x ++ c ++ lastB i c.length x.length)) := by rw [Hid, ← last_pieces]; simpa [List.append_assoc] using o5
      have BW5 : Hid (Below w.heap.size w t5) := BW4.out.trans b5
      clear o5 b5
      go_wp2
      go_ret2
      exact ⟨⟨_, rfl, O5.out⟩, BW5.out⟩
end Go.Proofs.Ytegcdddfccmljaa
