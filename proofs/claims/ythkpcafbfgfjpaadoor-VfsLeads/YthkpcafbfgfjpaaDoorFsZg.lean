
/-
  Layer 6's reference: Resolve.
-/
import Derived.Test.YthkpcafbfgfjpaaDoorFsZf
set_option linter.unusedVariables false
namespace Go.Proofs.YthkpcafbfgfjpaaDoor
open Go.RowKit Go.PlainAid
theorem append_txt_u {ops : Array Oper} {rest : List Oper} {o : Oper} {a : Act} {Q : Exit → Act → World → Prop} (hgd : o.guard = none) (s x : Operand)
    (ho : o.op = .call { callee := .builtin .append, args := #[s, x], argTypes := #[41, 41] })
    (B : Nat) (W : World) (v : Value) (acc : List (List UInt8)) (hown : OwnS W B v (acc.map tx)) (hs : a.eval s = v) (y : Addr) (m c : Nat) (l : List (List UInt8)) (F : Nat → Prop)
    (hsrc : SrcS W F (.slice (some y) m c) l) (hx : a.eval x = .slice (some y) m c) (hl1 : acc.length ≤ 100000) (hl2 : l.length ≤ 100000) (hB : B ≤ W.heap.size)
    (h : ∀ v' w', OwnS w' B v' ((acc ++ l).map tx) → Below B W w' → wpList Tryd.prog ops Q rest (a.put o.dst v') w') :
    wpList Tryd.prog ops Q (o :: rest) a W := by
  obtain ⟨i, hi, hz0, hz1, hz2⟩ := info_parts Tryd.infoS
  have hb : ∀ k, v.ownBlock = some k → B ≤ k := fun k hk => (World.ownsRow.lt hown k hk).1
  obtain ⟨ya, yc, e, h1, h2, h3⟩ := hsrc
  injection e with e1 e2 e3
  subst e1 e2 e3
  unfold OwnS at hown
  rw [List.length_map, List.map_map] at hown
  refine wpList_append_own (P := Tryd.prog) W hgd s x 41 ho B 9 i (.string ByteArray.empty) 1 16 Tryd.underlying41 hi hz0 hz1 hz2 rfl (by decide) v acc.length _ hs hown y l.length c (l.map (Value.string ∘ tx)) hx (by simp) ?_ ?_ ?_ ?_ hB ?_
  · intro j u hj
    rcases h3 with rfl | ⟨g, q, e, _, hc⟩
    · simp at hj
    · have e := Option.some.inj e
      subst e
      obtain ⟨hj1, hj2⟩ := List.getElem?_eq_some_iff.1 hj
      rw [List.length_map] at hj1
      rw [Addr.add_mid, hc j hj1, ← hj2]; simp
  · intro u hu; obtain ⟨z, _, rfl⟩ := List.mem_map.1 hu; rfl
  · unfold maxLen; omega
  · omega
  · intro v' w' k1 k2 _
    refine h v' w' ?_ ?_
    · unfold OwnS
      simpa using k1
    · exact (Below.refl B W).grown k2 hB hb
def lenV : Value → Nat
  | .slice _ n _ => n
  | _ => 0
structure RS (w wr : World) (l : List Nd) (R : Int × Nat) (f p k : Nat) (ns : List (List UInt8)) (vl : Value) : Prop where
  below : Below w.heap.size w wr
  hp : p < l.length
  hk : kindAt l p = 1
  k8 : k ≤ 8
  mu_ : mu ⟨p, ns, k⟩ < f
  top : f ≤ 45000
  run : R = refRun l f (pathAt l p) ns k
  row : SrcS wr (fun _ => False) vl ns
  nms : ∀ n ∈ ns, n.length ≤ 4096 ∧ n ≠ []
theorem RS.less {w wr : World} {l : List Nd} {R : Int × Nat} {f p k : Nat} {n : List UInt8} {r : List (List UInt8)} {vl : Value} (h : RS w wr l R (f + 1) p k (n :: r) vl) : (8 - k) * 5000 + (r.length + 1) < f + 1 := h.mu_
theorem names_good (t : List UInt8) (h : t.length ≤ 4096) : ∀ n ∈ names t, n.length ≤ 4096 ∧ n ≠ [] := fun n hn => by
  refine ⟨by have := name_len _ n hn; omega, fun e => ?_⟩
  subst e
  unfold names at hn
  have := (List.mem_filter.1 hn).2
  revert this
  decide
theorem path_small {L : List Nd} (hs : ∀ n ∈ L, SmallN n) {p : Nat} (hp : p < (rootN :: L).length) : (pathAt (rootN :: L) p).length ≤ 4096 := by
  rcases at_cases hp with e | ⟨n, hm, e, _⟩
  · subst e; show (1 : Nat) ≤ 4096; omega
  · rw [e, ← size_list]; exact (hs n hm).1
theorem two_dots (n : List UInt8) : ((tx n).toList == [46, 46]) = decide (n = [46, 46]) := by
  rw [tl, data_tx]
  by_cases h : n = [46, 46]
  · rw [h]; rfl
  · rw [beq_eq_false_iff_ne.2 h, decide_eq_false h]
theorem below_root {d n : List UInt8} (hn : n ≠ []) (hd : d ≠ []) : belowOf d n ≠ [47] := by
  unfold belowOf
  split
  · intro e; injection e with _ e; exact hn e
  · intro e
    cases d with
    | nil => exact hd rfl
    | cons x t =>
      rw [List.cons_append] at e
      injection e with _ e
      simp at e
theorem below_one (d n : List UInt8) (h : d = [47]) : (⟨#[47]⟩ : ByteArray) ++ tx n = tx (belowOf d n) := by
  unfold belowOf
  rw [if_pos h, show (⟨#[47]⟩ : ByteArray) = tx [47] from rfl, tx_append]; rfl
theorem below_two (d n : List UInt8) (h : d ≠ [47]) : tx d ++ (⟨#[47]⟩ : ByteArray) ++ tx n = tx (belowOf d n) := by
  unfold belowOf
  rw [if_neg h, show (⟨#[47]⟩ : ByteArray) = tx [47] from rfl, tx_append, tx_append]; simp
set_option maxHeartbeats 4000000 in
set_option maxRecDepth 20000 in
theorem ref6_Resolve (w : World) (a : Option Addr) (cap : Nat) (L : List Nd) (hlc : L.length ≤ cap) (hcm : cap ≤ maxLen) (h : NdsAt w a L) (hsm : ∀ n ∈ L, SmallN n) (hne : newErr L = 0) (q : ByteArray) (hq : q.size ≤ 4096) :
    Calls Tryd.prog 9 #[.slice a L.length cap, .string q] w fun e w' => e = .returned (.tuple #[.int .i64 ((findN (rootN :: L) q.data.toList).2 : Nat), .int .i64 (findN (rootN :: L) q.data.toList).1]) ∧ Below w.heap.size w w' := by
  have hC := ref_Clean q w (by omega)
  have HN := hide h
  have HSM := hide hsm
  have HCM : Hid (cap ≤ maxLen) := hcm
  have hcap2 : cap ≤ 9223372036854775807 := by unfold maxLen at hcm; omega
  have hl : L.length ≤ 256 := ((newErr_zero L).1 hne).1
  have HFI := hide (fine_of hne hsm)
  have HNE := hide hne
  have HP := fun w => ref_Parts q w (by omega)
  have hsl := size_list q
  have HNQ : Hid (∀ n ∈ names q.data.toList, n.length ≤ 4096 ∧ n ≠ []) := names_good _ (by omega)
  clear h hsm hcm
  by_cases hc : clE q.data.toList = 0
  · have HR := hide (findN_ref hne HSM.out q.data.toList hc)
    have HK := hide (findK_mu q.data.toList)
    have HKT := hide (findK_top q.data.toList (by omega))
    rw [hc] at hC
    generalize tx (clT q.data.toList) = T at *
    generalize findN (rootN :: L) q.data.toList = R at *
    generalize findK q.data.toList = K at *
    clear hc hne hsl
    go_enter Tryd.func9, Tryd.ntmps9
    go_wp2_with fail
    refine hC.mono ?_
    rintro e w1 ⟨rfl, hb1⟩
    have HB1 := hide hb1
    clear hC hb1
    go_wp2_with fail
    refine (HP w1).mono ?_
    rintro e w2 ⟨vl, rfl, ho, hb2⟩
    have HS : Hid (RS w w2 (rootN :: L) R (K + 1) 0 0 (names q.data.toList) vl) := ⟨HB1.out.trans (hb2.mono HB1.out.size), HFI.out.pos, HFI.out.root, by omega, Nat.lt_succ_of_le HK.out, by have := HKT.out; omega, by rw [HFI.out.rootP]; exact HR.out, ho.src (fun _ _ => id), HNQ.out⟩
    clear ho hb2 HP HR HB1 HK HKT
    go_wp2
    go_loopw [8, 9, 10] (fun v8 v9 v10 wr => ∃ f p k ns, Hid (RS w wr (rootN :: L) R f p k ns v8) ∧ v9 = .string (tx (pathAt (rootN :: L) p)) ∧ v10 = .int .i64 (k : Nat)) (fun v8 _ v10 _ => (8 - (intOf v10).toNat) * 5000 + lenV v8)
    case atStart => exact ⟨_, 0, 0, _, HS, rfl, rfl⟩
    case round =>
      obtain ⟨f, p, k, ns, HS, rfl, rfl⟩ := hrel
      have HNr := hide (HN.out.stay HS.out.below)
      cases ns with
      | nil =>
        obtain ⟨a', cap', rfl, _, _, _⟩ := HS.out.row
        have hF := ref6_Find wr a cap L hlc HCM.out (by omega) HNr.out (tx (pathAt (rootN :: L) p))
        rw [data_tx, refFind_is] at hF
        have hin := numOf_get ((newErr_zero L).1 HNE.out).2.2.1 (k := p) (by rw [pathsOf_len]; exact HS.out.hp)
        rw [← paths_get HS.out.hp] at hin
        rw [hin.1, hin.2, if_pos rfl] at hF
        have HR : Hid (R = (0, p)) := by
          have h1 := HS.out.run
          obtain ⟨f', rfl⟩ : ∃ f', f = f' + 1 := ⟨f - 1, by have := HS.out.mu_; omega⟩
          rw [refRun, hin.2] at h1
          exact h1
        have HB := hide HS.out.below
        clear HS hin
        go_wp2_with fail
        refine hF.mono ?_
        rintro e w3 ⟨rfl, rfl⟩
        go_wp2
        go_ret2
        exact ⟨by rw [HR.out]; rfl, HB.out⟩
      | cons n r =>
        obtain ⟨f, rfl⟩ : ∃ f', f = f' + 1 := ⟨f - 1, by have := HS.out.mu_; omega⟩
        obtain ⟨g0, o0, cap0, rfl, hc1, hc2, hn0, A, hA, hrest⟩ := HS.out.row.tail
        have hcap0 : cap0 ≤ 9223372036854775807 := by unfold maxLen at hc2; omega
        have HRest := hide hrest
        have hdl := path_small HSM.out HS.out.hp
        have hnl := (HS.out.nms n List.mem_cons_self).1
        have hnn := (HS.out.nms n List.mem_cons_self).2
        have HNM : Hid (∀ x ∈ r, x.length ≤ 4096 ∧ x ≠ []) := fun x hx => HS.out.nms x (List.mem_cons_of_mem _ hx)
        have hdots := two_dots n
        have hts : (tx n).size ≤ 4096 := by rw [tx_size]; exact hnl
        have htd : (tx (pathAt (rootN :: L) p)).size ≤ 4096 := by rw [tx_size]; exact hdl
        have HMU : Hid (∀ p', mu ⟨p', r, k⟩ < f) := fun p' => by have := HS.out.less; unfold mu; show (8 - k) * 5000 + r.length < f; omega
        have HRUN := hide HS.out.run
        rw [refRun] at HRUN
        have HB := hide HS.out.below
        have hp := HS.out.hp
        have hk1 := HS.out.hk
        have hk8 := HS.out.k8
        have htop := HS.out.top
        have hlI : (0 : Int) < (r.length : Int) + 1 := by omega
        have HLS := hide HS.out.less
        clear HS hrest
        by_cases hn2 : n = [46, 46]
        · rw [if_pos hn2] at HRUN
          rw [decide_eq_true hn2] at hdots
          obtain ⟨u1, u2⟩ := HFI.out.up p hp
          obtain ⟨a1, a2⟩ := at_num u1
          have HS2 : Hid (RS w wr (rootN :: L) R f (numOf (pathsOf (rootN :: L)) (upOf (pathAt (rootN :: L) p))) k r (.slice (some A) r.length (cap0 - 1))) := ⟨HB.out, a1, u2, hk8, HMU.out _, by omega, by rw [a2]; exact HRUN.out, HRest.out, HNM.out⟩
          have hU := ref_Up (tx (pathAt (rootN :: L) p)) wr (by omega)
          rw [data_tx, ← a2] at hU
          clear hn2 u1 u2 a1 a2 hp hk1
          generalize numOf (pathsOf (rootN :: L)) (upOf (pathAt (rootN :: L) p)) = p2 at *
          go_wp2_with fail
          refine hU.mono ?_
          rintro e w3 ⟨rfl, rfl⟩
          go_wp2
          go_roundw
          case rel => exact ⟨f, p2, k, r, HS2, rfl, rfl⟩
          case measure => simp [intOf, lenV]
        · rw [if_neg hn2] at HRUN
          rw [decide_eq_false hn2] at hdots
          have hroot := eq_root (tx (pathAt (rootN :: L) p))
          rw [data_tx] at hroot
          have hdn : pathAt (rootN :: L) p ≠ [] := by
            rcases at_cases hp with e | ⟨m, hm, e, _⟩
            · subst e; simp [pathAt, rootN]
            · rw [e]
              intro e2
              have := (chk_clean (((newErr_zero L).1 HNE.out).2.1 m hm)).1
              rw [e2] at this
              revert this
              decide
          have HBR : Hid _ := below_root (d := pathAt (rootN :: L) p) hnn hdn
          have hF := ref6_Find wr a cap L hlc HCM.out (by omega) HNr.out (tx (belowOf (pathAt (rootN :: L) p) n))
          rw [data_tx, refFind_is] at hF
          have hT1 := below_one (pathAt (rootN :: L) p) n
          have hT2 := below_two (pathAt (rootN :: L) p) n
          have HAN : Hid (isIn (pathsOf (rootN :: L)) (belowOf (pathAt (rootN :: L) p) n) = true → _) := at_num
          clear hn2 hdn
          generalize belowOf (pathAt (rootN :: L) p) n = b at *
          have hT : (if pathAt (rootN :: L) p = [47] then (⟨#[47]⟩ : ByteArray) ++ tx n else tx (pathAt (rootN :: L) p) ++ (⟨#[47]⟩ : ByteArray) ++ tx n) = tx b := by
            by_cases e : pathAt (rootN :: L) p = [47]
            · rw [if_pos e]; exact hT1 e
            · rw [if_neg e]; exact hT2 e
          cases hi : isIn (pathsOf (rootN :: L)) b with
          | false =>
            rw [hi] at hF HRUN
            rw [if_neg (by decide)] at hF
            rw [if_pos rfl] at HRUN
            by_cases e : pathAt (rootN :: L) p = [47]
            · rw [decide_eq_true e] at hroot
              have hT3 := hT1 e
              clear hT hT1 hT2 e
              generalize tx b = bt at *
              generalize tx (pathAt (rootN :: L) p) = dt at *
              generalize tx n = nt at *
              go_wp2_with fail
              refine hF.mono ?_
              rintro e w3 ⟨rfl, rfl⟩
              go_wp2
              go_ret2
              exact ⟨by rw [HRUN.out]; rfl, HB.out⟩
            · rw [decide_eq_false e] at hroot
              have hT3 := hT2 e
              clear hT hT1 hT2 e
              generalize tx b = bt at *
              generalize tx (pathAt (rootN :: L) p) = dt at *
              generalize tx n = nt at *
              go_wp2_with fail
              refine hF.mono ?_
              rintro e w3 ⟨rfl, rfl⟩
              go_wp2
              go_ret2
              exact ⟨by rw [HRUN.out]; rfl, HB.out⟩
          | true =>
            rw [hi] at hF HRUN
            rw [if_pos rfl] at hF
            rw [if_neg (show ¬ true = false by decide)] at HRUN
            obtain ⟨a1, a2⟩ := HAN.out hi
            clear HAN hi
            generalize numOf (pathsOf (rootN :: L)) b = qn at *
            obtain ⟨m, rfl⟩ : ∃ m, qn = m + 1 := by
              cases qn with
              | zero => exact absurd a2.symm HBR.out
              | succ m => exact ⟨m, rfl⟩
            have hm : m < L.length := by simpa using a1
            obtain ⟨y, o, rfl, hI⟩ : ∃ y o, a = some ⟨y, o, none⟩ ∧ ∀ i (h : i < L.length), IsNd wr y (o + i * 4) L[i] := by
              rcases HNr.out.at_ with e | e
              · rw [e] at hm; simp at hm
              · exact e
            obtain ⟨c0, c1, c2, c3, _, _, hsrc⟩ := hI m hm
            obtain ⟨da, dc, hvd, q1, q2, q3⟩ := hsrc
            rw [hvd] at c2
            have hto := (HSM.out L[m] (List.getElem_mem hm)).2
            have hkk := HFI.out.kinds (m + 1) a1
            have HKQ : Hid (kindAt (rootN :: L) (m + 1) = L[m].kind) := by rw [Hid, kindAt_of a1]; rfl
            have HTQ : Hid (toAt (rootN :: L) (m + 1) = L[m].to.data.toList) := by rw [Hid, toAt_of a1]; rfl
            have HCH : Hid (chkE L[m].path.data.toList L[m].kind L[m].data.length L[m].to = 0) := ((newErr_zero L).1 HNE.out).2.1 L[m] (List.getElem_mem hm)
            rw [HKQ.out] at hkk
            rw [HKQ.out, HTQ.out] at HRUN
            have hmI : (m : Int) < (L.length : Int) := by omega
            have hmn : ¬ ((m + 1 : Nat) : Int) < 0 := by omega
            have hm1 : ((m + 1 : Nat) : Int) - 1 = (m : Int) := by omega
            have HA2 := hide a2
            clear hI hvd q1 q2 q3 hT a2
            generalize L[m].data.length = dn at *
            generalize L[m].path = pp at *
            generalize L[m].kind = kk at *
            generalize L[m].to = tt at *
            by_cases e : pathAt (rootN :: L) p = [47]
            · rw [decide_eq_true e] at hroot
              have hT3 := hT1 e
              clear hT1 hT2 e
              rcases hkk with rfl | rfl | rfl
              · rw [if_neg (by decide), if_neg (by decide)] at HRUN
                have HSW : Hid (∀ W, Below wr.heap.size wr W → RS w W (rootN :: L) R f (m + 1) k r (.slice (some A) r.length (cap0 - 1))) := fun W hW => ⟨HB.out.trans (hW.mono HB.out.size), a1, HKQ.out, hk8, HMU.out _, by omega, by rw [HA2.out]; exact HRUN.out, HRest.out.turn (Turn.of_below hW), HNM.out⟩
                generalize hbt : tx b = bt at *
                generalize hdt : tx (pathAt (rootN :: L) p) = dt at *
                generalize tx n = nt at *
                go_wp2_with fail
                refine hF.mono ?_
                rintro e w3 ⟨rfl, rfl⟩
                go_wp2
                go_roundw
                case rel => exact ⟨f, m + 1, k, r, HSW.out _ (below_box _ _), by rw [HA2.out, hbt], rfl⟩
                case measure => simp [intOf, lenV]
              · rw [if_pos rfl] at HRUN
                by_cases hr : r = []
                · rw [if_pos hr] at HRUN
                  subst hr
                  generalize hbt : tx b = bt at *
                  generalize hdt : tx (pathAt (rootN :: L) p) = dt at *
                  generalize tx n = nt at *
                  go_wp2_with fail
                  refine hF.mono ?_
                  rintro e w3 ⟨rfl, rfl⟩
                  go_wp2
                  go_ret2
                  exact ⟨by rw [HRUN.out]; rfl, HB.out.trans ((below_box _ _).mono HB.out.size)⟩
                · rw [if_neg hr] at HRUN
                  have hr0 : 0 < r.length := List.length_pos_iff.2 hr
                  have hrI : (0 : Int) < (r.length : Int) := by omega
                  generalize hbt : tx b = bt at *
                  generalize hdt : tx (pathAt (rootN :: L) p) = dt at *
                  generalize tx n = nt at *
                  go_wp2_with fail
                  refine hF.mono ?_
                  rintro e w3 ⟨rfl, rfl⟩
                  go_wp2
                  go_ret2
                  exact ⟨by rw [HRUN.out]; rfl, HB.out.trans ((below_box _ _).mono HB.out.size)⟩
              · rw [if_neg (by decide), if_pos rfl] at HRUN
                by_cases h8 : k = 8
                · rw [if_pos h8] at HRUN
                  subst h8
                  generalize hbt : tx b = bt at *
                  generalize hdt : tx (pathAt (rootN :: L) p) = dt at *
                  generalize tx n = nt at *
                  go_wp2_with fail
                  refine hF.mono ?_
                  rintro e w3 ⟨rfl, rfl⟩
                  go_wp2
                  go_ret2
                  exact ⟨by rw [HRUN.out]; rfl, HB.out.trans ((below_box _ _).mono HB.out.size)⟩
                · rw [if_neg h8] at HRUN
                  have hpos : 0 < tt.size := by
                    have h1 := HCH.out
                    unfold chkE at h1
                    by_cases z1 : isCl pp.data.toList = false ∨ pp.data.toList = [47]
                    · rw [if_pos z1] at h1; cases h1
                    · rw [if_neg z1] at h1
                      by_cases z2 : fitsB 3 dn tt = false
                      · rw [if_pos z2] at h1; cases h1
                      · by_cases z3 : 0 < tt.size
                        · exact z3
                        · exfalso
                          apply z2
                          have z4 : tt.toList = [] := by rw [tl]; exact List.eq_nil_of_length_eq_zero (by rw [← size_list]; omega)
                          unfold fitsB
                          rw [if_neg (by decide), if_neg (by decide), if_pos rfl, z4]
                          simp
                  have hposI : 0 < (tt.size : Int) := by omega
                  have h47 := head_bool tt hpos
                  have hsz2 := size_list tt
                  have hkI : ¬ (8 : Int) < (k : Int) + 1 := by omega
                  have hl2 := names_len tt.data.toList
                  have HMU2 : Hid (∀ p', mu ⟨p', names tt.data.toList ++ r, k + 1⟩ < f) := fun p' => by
                    have := mu_less (by omega) HLS.out hl2 (by omega)
                    unfold mu
                    show (8 - (k + 1)) * 5000 + (names tt.data.toList ++ r).length < f
                    rw [List.length_append]
                    exact this
                  have HNM2 : Hid (∀ x ∈ names tt.data.toList ++ r, x.length ≤ 4096 ∧ x ≠ []) := fun x hx => by
                    rcases List.mem_append.1 hx with hx | hx
                    · exact names_good _ (by omega) x hx
                    · exact HNM.out x hx
                  have HPt := fun W => ref_Parts tt W (by omega)
                  have HNL : Hid ((names tt.data.toList).length ≤ 100000) := by unfold Hid; omega
                  have hrl : r.length ≤ 100000 := by have := HLS.out; omega
                  have HME : Hid (∀ x : Nat, x = (names tt.data.toList ++ r).length → (8 - (k + 1)) * 5000 + x < (8 - k) * 5000 + (r.length + 1)) := fun x hx => by
                    have := mu_less (f := (8 - k) * 5000 + (r.length + 1)) (by omega) (Nat.lt_succ_self _) hl2 (by omega)
                    rw [hx, List.length_append]
                    exact this
                  cases hpx : Lib.hasPrefix tt.data.toList [47] with
                  | true =>
                    rw [hpx] at HRUN h47
                    rw [if_pos rfl] at HRUN
                    have h47' : ((tt[0].toNat : Int) == 47) = true := h47.symm
                    have HSW : Hid (∀ W v', Below w.heap.size w W → SrcS W (fun _ => False) v' (names tt.data.toList ++ r) → RS w W (rootN :: L) R f 0 (k + 1) (names tt.data.toList ++ r) v') := fun W v' hW hv => ⟨hW, HFI.out.pos, HFI.out.root, by omega, HMU2.out _, by omega, by rw [HFI.out.rootP]; exact HRUN.out, hv, HNM2.out⟩
                    have HRL := hide hrl
                    clear hpx h47 hl2 hsz2 hrl
                    generalize hbt : tx b = bt at *
                    generalize hdt : tx (pathAt (rootN :: L) p) = dt at *
                    generalize tx n = nt at *
                    go_wp2_with fail
                    refine hF.mono ?_
                    rintro e w3 ⟨rfl, rfl⟩
                    go_wp2_with fail
                    refine (HPt _).mono ?_
                    rintro e W1 ⟨v1, rfl, ho1, hb1⟩
                    have hB1 : Below wr.heap.size wr W1 := (below_box _ _).trans (hb1.mono (below_box _ _).size)
                    go_wp2_with (at_builtin; refine append_txt_u rfl _ _ rfl _ _ _ (names tt.data.toList) ho1 rfl A _ _ r (fun _ => False) (HRest.out.turn (Turn.of_below hB1)) rfl HNL.out HRL.out (hb1.size) ?_)
                    intro v' w' ho2 hb2
                    rw [← List.map_append] at ho2
                    have hB2 : Below w.heap.size w w' := HB.out.trans ((hB1.trans (hb2.mono (Nat.le_succ _))).mono HB.out.size)
                    have HS3 := hide (HSW.out w' v' hB2 (ho2.src (fun _ _ => id)))
                    obtain ⟨va, vc, hv⟩ := ho2.slice
                    have HV := hide hv
                    have HLL := hide (HME.out ((names tt.data.toList ++ r).map tx).length (by rw [List.length_map]))
                    subst hv
                    clear ho2 hb2 hB2 ho1 hb1 hB1 HPt
                    go_wp2
                    go_roundw
                    case rel => exact ⟨f, 0, k + 1, _, HS3, rfl, by go_num⟩
                    case measure => exact (by simpa [intOf, lenV] using HLL.out)
                  | false =>
                    rw [hpx] at HRUN h47
                    rw [if_neg (by decide)] at HRUN
                    have h47' : ((tt[0].toNat : Int) == 47) = false := h47.symm
                    have HSW : Hid (∀ W v', Below w.heap.size w W → SrcS W (fun _ => False) v' (names tt.data.toList ++ r) → RS w W (rootN :: L) R f p (k + 1) (names tt.data.toList ++ r) v') := fun W v' hW hv => ⟨hW, hp, hk1, by omega, HMU2.out _, by omega, HRUN.out, hv, HNM2.out⟩
                    have HRL := hide hrl
                    clear hpx h47 hl2 hsz2 hrl
                    generalize hbt : tx b = bt at *
                    generalize hdt : tx (pathAt (rootN :: L) p) = dt at *
                    generalize tx n = nt at *
                    go_wp2_with fail
                    refine hF.mono ?_
                    rintro e w3 ⟨rfl, rfl⟩
                    go_wp2_with fail
                    refine (HPt _).mono ?_
                    rintro e W1 ⟨v1, rfl, ho1, hb1⟩
                    have hB1 : Below wr.heap.size wr W1 := (below_box _ _).trans (hb1.mono (below_box _ _).size)
                    go_wp2_with (at_builtin; refine append_txt_u rfl _ _ rfl _ _ _ (names tt.data.toList) ho1 rfl A _ _ r (fun _ => False) (HRest.out.turn (Turn.of_below hB1)) rfl HNL.out HRL.out (hb1.size) ?_)
                    intro v' w' ho2 hb2
                    rw [← List.map_append] at ho2
                    have hB2 : Below w.heap.size w w' := HB.out.trans ((hB1.trans (hb2.mono (Nat.le_succ _))).mono HB.out.size)
                    have HS3 := hide (HSW.out w' v' hB2 (ho2.src (fun _ _ => id)))
                    obtain ⟨va, vc, hv⟩ := ho2.slice
                    have HV := hide hv
                    have HLL := hide (HME.out ((names tt.data.toList ++ r).map tx).length (by rw [List.length_map]))
                    subst hv
                    clear ho2 hb2 hB2 ho1 hb1 hB1 HPt
                    go_wp2
                    go_roundw
                    case rel => exact ⟨f, p, k + 1, _, HS3, by rw [hdt], by go_num⟩
                    case measure => exact (by simpa [intOf, lenV] using HLL.out)
            · rw [decide_eq_false e] at hroot
              have hT3 := hT2 e
              clear hT1 hT2 e
              rcases hkk with rfl | rfl | rfl
              · rw [if_neg (by decide), if_neg (by decide)] at HRUN
                have HSW : Hid (∀ W, Below wr.heap.size wr W → RS w W (rootN :: L) R f (m + 1) k r (.slice (some A) r.length (cap0 - 1))) := fun W hW => ⟨HB.out.trans (hW.mono HB.out.size), a1, HKQ.out, hk8, HMU.out _, by omega, by rw [HA2.out]; exact HRUN.out, HRest.out.turn (Turn.of_below hW), HNM.out⟩
                generalize hbt : tx b = bt at *
                generalize hdt : tx (pathAt (rootN :: L) p) = dt at *
                generalize tx n = nt at *
                go_wp2_with fail
                refine hF.mono ?_
                rintro e w3 ⟨rfl, rfl⟩
                go_wp2
                go_roundw
                case rel => exact ⟨f, m + 1, k, r, HSW.out _ (below_box _ _), by rw [HA2.out, hbt], rfl⟩
                case measure => simp [intOf, lenV]
              · rw [if_pos rfl] at HRUN
                by_cases hr : r = []
                · rw [if_pos hr] at HRUN
                  subst hr
                  generalize hbt : tx b = bt at *
                  generalize hdt : tx (pathAt (rootN :: L) p) = dt at *
                  generalize tx n = nt at *
                  go_wp2_with fail
                  refine hF.mono ?_
                  rintro e w3 ⟨rfl, rfl⟩
                  go_wp2
                  go_ret2
                  exact ⟨by rw [HRUN.out]; rfl, HB.out.trans ((below_box _ _).mono HB.out.size)⟩
                · rw [if_neg hr] at HRUN
                  have hr0 : 0 < r.length := List.length_pos_iff.2 hr
                  have hrI : (0 : Int) < (r.length : Int) := by omega
                  generalize hbt : tx b = bt at *
                  generalize hdt : tx (pathAt (rootN :: L) p) = dt at *
                  generalize tx n = nt at *
                  go_wp2_with fail
                  refine hF.mono ?_
                  rintro e w3 ⟨rfl, rfl⟩
                  go_wp2
                  go_ret2
                  exact ⟨by rw [HRUN.out]; rfl, HB.out.trans ((below_box _ _).mono HB.out.size)⟩
              · rw [if_neg (by decide), if_pos rfl] at HRUN
                by_cases h8 : k = 8
                · rw [if_pos h8] at HRUN
                  subst h8
                  generalize hbt : tx b = bt at *
                  generalize hdt : tx (pathAt (rootN :: L) p) = dt at *
                  generalize tx n = nt at *
                  go_wp2_with fail
                  refine hF.mono ?_
                  rintro e w3 ⟨rfl, rfl⟩
                  go_wp2
                  go_ret2
                  exact ⟨by rw [HRUN.out]; rfl, HB.out.trans ((below_box _ _).mono HB.out.size)⟩
                · rw [if_neg h8] at HRUN
                  have hpos : 0 < tt.size := by
                    have h1 := HCH.out
                    unfold chkE at h1
                    by_cases z1 : isCl pp.data.toList = false ∨ pp.data.toList = [47]
                    · rw [if_pos z1] at h1; cases h1
                    · rw [if_neg z1] at h1
                      by_cases z2 : fitsB 3 dn tt = false
                      · rw [if_pos z2] at h1; cases h1
                      · by_cases z3 : 0 < tt.size
                        · exact z3
                        · exfalso
                          apply z2
                          have z4 : tt.toList = [] := by rw [tl]; exact List.eq_nil_of_length_eq_zero (by rw [← size_list]; omega)
                          unfold fitsB
                          rw [if_neg (by decide), if_neg (by decide), if_pos rfl, z4]
                          simp
                  have hposI : 0 < (tt.size : Int) := by omega
                  have h47 := head_bool tt hpos
                  have hsz2 := size_list tt
                  have hkI : ¬ (8 : Int) < (k : Int) + 1 := by omega
                  have hl2 := names_len tt.data.toList
                  have HMU2 : Hid (∀ p', mu ⟨p', names tt.data.toList ++ r, k + 1⟩ < f) := fun p' => by
                    have := mu_less (by omega) HLS.out hl2 (by omega)
                    unfold mu
                    show (8 - (k + 1)) * 5000 + (names tt.data.toList ++ r).length < f
                    rw [List.length_append]
                    exact this
                  have HNM2 : Hid (∀ x ∈ names tt.data.toList ++ r, x.length ≤ 4096 ∧ x ≠ []) := fun x hx => by
                    rcases List.mem_append.1 hx with hx | hx
                    · exact names_good _ (by omega) x hx
                    · exact HNM.out x hx
                  have HPt := fun W => ref_Parts tt W (by omega)
                  have HNL : Hid ((names tt.data.toList).length ≤ 100000) := by unfold Hid; omega
                  have hrl : r.length ≤ 100000 := by have := HLS.out; omega
                  have HME : Hid (∀ x : Nat, x = (names tt.data.toList ++ r).length → (8 - (k + 1)) * 5000 + x < (8 - k) * 5000 + (r.length + 1)) := fun x hx => by
                    have := mu_less (f := (8 - k) * 5000 + (r.length + 1)) (by omega) (Nat.lt_succ_self _) hl2 (by omega)
                    rw [hx, List.length_append]
                    exact this
                  cases hpx : Lib.hasPrefix tt.data.toList [47] with
                  | true =>
                    rw [hpx] at HRUN h47
                    rw [if_pos rfl] at HRUN
                    have h47' : ((tt[0].toNat : Int) == 47) = true := h47.symm
                    have HSW : Hid (∀ W v', Below w.heap.size w W → SrcS W (fun _ => False) v' (names tt.data.toList ++ r) → RS w W (rootN :: L) R f 0 (k + 1) (names tt.data.toList ++ r) v') := fun W v' hW hv => ⟨hW, HFI.out.pos, HFI.out.root, by omega, HMU2.out _, by omega, by rw [HFI.out.rootP]; exact HRUN.out, hv, HNM2.out⟩
                    have HRL := hide hrl
                    clear hpx h47 hl2 hsz2 hrl
                    generalize hbt : tx b = bt at *
                    generalize hdt : tx (pathAt (rootN :: L) p) = dt at *
                    generalize tx n = nt at *
                    go_wp2_with fail
                    refine hF.mono ?_
                    rintro e w3 ⟨rfl, rfl⟩
                    go_wp2_with fail
                    refine (HPt _).mono ?_
                    rintro e W1 ⟨v1, rfl, ho1, hb1⟩
                    have hB1 : Below wr.heap.size wr W1 := (below_box _ _).trans (hb1.mono (below_box _ _).size)
                    go_wp2_with (at_builtin; refine append_txt_u rfl _ _ rfl _ _ _ (names tt.data.toList) ho1 rfl A _ _ r (fun _ => False) (HRest.out.turn (Turn.of_below hB1)) rfl HNL.out HRL.out (hb1.size) ?_)
                    intro v' w' ho2 hb2
                    rw [← List.map_append] at ho2
                    have hB2 : Below w.heap.size w w' := HB.out.trans ((hB1.trans (hb2.mono (Nat.le_succ _))).mono HB.out.size)
                    have HS3 := hide (HSW.out w' v' hB2 (ho2.src (fun _ _ => id)))
                    obtain ⟨va, vc, hv⟩ := ho2.slice
                    have HV := hide hv
                    have HLL := hide (HME.out ((names tt.data.toList ++ r).map tx).length (by rw [List.length_map]))
                    subst hv
                    clear ho2 hb2 hB2 ho1 hb1 hB1 HPt
                    go_wp2
                    go_roundw
                    case rel => exact ⟨f, 0, k + 1, _, HS3, rfl, by go_num⟩
                    case measure => exact (by simpa [intOf, lenV] using HLL.out)
                  | false =>
                    rw [hpx] at HRUN h47
                    rw [if_neg (by decide)] at HRUN
                    have h47' : ((tt[0].toNat : Int) == 47) = false := h47.symm
                    have HSW : Hid (∀ W v', Below w.heap.size w W → SrcS W (fun _ => False) v' (names tt.data.toList ++ r) → RS w W (rootN :: L) R f p (k + 1) (names tt.data.toList ++ r) v') := fun W v' hW hv => ⟨hW, hp, hk1, by omega, HMU2.out _, by omega, HRUN.out, hv, HNM2.out⟩
                    have HRL := hide hrl
                    clear hpx h47 hl2 hsz2 hrl
                    generalize hbt : tx b = bt at *
                    generalize hdt : tx (pathAt (rootN :: L) p) = dt at *
                    generalize tx n = nt at *
                    go_wp2_with fail
                    refine hF.mono ?_
                    rintro e w3 ⟨rfl, rfl⟩
                    go_wp2_with fail
                    refine (HPt _).mono ?_
                    rintro e W1 ⟨v1, rfl, ho1, hb1⟩
                    have hB1 : Below wr.heap.size wr W1 := (below_box _ _).trans (hb1.mono (below_box _ _).size)
                    go_wp2_with (at_builtin; refine append_txt_u rfl _ _ rfl _ _ _ (names tt.data.toList) ho1 rfl A _ _ r (fun _ => False) (HRest.out.turn (Turn.of_below hB1)) rfl HNL.out HRL.out (hb1.size) ?_)
                    intro v' w' ho2 hb2
                    rw [← List.map_append] at ho2
                    have hB2 : Below w.heap.size w w' := HB.out.trans ((hB1.trans (hb2.mono (Nat.le_succ _))).mono HB.out.size)
                    have HS3 := hide (HSW.out w' v' hB2 (ho2.src (fun _ _ => id)))
                    obtain ⟨va, vc, hv⟩ := ho2.slice
                    have HV := hide hv
                    have HLL := hide (HME.out ((names tt.data.toList ++ r).map tx).length (by rw [List.length_map]))
                    subst hv
                    clear ho2 hb2 hB2 ho1 hb1 hB1 HPt
                    go_wp2
                    go_roundw
                    case rel => exact ⟨f, p, k + 1, _, HS3, by rw [hdt], by go_num⟩
                    case measure => exact (by simpa [intOf, lenV] using HLL.out)
  · have HR : Hid (findN (rootN :: L) q.data.toList = (clE q.data.toList, 0)) := by
      unfold Hid findN
      rw [if_pos hc]
    generalize findN (rootN :: L) q.data.toList = R at *
    have hcb : (clE q.data.toList == 0) = false := by rw [beq_eq_false_iff_ne]; exact hc
    generalize clE q.data.toList = E at *
    generalize tx (clT q.data.toList) = T at *
    clear hc hne hsl
    go_enter Tryd.func9, Tryd.ntmps9
    go_wp2_with fail
    refine hC.mono ?_
    rintro e w1 ⟨rfl, hb1⟩
    have HB1 := hide hb1
    clear hC hb1
    go_wp2
    go_ret2
    exact ⟨by rw [HR.out]; rfl, HB1.out⟩
end Go.Proofs.YthkpcafbfgfjpaaDoor
