
/-
  New's walk.
-/
import Derived.Test.YthkpcafbfgfjpaaDoorFsF
set_option linter.unusedVariables false
namespace Go.Proofs.YthkpcafbfgfjpaaDoor
open Go.RowKit Go.PlainAid
theorem IsNd.stay {w w' : World} {y p : Nat} {n : Nd} (h : IsNd w y p n) (hb : Below w.heap.size w w') : IsNd w' y p n := by
  have hy : y < w.heap.size := World.block_lt_of_cell? _ _ h.c0
  have e : ∀ j, w'.cell? ⟨y, j, none⟩ = w.cell? ⟨y, j, none⟩ := fun j => World.cell?_of_block (a := ⟨y, j, none⟩) (hb.block y hy)
  exact ⟨by rw [e]; exact h.c0, by rw [e]; exact h.c1, by rw [e]; exact h.c2, by rw [e]; exact h.c3, h.k0, h.k1, (h.src.turn (Turn.of_below hb))⟩
theorem map_start (w : World) : MapAt ((w.alloc (.cells rootN.cells.toArray 40)).alloc (.map #[] 0)) (w.heap.size + 1) [] := by
  have h := World.ownsMap_made (H := Unit) (w.alloc (.cells rootN.cells.toArray 40)) Tryd.prog 9 (plainElem Tryd.prog 3)
  have e : (w.alloc (.cells rootN.cells.toArray 40)).heap.size = w.heap.size + 1 := by simp
  rw [e] at h
  exact ⟨_, h, fun s => ⟨rfl, rfl⟩⟩
theorem take_more {L : List Nd} {i : Nat} (h : i < L.length) : L.take (i + 1) = L.take i ++ [L[i]] := by rw [List.take_add_one, List.getElem?_eq_getElem h]; rfl
theorem upOf_len (l : List UInt8) : (upOf l).length ≤ l.length + 1 := by
  unfold upOf
  split
  · simp
  · rw [List.length_take]; omega
set_option maxHeartbeats 4000000 in
set_option maxRecDepth 20000 in
theorem vfs_New (w : World) (hm : Mx w) (a : Option Addr) (cap : Nat) (L : List Nd) (hcap : L.length ≤ cap) (hcm : cap ≤ maxLen) (h : NdsAt w a L) (hsm : ∀ n ∈ L, SmallN n) :
    Calls Tryd.prog 5 #[.slice a L.length cap] w fun e w' => NewE w w' L e ∧ Below w.heap.size w w' := by
  have hc2 : cap ≤ 9223372036854775807 := by unfold maxLen at hcm; omega
  have HL : Hid (∀ i (hi : i < L.length), ∃ y o, a = some ⟨y, o, none⟩ ∧ IsNd w y (o + i * 4) L[i]) := fun i hi => by
    rcases h.at_ with e | ⟨y, o, e, hx⟩
    · rw [e] at hi; simp at hi
    · exact ⟨y, o, e, hx i hi⟩
  have HSM := hide hsm
  clear h hcm hsm
  by_cases hbig : 256 < L.length
  · have hbI : (256 : Int) < (L.length : Int) := by omega
    go_enter Tryd.func5, Tryd.ntmps5
    go_wp2
    go_ret2
    exact ⟨.inl ⟨68, rfl, by unfold newErr; rw [if_pos hbig], rfl⟩, Below.refl _ _⟩
  have hbI : ¬ (256 : Int) < (L.length : Int) := by omega
  have hmm := @run_makeMap Tryd.prog
  obtain ⟨w3, hup, hM3, hg3⟩ := (map_start w).put ⟨#[47]⟩ (by unfold maxLen; show (1 : Nat) ≤ _; omega) rfl (by simp)
  have J0 := hide (start_fs hM3 hg3 hm)
  have HS3 : Hid (w3.heap.size = w3.heap.size) := rfl
  simp only [List.length_nil] at hup
  rw [show (((0 : Nat)) : Int) = 0 from rfl] at hup
  unfold rootN Nd.cells at hup
  have HM := hide hm
  clear hM3 hg3 hm
  go_enter Tryd.func5, Tryd.ntmps5
  go_wp2
  generalize w3.alloc (.cells #[.slice (some ⟨w.heap.size, 0, none⟩) 1 1, .map (some (w.heap.size + 1))] 51) = w4 at *
  generalize w3.heap.size = F at *
  go_loopw [21] (fun vi wr => ∃ i : Nat, i ≤ L.length ∧ vi = .int .i64 i ∧ Hid (K1 w wr F (w.heap.size + 1) i L)) (fun vi _ => L.length - (intOf vi).toNat)
  case atStart => exact ⟨0, by omega, rfl, hide ⟨_, _, ⟨J0.out.below, J0.out.mx, J0.out.fs, by rw [List.take_zero]; exact Grow.nil, rfl⟩⟩⟩
  case round =>
    obtain ⟨i, hi, rfl, HK⟩ := hrel
    obtain ⟨v, l, J⟩ := HK
    by_cases hlt : i < L.length
    · have hltI : (i : Int) < (L.length : Int) := by omega
      obtain ⟨y, o, rfl, I0⟩ := HL.out i hlt
      have I := I0.stay J.below
      have hsrc : Src wr (fun k => w.heap.size ≤ k) L[i].vd L[i].data := I0.src.old.turn (Turn.of_below J.below)
      have hs4 := HSM.out L[i] (List.getElem_mem hlt)
      obtain ⟨c0, c1, c2, c3, _, _, _⟩ := I
      have HJ := hide J
      have HTK := take_more hlt
      have HT : Hid (L.take (i + 1) = L.take i ++ [L[i]]) := HTK
      have HER : Hid (addAll [[47]] L = if addP (pathsOf (rootN :: l)) L[i] ≠ 0 then addP (pathsOf (rootN :: l)) L[i] else addAll (pathsOf (rootN :: l) ++ [L[i].path.data.toList]) (L.drop (i + 1))) := by
        have := J.err
        rw [List.drop_eq_getElem_cons hlt] at this
        exact this
      have hll : l.length ≤ 256 := by have := J.len; omega
      obtain ⟨n, hn⟩ : ∃ n, L[i] = n := ⟨_, rfl⟩
      rw [hn] at c0 c1 c2 c3 hsrc hs4 HT HER
      have HSR := hide hsrc
      obtain ⟨da, dc, hvd, q1, q2, q3⟩ := hsrc
      have HVD := hide hvd
      rw [hvd] at c2
      have hbx := below_box wr (.cells n.cells.toArray 40)
      have hA := vfs_add (wr.alloc (.cells n.cells.toArray 40)) (J.mx.below hbx) w.heap.size F (w.heap.size + 1) v (rootN :: l) (J.fs.stay hbx) (Nat.le_trans J.below.size hbx.size) (by rw [List.length_cons]; omega) n (HSR.out.turn (Turn.of_below hbx)) hs4.1 hs4.2
      have HBX : Hid (Below w.heap.size w (wr.alloc (.cells n.cells.toArray 40))) := J.below.trans (hbx.mono J.below.size)
      unfold Nd.cells at hA HBX
      rw [hvd] at hA HBX
      clear hbx J I0 hn q1 q2 q3 hvd HTK
      go_wp2_with fail
      refine hA.mono ?_
      rintro e W2 ⟨rfl, hb2, hok⟩
      have HB2 : Hid (Below w.heap.size w W2) := HBX.out.trans hb2
      have HOK := hide hok
      clear hA hb2 hok HBX
      by_cases hz : addE (rootN :: l) n = 0
      · rw [hz]
        obtain ⟨v', vd', f'⟩ := HOK.out hz
        have HN : Hid (K1 w W2 F (w.heap.size + 1) (i + 1) L) := ⟨v', l ++ [({ n with vd := vd' } : Nd)], ⟨HB2.out, HM.out.below HB2.out, f', by rw [HT.out]; exact HJ.out.grow.snoc n vd' hz, by have h1 := HER.out; rw [addE_eq] at hz; rw [if_neg (by simpa using hz)] at h1; rw [h1]; unfold pathsOf; simp⟩⟩
        clear f' hz
        go_wp2
        go_roundw
        case rel => exact ⟨i + 1, by omega, by go_num, HN⟩
        case measure => simp [intOf]; omega
      · have hzb : (addE (rootN :: l) n != 0) = true := by simpa using hz
        have HZB := hide hzb
        have HNE : Hid (newErr L = addE (rootN :: l) n) := by
          have h1 := HER.out
          rw [← addE_eq, if_pos hz] at h1
          unfold Hid newErr
          rw [if_neg hbig, h1, if_pos hz]
        generalize addE (rootN :: l) n = ae at *
        go_wp2
        go_ret2
        exact ⟨.inl ⟨ae, HZB.out, HNE.out, rfl⟩, HB2.out⟩
    · have hltI : ¬ (i : Int) < (L.length : Int) := by omega
      have ei : i = L.length := by omega
      subst ei
      have HJ : Hid (J2 w wr F (w.heap.size + 1) 0 L v l) := ⟨J, fun j _ hj => by omega⟩
      clear J
      go_wp2
      go_loopw [34] (fun vi wr => ∃ i : Nat, i ≤ L.length ∧ vi = .int .i64 i ∧ Hid (J2 w wr F (w.heap.size + 1) i L v l)) (fun vi _ => L.length - (intOf vi).toNat)
      case atStart => exact ⟨0, by omega, rfl, HJ⟩
      case round =>
        obtain ⟨i, hi, rfl, H2⟩ := hrel
        by_cases hlt : i < L.length
        · have hltI : (i : Int) < (L.length : Int) := by omega
          obtain ⟨y, o, rfl, I0⟩ := HL.out i hlt
          have J := H2.out.j1
          obtain ⟨c0, c1, c2, c3, _, _, hsrc⟩ := I0.stay J.below
          have hs4 := HSM.out L[i] (List.getElem_mem hlt)
          obtain ⟨da, dc, hvd, q1, q2, q3⟩ := hsrc
          rw [hvd] at c2
          have hbx := below_box wr (.cells L[i].cells.toArray 40)
          have hU := path_Up L[i].path (wr.alloc (.cells L[i].cells.toArray 40)) (by have := hs4.1; omega)
          have hupl : (tx (upOf L[i].path.data.toList)).size ≤ maxLen := by
            have := hs4.1
            rw [tx_size]
            have := upOf_len L[i].path.data.toList
            rw [← size_list] at this
            unfold maxLen
            omega
          have hD := vfs_isDir (wr.alloc (.cells L[i].cells.toArray 40)) w.heap.size F (w.heap.size + 1) v (rootN :: l) (J.fs.stay hbx) (tx (upOf L[i].path.data.toList)) hupl
          rw [data_tx] at hD
          have HJX : Hid (J1 w (wr.alloc (.cells L[i].cells.toArray 40)) F (w.heap.size + 1) L.length L v l) := ⟨J.below.trans (hbx.mono J.below.size), J.mx.below hbx, J.fs.stay hbx, J.grow, J.err⟩
          have HDS : Hid (dirB (rootN :: l) (upOf L[i].path.data.toList) = true → ∀ j (h : j < L.length), j < i + 1 → dirB (rootN :: l) (upOf L[j].path.data.toList) = true) := fun hd j hj hj2 => by
            by_cases e : j = i
            · subst e; exact hd
            · exact H2.out.dirs j hj (by omega)
          have HNE : Hid (dirB (rootN :: l) (upOf L[i].path.data.toList) = false → newErr L = 62) := fun hd => by
            have h1 := J.err
            rw [List.drop_length] at h1
            have h0 : addAll [[47]] L = 0 := h1
            have hg := J.grow.same
            rw [List.take_length] at hg
            unfold newErr
            rw [if_neg hbig, h0, if_neg (by simp)]
            rw [if_neg]
            intro ha
            have := List.all_eq_true.1 ha L[i] (List.getElem_mem hlt)
            rw [strip_dir hg] at hd
            rw [hd] at this
            cases this
          unfold Nd.cells at hU hD HJX
          rw [hvd] at hU hD HJX
          have hc0 : (wr.alloc (.cells #[.string L[i].path, .int .i64 L[i].kind, .slice da L[i].data.length dc, .string L[i].to] 40)).cell? ⟨wr.heap.size, 0, none⟩ = some (.string L[i].path) := by simp
          clear hbx J I0 q1 q2 q3 hvd hs4 hupl H2
          generalize L[i].data.length = dn at *
          generalize dirB (rootN :: l) (upOf L[i].path.data.toList) = db at *
          generalize tx (upOf L[i].path.data.toList) = up at *
          generalize L[i].path = pp at *
          generalize L[i].kind = kk at *
          generalize L[i].to = tt at *
          go_wp2_with fail
          refine hU.mono ?_
          rintro e W2 ⟨rfl, hw⟩
          rw [hw]
          clear hU hw
          go_wp2_with fail
          refine hD.mono ?_
          rintro e W2 ⟨rfl, hw⟩
          rw [← hw]
          clear hD hw
          cases db with
          | true =>
            have HN := hide (J2.mk HJX.out (HDS.out rfl))
            clear HJX HDS
            go_wp2
            go_roundw
            case rel => exact ⟨i + 1, by omega, by go_num, HN⟩
            case measure => simp [intOf]; omega
          | false =>
            go_wp2
            go_ret2
            exact ⟨.inl ⟨62, rfl, by first | exact HNE.out rfl | exact HNE.out trivial, rfl⟩, HJX.out.below⟩
        · have hltI : ¬ (i : Int) < (L.length : Int) := by omega
          have ei : i = L.length := by omega
          subst ei
          go_wp2
          go_ret2
          exact ⟨.inr ⟨F, rfl, w.heap.size + 1, v, l, H2.out.j1.fs, H2.out.sound⟩, H2.out.j1.below⟩
end Go.Proofs.YthkpcafbfgfjpaaDoor
