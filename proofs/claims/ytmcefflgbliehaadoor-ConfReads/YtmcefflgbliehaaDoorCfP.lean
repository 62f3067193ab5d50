
/-
  Layer 18 (conf): the laws' own rows of properties (props), and the reference's Get.
-/
import Derived.Test.YtmcefflgbliehaaDoorCfN
set_option linter.unusedVariables false
namespace Go.Proofs.YtmcefflgbliehaaDoor
open Go.RowKit Go.PlainAid Go.Sort
theorem infoQ : (Tryd.prog.info? 73).map (fun i => (i.zero, i.size, i.bytes)) = some (some (.agg noPr.cells.toArray), 3, 40) := by kernel_rfl
theorem step_append_q {ops : Array Oper} {o : Oper} {a : Act} {W : World} {K : Act → World → Prop} {Q : Exit → Act → World → Prop} {E : Prop} (hgd : o.guard = none) (s x : Operand)
    (ho : o.op = .call { callee := .builtin .append, args := #[s, x], argTypes := #[29, 29] })
    (B : Nat) (v : Value) (l : List Pr) (n : Pr) (hown : OwnP 73 W B v l) (hs : a.eval s = v) (q c : Nat)
    (hx : a.eval x = .slice (some ⟨q, 0, none⟩) 1 c) (hq : ∀ j u, n.cells[j]? = some u → W.cell? ⟨q, j, none⟩ = some u) (hlen : l.length ≤ 100000) (hB : B ≤ W.heap.size)
    (h : ∀ v' w', OwnP 73 w' B v' (l ++ [n]) → W.grownBy w' v.ownBlock → (v'.ownBlock = v.ownBlock ∨ v'.ownBlock = some W.heap.size) → K (a.put o.dst v') w') :
    if Region.wanted o (yielded ops a.tmps) = true then Oper.wp Tryd.prog o a W K Q else E := by
  have hw : Region.wanted o (yielded ops a.tmps) = true := by simp [Region.wanted, hgd]
  rw [if_pos hw]
  obtain ⟨i, hi, hz0, hz1, hz2⟩ := info_parts infoQ
  obtain ⟨v', w', hr, h2, h3, h4, h5⟩ := run_append_own_at (P := Tryd.prog) W B 29 o.type 73 i _ 3 40 Tryd.underlying29 hi hz0 hz1 hz2 rfl (by decide) v l.length (flatP l) hown ⟨q, 0, none⟩ 1 c n.cells rfl
    (fun j u hj => by rw [add_at, Nat.zero_add]; exact hq j u hj) n.one (by unfold maxLen; omega) (by omega) hB
  unfold Oper.wp execOp
  simp only [ho, resolve, invoke, builtin, Sem.run_bind, Sem.run_pure, Result.andThen_ok, List.map_toArray, List.map_cons, List.map_nil, hs, hx, hr]
  refine h v' w' ?_ h3 h5
  unfold OwnP
  rw [List.length_append, flatP_app]
  simpa [flatP] using h2
theorem ArgP.cells3 {w : World} {v : Value} {l : List Pr} (h : ArgP w v l) (j : Nat) (hj : j < l.length) : ∃ g o cap, v = .slice (some ⟨g, o, none⟩) l.length cap ∧ cap ≤ 9223372036854775807 ∧ l.length ≤ cap ∧ g < w.heap.size ∧
    ∀ W, Below w.heap.size w W → W.cell? ⟨g, o + j * 3, none⟩ = some (.string (tx l[j].name)) ∧ W.cell? ⟨g, o + j * 3 + 1, none⟩ = some (.string (tx l[j].value)) ∧ W.cell? ⟨g, o + j * 3 + 2, none⟩ = some (.int .i64 l[j].line) := by
  obtain ⟨a, cap, rfl⟩ := h.form
  obtain ⟨g, o, rfl, h1, h2, h3, d0, d1, d2⟩ := h.at j hj
  exact ⟨g, o, cap, rfl, h2, h1, h3, fun W hW => ⟨(hW.cell (p := ⟨g, _, none⟩) h3).trans d0, (hW.cell (p := ⟨g, _, none⟩) h3).trans d1, (hW.cell (p := ⟨g, _, none⟩) h3).trans d2⟩⟩
set_option maxHeartbeats 4000000 in
set_option maxRecDepth 20000 in
theorem law_props (w : World) (v : Value) (l : List Pr) (h : ArgP w v l) :
    Calls Tryd.prog 11 #[v] w fun e w' => (∃ v', e = .returned v' ∧ OwnP 73 w' w.heap.size v' l) ∧ Below w.heap.size w w' := by
  have H := hide h
  have hlen := h.1
  obtain ⟨a, cap, rfl⟩ := h.form
  clear h
  go_enter Tryd.func11, Tryd.ntmps11
  go_wp2
  go_loopw [3, 4] (fun v3 vi wr => ∃ i : Nat, i ≤ l.length ∧ vi = .int .i64 i ∧ Hid (Below w.heap.size w wr) ∧ Hid (OwnP 73 wr w.heap.size v3 (l.take i))) (fun _ vi _ => l.length - (intOf vi).toNat)
  case atStart => exact ⟨0, by omega, rfl, Below.refl _ _, OwnP.nil _ _ _⟩
  case round =>
    obtain ⟨i, hi, rfl, HB, HO⟩ := hrel
    obtain ⟨a3, c3, hv3⟩ := row_form HO.out
    rw [List.length_take, Nat.min_eq_left hi] at hv3
    subst hv3
    by_cases hlt : i < l.length
    · have hltI : (i : Int) < (l.length : Int) := by omega
      obtain ⟨g, o, cap', he, hc1, hc2, hg, hcell⟩ := (H.out.below HB.out).cells3 i hlt
      injection he with he1 he2 he3
      subst he1 he3
      have htk : l.take (i + 1) = l.take i ++ [l[i]] := by rw [List.take_add_one, List.getElem?_eq_getElem hlt]; rfl
      have HTK := hide htk
      generalize l[i] = p at *
      have d0 := (hcell wr.drew (Below.refl _ wr).drew).1
      have d1 := (hcell wr.drew (Below.refl _ wr).drew).2.1
      have d2 := (hcell wr.drew (Below.refl _ wr).drew).2.2
      have HDA : Hid (∀ o, Below wr.heap.size wr (wr.drew.alloc o)) := fun o => (Below.refl _ wr).drew.alloc (Nat.le_refl _) o
      have HOA : Hid (∀ o, OwnP 73 (wr.drew.alloc o) w.heap.size (.slice a3 i c3) (l.take i)) := fun o => row_keep HO.out (fun k hk => (HDA.out o).block k (World.ownsRow.lt HO.out k hk).2)
      have HBL : Hid (∀ o, w.heap.size ≤ (wr.drew.alloc o).heap.size) := fun o => Nat.le_trans HB.out.size (HDA.out o).size
      have HNX := hide (new_p wr.drew p 73)
      have HLL : Hid ((l.take i).length ≤ 100000) := by rw [Hid, List.length_take]; omega
      have HOB : Hid (∀ k, (Value.slice a3 i c3).ownBlock = some k → w.heap.size ≤ k) := fun k hk => (World.ownsRow.lt HO.out k hk).1
      unfold Pr.cells tx at HNX
      unfold tx at d0 d1
      clear hcell htk
      go_wp2_with fail
      go_region_law (refine step_append_q rfl (.tmp 11) (.tmp 28) rfl w.heap.size _ (l.take i) p (HOA.out _) rfl _ 1 rfl HNX.out HLL.out (HBL.out _) ?_; intro v6 W6 r6 g6 n6; have HR6 := hide r6; have HB6 := hide ((HB.out.trans ((HDA.out _).mono HB.out.size)).grown g6 (HBL.out _) HOB.out); clear r6 g6 n6)
      all_goals
        go_wp2
        go_roundw
        case rel => exact ⟨i + 1, by omega, by go_num, HB6.out, by rw [Hid, HTK.out]; exact HR6.out⟩
        case measure => simp [intOf]; omega
    · have hltI : ¬ (i : Int) < (l.length : Int) := by omega
      have hie : i = l.length := by omega
      subst hie
      rw [List.take_length] at HO
      go_wp2
      go_ret
      exact ⟨⟨_, rfl, HO.out⟩, HB.out⟩
set_option maxHeartbeats 4000000 in
set_option maxRecDepth 20000 in
theorem ref18_Get (w : World) (n0 : ByteArray) (v : Value) (l : List Pr) (h : ArgP w v l) (nm : List UInt8) :
    Calls Tryd.prog 16 #[.agg #[.string n0, v], .string (tx nm)] w fun x w' => x = .returned (.tuple #[.string (tx (getV l nm)), .bool (getB l nm)]) ∧ Below w.heap.size w w' := by
  have H := hide h
  have hlen := h.1
  obtain ⟨a, cap, rfl⟩ := h.form
  obtain ⟨V, hV⟩ : ∃ V, getV l nm = V := ⟨_, rfl⟩
  obtain ⟨G, hG⟩ : ∃ G, getB l nm = G := ⟨_, rfl⟩
  rw [hV, hG]
  have HV : Hid (((l.find? (isP nm)).map Pr.value).getD [] = V) := hV
  have HG : Hid ((l.find? (isP nm)).isSome = G) := hG
  have hb0 := below_box w (.cells #[.string n0, .slice a l.length cap] 40)
  have HB0 := hide hb0
  have HX0 := hide (block_new w (.cells #[.string n0, .slice a l.length cap] 40))
  clear h hV hG hb0
  go_enter Tryd.func16, Tryd.ntmps16
  go_wp2
  generalize w.alloc (.cells #[.string n0, .slice a l.length cap] 40) = W0 at *
  go_loopw [6] (fun vi wr => ∃ i : Nat, i ≤ l.length ∧ vi = .int .i64 i ∧ wr = W0 ∧ Hid (l.find? (isP nm) = (l.drop i).find? (isP nm))) (fun vi _ => l.length - (intOf vi).toNat)
  case atStart => exact ⟨0, by omega, rfl, rfl, rfl⟩
  case round =>
    obtain ⟨i, hi, rfl, rfl, HF⟩ := hrel
    have x1 := cells_of_block HX0.out 1 (.slice a l.length cap) rfl
    by_cases hlt : i < l.length
    · have hltI : (i : Int) < (l.length : Int) := by omega
      obtain ⟨g, o, rfl, hc1, hc2, hg, d0, d1, d2⟩ := (H.out.below HB0.out).at i hlt
      have hF := HF.out
      rw [List.drop_eq_getElem_cons hlt] at hF
      have hE : isP nm l[i] = ((tx l[i].name).toList == (tx nm).toList) := (tx_eqC _ _).symm
      cases hp : isP nm l[i] with
      | true =>
        rw [List.find?_cons_of_pos hp] at hF
        have hv := HV.out
        have hg2 := HG.out
        rw [hF] at hv hg2
        simp only [Option.map_some, Option.getD_some, Option.isSome_some] at hv hg2
        have HV2 := hide hv
        have HG2 := hide hg2
        rw [hp] at hE
        have hq : l[i].name = nm := by unfold isP at hp; simpa using hp
        generalize l[i] = p at *
        subst hq
        unfold tx at d0 d1 ⊢
        clear hF hp hv hg2 HF HV HG hE
        go_wp2
        go_ret2
        exact ⟨by rw [← HV2.out, ← HG2.out]; rfl, HB0.out⟩
      | false =>
        rw [List.find?_cons_of_neg (by rw [hp]; simp)] at hF
        have HF2 := hide hF
        have hq : ¬ l[i].name = nm := by unfold isP at hp; simpa using hp
        have hq2 : (l[i].name == nm) = false := by simpa using hq
        generalize l[i] = p at *
        unfold tx at d0 d1 ⊢
        clear hF hp HF hE
        go_wp2
        go_roundw
        case rel => exact ⟨i + 1, by omega, by go_num, trivial, HF2⟩
        case measure => simp [intOf]; omega
    · have hltI : ¬ (i : Int) < (l.length : Int) := by omega
      have hie : i = l.length := by omega
      subst hie
      have hF := HF.out
      rw [List.drop_length] at hF
      have hv := HV.out
      have hg2 := HG.out
      rw [hF] at hv hg2
      simp only [List.find?_nil, Option.map_none, Option.getD_none, Option.isSome_none] at hv hg2
      have HV2 := hide hv
      have HG2 := hide hg2
      clear hF hv hg2 HF HV HG
      go_wp2
      go_ret2
      exact ⟨by rw [← HV2.out, ← HG2.out]; rfl, HB0.out⟩
end Go.Proofs.YtmcefflgbliehaaDoor
