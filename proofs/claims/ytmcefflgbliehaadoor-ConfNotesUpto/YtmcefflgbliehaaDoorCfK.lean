
/-
  Layer 18 (conf): a copy of properties; part; Choose.
-/
import Derived.Test.YtmcefflgbliehaaDoorCfJ
import Derived.Shelf.Abstract
set_option linter.unusedVariables false
namespace Go.Proofs.YtmcefflgbliehaaDoor
open Go.RowKit Go.PlainAid Go.Sort
theorem flatP_one (l : List Pr) : ∀ u ∈ flatP l, u.oneCell' = true := by
  intro u hu
  obtain ⟨p, hp, hu⟩ := List.mem_flatMap.1 hu
  exact p.one u hu
theorem ArgP.flat {w : World} {g o cap : Nat} {l : List Pr} (h : ∀ j (hj : j < l.length) k, k < 3 → w.cell? ⟨g, o + j * 3 + k, none⟩ = l[j].cells[k]?) : ∀ j u, (flatP l)[j]? = some u → w.cell? ⟨g, o + j, none⟩ = some u := by
  intro j u hj
  have hlt : j < l.length * 3 := by rw [← flatP_len]; exact (List.getElem?_eq_some_iff.1 hj).1
  have hq : j / 3 < l.length := by omega
  have e : j = j / 3 * 3 + j % 3 := by omega
  have h1 := h (j / 3) hq (j % 3) (by omega)
  rw [e, flatP_get l (j / 3) hq (j % 3) (by omega)] at hj
  rw [show o + j = o + j / 3 * 3 + j % 3 by omega, h1, hj]
set_option maxHeartbeats 1000000 in
theorem lib_CloneP (w : World) (v : Value) (l : List Pr) (h : ArgP w v l) :
    Calls Tryd.prog 53 #[v] w fun e w' => (∃ v', e = .returned v' ∧ OwnP 60 w' w.heap.size v' l) ∧ Below w.heap.size w w' := by
  have qn : ∀ (w : World) (a : Option Addr) (n c n' c' : Nat), (binOp .eql 22 (.slice a n c) (.slice none n' c')).run Tryd.prog w = .ok (.bool a.isNone) w := fun w a n c n' c' => Lib.run_eql_slice_nil w _ _ a n c n' c' Tryd.underlying22
  obtain ⟨i, hi, hz0, hz1, hz2⟩ := info_parts infoP
  have hown : (w.alloc (.cells #[] 60)).ownsRow w.heap.size 60 3 (.slice (some ⟨w.heap.size, 0, none⟩) 0 0) 0 [] :=
    World.ownsRow_made w #[] 0 (Nat.le_refl _) (by simp) (by simp)
  have hlen := h.1
  rcases h.2 with ⟨rfl, a, cap, rfl⟩ | ⟨g, o, cap, rfl, h1, h2, h3, h4⟩
  · cases a with
    | none =>
      clear hown hi hz0 hz1 hz2 h hlen
      go_enter Tryd.func53, Tryd.ntmps53
      go_wp2
      go_ret
      exact ⟨⟨_, rfl, OwnP.nil _ _ _⟩, Below.refl _ _⟩
    | some a =>
      clear h hlen
      go_enter Tryd.func53, Tryd.ntmps53
      go_wp2_with (at_builtin; refine wpList_append_own (P := Tryd.prog) _ rfl _ _ 22 rfl w.heap.size 60 i _ 3 40 Tryd.underlying22 hi hz0 hz1 hz2 rfl (by decide) _ 0 [] rfl hown a 0 cap [] rfl rfl ?c1 ?c2 ?c3 ?c4 ?c5 ?_)
      case c1 => intro j u hj; simp at hj
      case c2 => intro u hu; cases hu
      case c3 => unfold maxLen; omega
      case c4 => omega
      case c5 => simp
      · intro v' w1 q1 q2 _
        go_wp2
        go_ret
        refine ⟨⟨_, rfl, ?_⟩, ?_⟩
        · unfold OwnP; simpa [flatP] using q1
        · exact ((Below.refl w.heap.size w).alloc (Nat.le_refl _) _).grown q2 (by simp) (fun k hk => by simp [Value.ownBlock] at hk; omega)
  · have hc := ArgP.flat (cap := cap) h4
    have hone := flatP_one l
    have hx := flatP_len l
    clear h h4
    go_enter Tryd.func53, Tryd.ntmps53
    go_wp2_with (at_builtin; refine wpList_append_own (P := Tryd.prog) _ rfl _ _ 22 rfl w.heap.size 60 i _ 3 40 Tryd.underlying22 hi hz0 hz1 hz2 rfl (by decide) _ 0 [] rfl hown ⟨g, o, none⟩ l.length cap (flatP l) rfl hx ?c1 hone ?c3 ?c4 ?c5 ?_)
    case c1 =>
      intro j u hj
      have h1 := hc j u hj
      rw [add_at, World.cell?_alloc_lt _ _ _ (World.block_lt_of_cell? _ _ h1)]
      exact h1
    case c3 => unfold maxLen; omega
    case c4 => omega
    case c5 => simp
    · intro v' w1 q1 q2 _
      go_wp2
      go_ret
      refine ⟨⟨_, rfl, ?_⟩, ?_⟩
      · unfold OwnP; simpa using q1
      · exact ((Below.refl w.heap.size w).alloc (Nat.le_refl _) _).grown q2 (by simp) (fun k hk => by simp [Value.ownBlock] at hk; omega)
def noSc : Sc := ⟨[], []⟩
def partC (ss : List Sc) (nm : List UInt8) : Sc × Int := match ss.find? (isS nm) with
  | none => (noSc, 181)
  | some s => (s, 0)
def ScTo (w : World) (T : Sc × Int) (e : Ending) (w' : World) : Prop :=
  (∃ pv, e = .returned (.tuple #[.agg #[.string (tx T.1.name), pv], .int .i64 T.2]) ∧ ArgP w' pv T.1.props ∧ ∀ g, pv.ownBlock = some g → w.heap.size ≤ g) ∧ Below w.heap.size w w'
theorem ArgP.grown {w w' : World} {v : Value} {l : List Pr} {R : Nat} (h : ArgP w v l) (hg : w.grownBy w' (some R)) (hne : v.ownBlock ≠ some R) : ArgP w' v l := by
  refine ⟨h.1, ?_⟩
  rcases h.2 with hn | ⟨g, o, cap, rfl, h1, h2, h3, h4⟩
  · exact .inl hn
  · have hgr : some g ≠ some R := fun e => hne e
    have hb : w'.heap[g]? = w.heap[g]? := hg.block g h3 hgr
    refine .inr ⟨g, o, cap, rfl, h1, h2, Nat.lt_of_lt_of_le h3 hg.size, fun j hj k hk => ?_⟩
    rw [World.cell?_of_block (a := ⟨g, o + j * 3 + k, none⟩) hb, h4 j hj k hk]
theorem part_no {ss : List Sx} {nm : List UInt8} (h : ss.find? (isSx nm) = none) : partC (ss.map Sx.sc) nm = (noSc, 181) := by
  have : (ss.map Sx.sc).find? (isS nm) = none := by rw [List.find?_map]; exact congrArg (Option.map Sx.sc) h
  unfold partC; rw [this]
theorem part_yes {ss : List Sx} {nm : List UInt8} {s : Sx} (h : ss.find? (isSx nm) = some s) : partC (ss.map Sx.sc) nm = (s.sc, 0) := by
  have : (ss.map Sx.sc).find? (isS nm) = some s.sc := by rw [List.find?_map]; exact congrArg (Option.map Sx.sc) h
  unfold partC; rw [this]
def zSc : List Value := [.string ⟨#[]⟩, .slice none 0 0]
theorem sc_size : ∀ w, (Go.sizeOf 38).run Tryd.prog w = .ok 2 w := Tryd.sizeOf38
theorem sc_one (b : ByteArray) (v : Value) (hb : ∃ x n c, v = .slice x n c) : ∀ u ∈ [.string b, v], u.oneCell' = true := by
  obtain ⟨_, _, _, rfl⟩ := hb
  intro u hu
  simp only [List.mem_cons, List.not_mem_nil, or_false] at hu
  rcases hu with rfl | rfl <;> rfl
set_option maxHeartbeats 4000000 in
set_option maxRecDepth 20000 in
theorem conf_part (w : World) (v : Value) (ss : List Sx) (h : ArgX w v ss) (nm : List UInt8) :
    Calls Tryd.prog 30 #[v, .string (tx nm)] w fun e w' => ScTo w (partC (ss.map Sx.sc) nm) e w' := by
  have hb0 := below_box w (.cells zSc.toArray 38)
  have HB0 := hide hb0
  have HR0 := hide (block_new w (.cells zSc.toArray 38))
  have hI := conf_section _ v ss (h.below hb0) nm
  have H := hide h
  have hlen := h.1
  obtain ⟨a, cap, rfl⟩ := h.form
  clear h hb0
  rcases fstI_is (isSx nm) ss 0 with ⟨h1, h2, _⟩ | ⟨k, hk, h1, h2, hz5⟩
  · rw [part_no h2]
    rw [h1] at hI
    clear h1 h2
    unfold zSc at *
    unfold tx at hI ⊢
    go_enter Tryd.func30, Tryd.ntmps30
    go_wp2_with fail
    refine hI.mono ?_
    rintro e w1 ⟨rfl, hb1⟩
    have HR1 := hide (block_stay HR0.out hb1)
    have HB1 := hide (HB0.out.trans (hb1.mono HB0.out.size))
    clear hb1 hI
    go_wp2_with ((with_reducible refine at_storeQ (T := 38) ?_); refine store_part rfl _ _ _ rfl w.heap.size 0 38 _ zSc zSc.toArray HR1.out rfl rfl sc_size (sc_one _ _ ⟨_, _, _, rfl⟩) (Nat.le_refl 2) (by rfl) ?_; intro w4 hg4 hb4; have HG4 := hide hg4; have HB4 := hide (below_own HB1.out hb4 (Nat.le_refl _) (Nat.le_refl _)); clear hg4 hb4)
    refine bodyPost_ret (results_cell2 rfl _ _ w.heap.size _ _ _ _ rfl HG4.out Tryd.underlying38 rfl (by kernel_rfl)) rfl ?_
    exact ⟨⟨_, rfl, ArgP.nilA _, fun g e => by cases e⟩, HB4.out⟩
  · rw [part_yes h2]
    rw [h1, Nat.zero_add] at hI
    obtain ⟨s, hs⟩ : ∃ s, ss[k] = s := ⟨_, rfl⟩
    have HPS : Hid (∀ W, Below w.heap.size w W → ArgP W s.pv s.props) := fun W hW => ((H.out.below hW).2.1 s (by rw [← hs]; exact List.getElem_mem hk))
    have hsT : ScTo w (ss[k].sc, 0) = ScTo w (s.sc, 0) := by rw [hs]
    rw [hsT]
    obtain ⟨g, o, rfl, hc1, hc2, hg, _⟩ := H.out.at k hk
    have HAT : Hid (∀ W, Below w.heap.size w W → W.cell? ⟨g, o + k * 2, none⟩ = some (.string (tx s.name)) ∧ W.cell? ⟨g, o + k * 2 + 1, none⟩ = some s.pv) := fun W hW => by
      obtain ⟨g', o', e, _, _, _, d0, d1⟩ := (H.out.below hW).at k hk
      injection e with e; injection e with e3 e4
      subst e3 e4
      rw [hs] at d0 d1
      exact ⟨d0, d1⟩
    have hkI : (k : Int) < (ss.length : Int) := by omega
    have hkI0 : ¬ (k : Int) < 0 := by omega
    obtain ⟨pa, pc, hpv⟩ := (HPS.out w (Below.refl _ _)).form
    rw [hpv] at HPS HAT
    clear h1 h2 hz5 hs hsT hpv
    unfold zSc at *
    unfold tx at *
    go_enter Tryd.func30, Tryd.ntmps30
    go_wp2_with fail
    refine hI.mono ?_
    rintro e w1 ⟨rfl, hb1⟩
    have HR1 := hide (block_stay HR0.out hb1)
    have HB1 := hide (HB0.out.trans (hb1.mono HB0.out.size))
    clear hb1 hI
    go_wp2_with fail
    have HB1d : Hid (Below w.heap.size w w1.drew) := HB1.out.drew
    have n0 := (HAT.out w1.drew HB1d.out).1
    have n1 := (HAT.out w1.drew HB1d.out).2
    have hCl := lib_CloneP w1.drew _ s.props (HPS.out w1.drew HB1d.out)
    have HW1 : Hid (w.heap.size < w1.heap.size) := block_lt HR1.out
    go_region_law (go_simp; refine hCl.mono ?_; rintro e w5 ⟨⟨v5, rfl, hown⟩, hb5⟩; have HO5 := hide hown; have HB5 := hide (HB1d.out.trans (hb5.mono HB1d.out.size)); have HR5 := hide (block_stay (w := w1.drew) HR1.out hb5); have m0 := (HAT.out w5 HB5.out).1; have r0 := cells_of_block HR5.out 0 _ rfl; have r1 := cells_of_block HR5.out 1 _ rfl; have f0 := block_soft HR5.out 0; have f1 := block_soft HR5.out 1; obtain ⟨a5, c5, hv5⟩ := row_form hown; subst hv5; clear hown hb5)
    all_goals
      have HG := hide (set2 HR5.out (.string ⟨s.name.toArray⟩) (.slice a5 s.props.length c5))
      have HBF := hide ((HB5.out.setCell (p := ⟨w.heap.size, 0, none⟩) (Nat.le_refl _) (.string ⟨s.name.toArray⟩)).setCell (p := ⟨w.heap.size, 1, none⟩) (Nat.le_refl _) (.slice a5 s.props.length c5))
      have HOF : Hid (OwnP 60 ((w5.setCell ⟨w.heap.size, 0, none⟩ (.string ⟨s.name.toArray⟩)).setCell ⟨w.heap.size, 1, none⟩ (.slice a5 s.props.length c5)) w1.drew.heap.size (.slice a5 s.props.length c5) s.props) := row_keep HO5.out (fun j hj => by
        have hj1 : w1.heap.size ≤ j := (World.ownsRow.lt HO5.out j hj).1
        have hne : j ≠ w.heap.size := fun e => by have := HW1.out; omega
        rw [Below.heap_setCell _ _ _ _ hne, Below.heap_setCell _ _ _ _ hne])
      have HPL := hide (HPS.out w (Below.refl _ _)).1
      clear m0 r0 r1 f0 f1 n0 n1
      go_wp2
      refine bodyPost_ret (results_cell2 rfl _ _ w.heap.size _ _ _ _ rfl HG.out Tryd.underlying38 rfl (by kernel_rfl)) rfl ?_
      exact ⟨⟨_, rfl, OwnP.arg HOF.out HPL.out, fun g e => by have := (World.ownsRow.lt HOF.out g e).1; have h9 : w1.drew.heap.size = w1.heap.size := rfl; have := HW1.out; omega⟩, HBF.out⟩
def chooseC (F : Cf) (p : List UInt8) : Sc × Int := if clE p ≠ 0 then (noSc, 40) else
  match F.dirs.find? (fun d => underOf (clT p) d.value) with
  | none => (noSc, 181)
  | some d => partC F.secs d.name
theorem tn_Under (p d : List UInt8) (w : World) : Calls Tryd.prog 29 #[.string (tx p), .string (tx d)] w fun e w' => e = .returned (.bool (underOf p d)) ∧ w = w' := by
  have := path_Under (tx p) (tx d) w
  rw [data_tx, data_tx] at this
  exact this.mono fun e w' ⟨h1, h2⟩ => ⟨h1, h2.symm⟩
theorem tn_Clean (p : List UInt8) (w : World) (hm : Mx w) (hl : p.length ≤ 100000) : Calls Tryd.prog 28 #[.string (tx p)] w fun e w' => e = .returned (.tuple #[.string (tx (clT p)), .int .i64 (clE p)]) ∧ Below w.heap.size w w' := by
  have := path_Clean (tx p) w hm (by rw [tx_size]; exact hl)
  rw [data_tx] at this
  exact this
/-- From the i-th folder on. -/
def chooseR (cl : List UInt8) (ds : List Pr) (ss : List Sc) : Sc × Int := match ds.find? (fun d => underOf cl d.value) with
  | none => (noSc, 181)
  | some d => partC ss d.name
theorem chooseR_cons (cl : List UInt8) (d : Pr) (ds : List Pr) (ss : List Sc) : chooseR cl (d :: ds) ss = if underOf cl d.value = true then partC ss d.name else chooseR cl ds ss := by
  unfold chooseR
  by_cases h : underOf cl d.value = true
  · rw [if_pos h, List.find?_cons_of_pos (by exact h)]
  · rw [if_neg h, List.find?_cons_of_neg (by exact h)]
end Go.Proofs.YtmcefflgbliehaaDoor
