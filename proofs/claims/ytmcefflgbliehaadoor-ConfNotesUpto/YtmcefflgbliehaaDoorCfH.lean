
/-
  Layer 18 (conf): tell.
-/
import Derived.Test.YtmcefflgbliehaaDoorCfF
set_option linter.unusedVariables false
namespace Go.Proofs.YtmcefflgbliehaaDoor
open Go.RowKit Go.PlainAid Go.Sort
theorem row_pos {w : World} {B : Nat} {e : TypeId} {s n : Nat} {v : Value} {xs : List Value} (h : w.ownsRow B e s v n xs) (hn : 0 < n) : ∃ b c, v = .slice (some ⟨b, 0, none⟩) n c ∧ n ≤ c ∧ c ≤ maxLen := by
  rcases h.2 with ⟨rfl, hn0⟩ | ⟨g, cap, cur, rfl, _, _, h1, h2, _⟩
  · omega
  · exact ⟨_, cap, rfl, h1, h2⟩
section
variable {W W1 W2 : World} {B f N : Nat} {dv : Value} {ds : List Pr} {A : List Sx} {x : Sx} {b c : Nat}
theorem flatX_same (A : List Sx) (x : Sx) (ps : List Pr) : flatX (A ++ [⟨x.name, x.pv, ps⟩]) = flatX (A ++ [x]) := by
  rw [flatX_app, flatX_app]; rfl
/-- A property more in the last part. -/
theorem FileAt.putProp (h : FileAt W B f dv (.slice (some ⟨b, 0, none⟩) (A.length + 1) c) ds (A ++ [x]) N) (hb : Below W.heap.size W W1) {p : Pr} {pv' : Value} (r : OwnP 60 W2 B pv' (x.props ++ [p])) (hv : p.value.length ≤ 100000)
    (hs : pv'.ownBlock = x.pv.ownBlock ∨ pv'.ownBlock = some W1.heap.size) (hg : W1.grownBy W2 x.pv.ownBlock) :
    StepF W (W2.setCell ⟨b, A.length * 2 + 1, none⟩ pv') B f dv (.slice (some ⟨b, 0, none⟩) (A.length + 1) c) (A ++ [x]) ds (A ++ [⟨x.name, pv', x.props ++ [p]⟩]) (N + 1) := by
  have hs1 := hb.size
  have hs2 := hg.size
  have hmx : x ∈ A ++ [x] := List.mem_append.2 (.inr (List.mem_singleton.2 rfl))
  have hbT := h.sT (g := b) rfl
  have hD : ∀ g, pv'.ownBlock = some g → x.pv.ownBlock = some g ∨ g = W1.heap.size := fun g hg => by
    rcases hs with e | e
    · exact .inl (e ▸ hg)
    · rw [e] at hg; injection hg with hg; exact .inr hg.symm
  have hk : ∀ k, k < W.heap.size → k ≠ b → x.pv.ownBlock ≠ some k → (W2.setCell ⟨b, A.length * 2 + 1, none⟩ pv').heap[k]? = W.heap[k]? := fun k hk h1 h2 => by
    rw [Below.heap_setCell _ _ _ _ h1, hg.block k (by omega) (fun e => h2 e.symm), hb.block k hk]
  refine h.last (row_keep r (fun g hgg => ?_)) ?_ (fun g hgg => ?_) ?_ (fun u hu => ?vl) ⟨hg.os.trans hb.os, hg.tape.trans hb.tape, hg.output.trans hb.output, by simp; omega⟩ hk
  case vl =>
    rcases List.mem_append.1 hu with hu | hu
    · exact Nat.le_trans (h.vl x hmx u hu) (Nat.mul_le_mul_right _ (Nat.le_succ N))
    · rw [List.mem_singleton] at hu; subst hu; omega
  · rcases hD g hgg with e | e
    · exact Below.heap_setCell _ _ _ _ (fun e2 => (h.pT hmx e).2.2.2.2 (by rw [show g = b from e2]; rfl))
    · exact Below.heap_setCell _ _ _ _ (by show g ≠ b; omega)
  · have h2 : OwnX 38 W2 B (.slice (some ⟨b, 0, none⟩) (A.length + 1) c) (A ++ [x]) := row_keep h.secs (fun g hgg => by
      injection hgg with hgg
      subst hgg
      rw [hg.block b (by omega) (fun e => (h.pT hmx e.symm).2.2.2.2 rfl), hb.block b hbT.2.1])
    unfold OwnX at h2 ⊢
    rw [List.length_append, List.length_singleton] at h2 ⊢
    have := row_set h2 (A.length * 2 + 1) pv'
    rwa [flatX_last A x pv' (x.props ++ [p])] at this
  · rcases hD g hgg with e | e
    · exact .inl e
    · exact .inr (by omega)
  · rw [List.length_append, List.length_singleton]; have := h.sm.2.2 x hmx; omega
/-- A property of the last part is another. -/
theorem FileAt.setProp (h : FileAt W B f dv (.slice (some ⟨b, 0, none⟩) (A.length + 1) c) ds (A ++ [x]) N) (hb : Below W.heap.size W W1) {k pb pc : Nat} (hk : k < x.props.length) (hpv : x.pv = .slice (some ⟨pb, 0, none⟩) x.props.length pc) {q : Pr} (hq : q.name = x.props[k].name) (hv : q.value.length ≤ (N + 1) * 100002) :
    StepF W ((W1.setCell ⟨pb, k * 3 + 1, none⟩ (.string (tx q.value))).setCell ⟨pb, k * 3 + 2, none⟩ (.int .i64 q.line)) B f dv (.slice (some ⟨b, 0, none⟩) (A.length + 1) c) (A ++ [x]) ds (A ++ [⟨x.name, x.pv, x.props.set k q⟩]) (N + 1) := by
  have hs1 := hb.size
  have hmx : x ∈ A ++ [x] := List.mem_append.2 (.inr (List.mem_singleton.2 rfl))
  have hbT := h.sT (g := b) rfl
  have hpb : x.pv.ownBlock = some pb := by rw [hpv]; rfl
  have hpT := h.pT hmx hpb
  have hne : b ≠ pb := fun e => hpT.2.2.2.2 (by rw [e]; rfl)
  have hoth : ∀ j, j ≠ pb → ((W1.setCell ⟨pb, k * 3 + 1, none⟩ (.string (tx q.value))).setCell ⟨pb, k * 3 + 2, none⟩ (.int .i64 q.line)).heap[j]? = W1.heap[j]? := fun j hj => by
    rw [Below.heap_setCell _ _ _ _ hj, Below.heap_setCell _ _ _ _ hj]
  refine h.last ?_ ?_ (fun g hgg => .inl hgg) ?_ (fun u hu => ?vl) ⟨hb.os, hb.tape, hb.output, by simpa using hs1⟩ (fun j hj h1 h2 => ?_)
  case vl =>
    rcases List.mem_or_eq_of_mem_set hu with hu | hu
    · exact Nat.le_trans (h.vl x hmx u hu) (Nat.mul_le_mul_right _ (Nat.le_succ N))
    · rw [hu]; exact hv
  · have h1 : OwnP 60 W1 B x.pv x.props := row_keep (h.prs x hmx) (fun g hgg => hb.block g (h.pT hmx hgg).2.1)
    unfold OwnP at h1 ⊢
    rw [hpv] at h1 ⊢
    rw [List.length_set, flatP_set _ k hk q hq]
    exact row_set (row_set h1 _ _) _ _
  · have h2 : OwnX 38 W1 B (.slice (some ⟨b, 0, none⟩) (A.length + 1) c) (A ++ [x]) := row_keep h.secs (fun g hgg => hb.block g (h.sT hgg).2.1)
    unfold OwnX at h2 ⊢
    rw [flatX_same]
    rw [List.length_append, List.length_singleton] at h2 ⊢
    refine row_keep h2 (fun g hgg => ?_)
    injection hgg with hgg
    exact hoth g (fun e => hne (Eq.trans hgg e))
  · rw [List.length_set]; have := h.sm.2.2 x hmx; omega
  · rw [hoth j (fun e => h2 (by rw [e]; exact hpb)), hb.block j hj]
end
theorem tellC_no {l : List Pr} {t : Td} {n : Int} (h : l.find? (isP t.name) = none) : tellC l t n = l ++ [⟨t.name, t.value, n⟩] := by
  unfold tellC; rw [h]
theorem tellC_yes {l : List Pr} {t : Td} {n : Int} {k : Nat} (hk : k < l.length) (h : l.find? (isP t.name) = some l[k]) (hf : fstI (isP t.name) l 0 = (k : Int)) : tellC l t n = l.set k ⟨l[k].name, newV l[k].value t, n⟩ := by
  unfold tellC; rw [h, hf]; rfl
set_option maxHeartbeats 4000000 in
set_option maxRecDepth 20000 in
theorem conf_tell (W : World) (B f N : Nat) (dv : Value) (ds : List Pr) (A : List Sx) (x : Sx) (b c : Nat) (h : FileAt W B f dv (.slice (some ⟨b, 0, none⟩) (A.length + 1) c) ds (A ++ [x]) N) (hN : N ≤ 50000) (hB : B ≤ W.heap.size)
    (t : Td) (ht : t.name.length ≤ 100000 ∧ t.value.length ≤ 100000) (n : Int) :
    Calls Tryd.prog 46 #[.pointer (some ⟨b, A.length * 2, none⟩), .agg t.cells.toArray, .int .i64 n] W fun e w' => e = .returned (.tuple #[]) ∧
      ∃ pv', StepF W w' B f dv (.slice (some ⟨b, 0, none⟩) (A.length + 1) c) (A ++ [x]) ds (A ++ [⟨x.name, pv', tellC x.props t n⟩]) (N + 1) := by
  have hb0 := below_box W (.cells t.cells.toArray 97)
  have HX := hide (block_new W (.cells t.cells.toArray 97))
  have H0 := hide h
  have H := hide (h.stay hb0)
  have HB0 := hide hb0
  have hmx : x ∈ A ++ [x] := List.mem_append.2 (.inr (List.mem_singleton.2 rfl))
  obtain ⟨nm, va, ad⟩ := t
  simp only [] at *
  obtain ⟨pa, pc, hpv⟩ := row_form (h.prs x hmx)
  have hxl : x.props.length ≤ 50000 := Nat.le_trans (h.sm.2.2 x hmx) hN
  have hlast : ∀ w, FileAt w B f dv (.slice (some ⟨b, 0, none⟩) (A.length + 1) c) ds (A ++ [x]) N → w.cell? ⟨b, A.length * 2 + 1, none⟩ = some (.slice pa x.props.length pc) := fun w hw => by
    have hc := World.ownsRow.cells hw.secs (g := b) rfl (A.length * 2 + 1) x.pv (by
      rw [flatX_get (A ++ [x]) A.length (by simp) 1 (by omega)]; simp [Sx.cells])
    rw [add_at, Nat.zero_add] at hc
    rw [hc, hpv]
  have hfs := fstI_is (isP nm) x.props 0
  have hprop : ∀ w, FileAt w B f dv (.slice (some ⟨b, 0, none⟩) (A.length + 1) c) ds (A ++ [x]) N → ArgP w (.slice pa x.props.length pc) x.props := fun w hw => by
    have := (hw.prs x hmx).arg (by omega)
    rwa [hpv] at this
  have HL := hide hlast
  have HPP := hide hprop
  have HPV := hide hpv
  have HXL := hide hxl
  have hH : ∀ {w w' : World}, FileAt w B f dv (.slice (some ⟨b, 0, none⟩) (A.length + 1) c) ds (A ++ [x]) N → Below w.heap.size w w' → FileAt w' B f dv (.slice (some ⟨b, 0, none⟩) (A.length + 1) c) ds (A ++ [x]) N := fun h hb => h.stay hb
  clear h hb0 hmx hlast hprop hpv hxl
  unfold Td.cells at *
  rcases hfs with ⟨e1, e2, _⟩ | ⟨k, hk, e1, e2, hz5⟩
  · rw [tellC_no e2]
    simp only []
    have HE1 := hide e1
    have HVL := hide ht.2
    clear e1 e2 ht
    unfold tx at *
    go_enter Tryd.func46, Tryd.ntmps46
    go_wp2_with fail
    generalize W.alloc (.cells #[.string ⟨nm.toArray⟩, .string ⟨va.toArray⟩, .bool ad] 97) = W0 at *
    refine wp_region_quiet_below (by kernel_rfl) (by kernel_rfl) ?_
    have l1 := cell_regrown (HL.out W0 H.out)
    have y0 := cell_regrown (cells_of_block HX.out 0 (.string ⟨nm.toArray⟩) rfl)
    have hP := fun d os => conf_property (grow (redrawn W0 d) os) (.slice pa x.props.length pc) x.props ((HPP.out W0 H.out).below (below_regrown W0 d os)) nm
    rw [HE1.out] at hP
    unfold tx at hP
    repeat (go_big_quiet_step (exact Calls.regrown_of (hP _ _)))
    refine wpQuiet_nil ?_
    intro _ hw'
    obtain ⟨⟨dq, osq⟩, hw''⟩ := hw'
    subst hw''
    have HB2 := hide (below_regrown W0 dq osq)
    clear l1 y0 hP
    simp only [] at HB2 ⊢
    generalize grow (redrawn W0 dq) osq = w2 at *
    have H2 := hide (H.out.stay HB2.out)
    have HX2 := hide (block_stay HX.out HB2.out)
    go_wp2_with fail
    have HB3 := hide (HB0.out.trans (HB2.out.mono HB0.out.size))
    have z0 : w2.drew.cell? ⟨W.heap.size, 0, none⟩ = some (.string ⟨nm.toArray⟩) := cells_of_block (w := w2.drew) HX2.out 0 _ rfl
    have z1 : w2.drew.cell? ⟨W.heap.size, 1, none⟩ = some (.string ⟨va.toArray⟩) := cells_of_block (w := w2.drew) HX2.out 1 _ rfl
    have a0 : w2.drew.cell? ⟨b, A.length * 2 + 1, none⟩ = some (.slice pa x.props.length pc) := HL.out w2 H2.out
    have HDA : Hid (∀ o, Below w2.heap.size w2 (w2.drew.alloc o)) := fun o => (Below.refl _ w2).drew.alloc (Nat.le_refl _) o
    have b0 : ∀ o, (w2.drew.alloc o).cell? ⟨b, A.length * 2 + 1, none⟩ = some (.slice pa x.props.length pc) := fun o => HL.out _ (hH H2.out (HDA.out o))
    have b0' : ∀ o, (w2.alloc o).cell? ⟨b, A.length * 2 + 1, none⟩ = some (.slice pa x.props.length pc) := fun o => HL.out _ (hH H2.out (below_box w2 o))
    have HOA : Hid (∀ o, OwnP 60 (w2.drew.alloc o) B (.slice pa x.props.length pc) x.props) := fun o => by
      have := (hH H2.out (HDA.out o)).prs x (List.mem_append.2 (.inr (List.mem_singleton.2 rfl)))
      rwa [HPV.out] at this
    have HNB : Hid ((Value.slice pa x.props.length pc).ownBlock ≠ some b) := fun e => (H2.out.pT (List.mem_append.2 (.inr (List.mem_singleton.2 rfl))) (by rw [HPV.out]; exact e)).2.2.2.2 rfl
    have HBT : Hid (∃ cur, ∀ o, (w2.drew.alloc o).heap[b]? = some (.cells cur 38 (0, 0)) ∧ cur[A.length * 2 + 1]? = some (.slice pa x.props.length pc)) := by
      obtain ⟨cur, hc⟩ := row_type H2.out.secs (g := b) rfl
      refine ⟨cur, fun o => ⟨(block_stay hc (HDA.out o)), ?_⟩⟩
      have := HL.out w2 H2.out
      rw [cell_of_row w2 b _ cur _ (0, 0) hc] at this
      exact this
    obtain ⟨cur, hcur⟩ := HBT.out
    have HCU := hide hcur
    have HBL : Hid (∀ o, B ≤ (w2.drew.alloc o).heap.size) := fun o => Nat.le_trans hB (Nat.le_trans HB3.out.size (HDA.out o).size)
    have HNX := hide (new_p w2.drew ⟨nm, va, n⟩ 60)
    unfold Pr.cells tx at HNX
    clear hcur HBT
    go_wp2_with fail
    go_region_law (refine step_append_p rfl (.tmp 21) (.tmp 28) rfl B _ x.props ⟨nm, va, n⟩ (HOA.out _) rfl _ 1 rfl HNX.out (by have := HXL.out; omega) (HBL.out _) ?_; intro v6 W6 r6 g6 n6; have HR6 := hide r6; have HG6 := hide g6; have HN6 := hide n6; have b6 := (g6.block b (block_lt (HCU.out _).1) (fun e => HNB.out e.symm)).trans (HCU.out _).1; have c6 := cells_of_block b6 (A.length * 2 + 1) _ (HCU.out (.cells #[] 0)).2; have f6 := block_soft b6 (A.length * 2 + 1); obtain ⟨fa6, fc6, hv6⟩ := row_form r6; rw [List.length_append, List.length_singleton] at hv6; subst hv6; clear r6 g6 n6 b6)
    all_goals
      have HP := hide (H0.out.putProp (HB3.out.trans ((HDA.out _).mono HB3.out.size)) HR6.out HVL.out (by rw [HPV.out]; exact HN6.out) (by rw [HPV.out]; exact HG6.out))
      clear a0 b0 b0' z0 z1 HDA HOA HCU HNB HNX c6 f6 HR6 HG6 HN6 HBL
      go_wp2
      refine bodyPost_ret (results_none rfl _ _ _) rfl ?_
      exact ⟨rfl, _, HP.out⟩
  · have hlen : 0 < x.props.length := by omega
    obtain ⟨pb, pc', hpv', hc1, hc2⟩ := row_pos (H0.out.prs x (List.mem_append.2 (.inr (List.mem_singleton.2 rfl)))) hlen
    have hpp : pa = some ⟨pb, 0, none⟩ ∧ pc = pc' := by
      have := HPV.out.symm.trans hpv'
      injection this with h1 h2 h3
      exact ⟨h1, h3⟩
    obtain ⟨rfl, rfl⟩ := hpp
    rw [Nat.zero_add] at e1
    have HE1 := hide e1
    have HK := hide hk
    have hat := fun w hw => (HPP.out w hw).at k hk
    obtain ⟨ol, hol⟩ : ∃ ol, x.props[k].value = ol := ⟨_, rfl⟩
    rw [(tellC_yes (n := n) (t := ⟨nm, va, ad⟩) hk e2 e1).trans (congrArg (fun z => x.props.set k ⟨x.props[k].name, newV z ⟨nm, va, ad⟩, n⟩) hol)]
    have HAT : Hid (∀ w, FileAt w B f dv (.slice (some ⟨b, 0, none⟩) (A.length + 1) c) ds (A ++ [x]) N → w.cell? ⟨pb, k * 3 + 1, none⟩ = some (.string (tx ol)) ∧ ∃ u, w.cell? ⟨pb, k * 3 + 2, none⟩ = some u) := fun w hw => by
      obtain ⟨g, o, e, _, _, _, d0, d1, d2⟩ := hat w hw
      injection e with e; injection e with e3 e4
      subst e3 e4
      simp only [Nat.zero_add] at d1 d2
      refine ⟨?_, _, d2⟩
      exact d1.trans (congrArg (fun z => some (Value.string (tx z))) hol)
    have hset := fun (w1 : World) (hb : Below W.heap.size W w1) (va' : List UInt8) (hv : va'.length ≤ (N + 1) * 100002) => H0.out.setProp (W1 := w1) hb hk hpv' (q := ⟨x.props[k].name, va', n⟩) rfl hv
    have holl : ol.length ≤ N * 100002 := by
      have h9 := H0.out.vl x (List.mem_append.2 (.inr (List.mem_singleton.2 rfl))) x.props[k] (List.getElem_mem hk)
      exact Nat.le_trans (Nat.le_of_eq (congrArg List.length hol.symm)) h9
    have HOL := hide holl
    have HVA := hide ht.2
    have HSET := hide hset
    have hkI : (k : Int) < (x.props.length : Int) := by omega
    have hkI0 : ¬ (k : Int) < 0 := by omega
    have hcI : pc ≤ 9223372036854775807 := by unfold maxLen at hc2; omega
    have HFR : Hid (∀ w, FileAt w B f dv (.slice (some ⟨b, 0, none⟩) (A.length + 1) c) ds (A ++ [x]) N → ∀ j, w.frozen? ⟨pb, j, none⟩ = false) := fun w hw j => by
      obtain ⟨cur, hc⟩ := row_type (hw.prs x (List.mem_append.2 (.inr (List.mem_singleton.2 rfl)))) (g := pb) (by rw [hpv']; rfl)
      exact block_soft hc j
    have HNE : Hid (pb < W.heap.size) := (H0.out.pT (List.mem_append.2 (.inr (List.mem_singleton.2 rfl))) (by rw [hpv']; rfl)).2.1
    clear hz5 e1 e2 hk hat hset hpv' hol holl
    have hBt := fun w => conf_between nm w (by omega)
    clear ht
    unfold newV
    simp only []
    have hbtl : (betwC nm).length = 1 := by unfold betwC; split <;> rfl
    have HBTL := hide hbtl
    clear hbtl
    generalize betwC nm = bt at *
    obtain ⟨nv, hnv⟩ : ∃ nv, (if ad = true ∧ ol ≠ [] then ol ++ bt ++ va else va) = nv := ⟨_, rfl⟩
    rw [hnv]
    have HNV := hide hnv
    clear hnv
    unfold tx at *
    go_enter Tryd.func46, Tryd.ntmps46
    go_wp2_with fail
    generalize W.alloc (.cells #[.string ⟨nm.toArray⟩, .string ⟨va.toArray⟩, .bool ad] 97) = W0 at *
    refine wp_region_quiet_below (by kernel_rfl) (by kernel_rfl) ?_
    have l1 := cell_regrown (HL.out W0 H.out)
    have y0 := cell_regrown (cells_of_block HX.out 0 (.string ⟨nm.toArray⟩) rfl)
    have hP := fun d os => conf_property (grow (redrawn W0 d) os) (.slice (some ⟨pb, 0, none⟩) x.props.length pc) x.props ((HPP.out W0 H.out).below (below_regrown W0 d os)) nm
    rw [HE1.out] at hP
    unfold tx at hP
    repeat (go_big_quiet_step (exact Calls.regrown_of (hP _ _)))
    refine wpQuiet_nil ?_
    intro _ hw'
    obtain ⟨⟨dq, osq⟩, hw''⟩ := hw'
    subst hw''
    have HB2 := hide (below_regrown W0 dq osq)
    clear l1 y0 hP
    simp only [] at HB2 ⊢
    generalize grow (redrawn W0 dq) osq = w2 at *
    have H2 := hide (H.out.stay HB2.out)
    have HX2 := hide (block_stay HX.out HB2.out)
    have HB3 := hide (HB0.out.trans (HB2.out.mono HB0.out.size))
    have l2 := HL.out w2 H2.out
    obtain ⟨p1, u, p2⟩ := HAT.out w2 H2.out
    have y0 := cells_of_block HX2.out 0 (.string ⟨nm.toArray⟩) rfl
    have y1 := cells_of_block HX2.out 1 (.string ⟨va.toArray⟩) rfl
    have y2 := cells_of_block HX2.out 2 (.bool ad) rfl
    have f1 := HFR.out w2 H2.out (k * 3 + 1)
    have f2 := HFR.out w2 H2.out (k * 3 + 2)
    have HYF := hide (block_soft HX2.out 1)
    have hcs : ad = false ∨ (ad = true ∧ ol = []) ∨ (ad = true ∧ ol ≠ []) := by
      cases ad with
      | false => exact .inl rfl
      | true => by_cases e : ol = []; exact .inr (.inl ⟨rfl, e⟩); exact .inr (.inr ⟨rfl, e⟩)
    have hoth : pb ≠ W.heap.size := by have := HNE.out; omega
    have hoth2 : W.heap.size ≠ pb := fun e => hoth e.symm
    rcases hcs with rfl | ⟨rfl, rfl⟩ | ⟨rfl, hne⟩
    · have HP := hide (HSET.out w2 HB3.out va (by have := HVA.out; omega))
      have HV : Hid (va = nv) := by have := HNV.out; rwa [if_neg (by simp)] at this
      unfold tx at HP
      go_wp2
      go_end0
      rw [← HV.out]
      exact ⟨rfl, _, HP.out⟩
    · have HP := hide (HSET.out w2 HB3.out va (by have := HVA.out; omega))
      have HV : Hid (va = nv) := by have := HNV.out; rwa [if_neg (by simp)] at this
      unfold tx at HP
      go_wp2
      go_end0
      rw [← HV.out]
      exact ⟨rfl, _, HP.out⟩
    · have HV : Hid (ol ++ bt ++ va = nv) := by have := HNV.out; rwa [if_pos ⟨rfl, hne⟩] at this
      have hne2 : ol.isEmpty = false := by
        cases e : ol with
        | nil => exact absurd e hne
        | cons a b => rfl
      go_wp2_with fail
      have s1 : ¬ 9223372036854775807 < ol.length + bt.length := by have := HOL.out; have := HBTL.out; have := Nat.mul_le_mul_right 100002 hN; omega
      have s2 : ¬ 9223372036854775807 < ol.length + bt.length + va.length := by have := HOL.out; have := HBTL.out; have := HVA.out; have := Nat.mul_le_mul_right 100002 hN; omega
      have z0 : w2.drew.cell? ⟨W.heap.size, 0, none⟩ = some (.string ⟨nm.toArray⟩) := y0
      have z1 : w2.drew.cell? ⟨W.heap.size, 1, none⟩ = some (.string ⟨va.toArray⟩) := y1
      have z3 : w2.drew.cell? ⟨pb, k * 3 + 1, none⟩ = some (.string ⟨ol.toArray⟩) := p1
      have g1 : w2.drew.frozen? ⟨W.heap.size, 1, none⟩ = false := HYF.out
      have g1' : w2.frozen? ⟨W.heap.size, 1, none⟩ = false := HYF.out
      obtain ⟨st, hst⟩ : ∃ st : ByteArray, (⟨ol.toArray⟩ ++ ⟨bt.toArray⟩ ++ ⟨va.toArray⟩ : ByteArray) = st := ⟨_, rfl⟩
      have HST : Hid ((⟨nv.toArray⟩ : ByteArray) = st) := by
        show tx nv = st
        rw [← HV.out, ← hst, ← tx_append, ← tx_append]; rfl
      obtain ⟨W5, hW5⟩ : ∃ W5, (w2.setCell ⟨W.heap.size, 1, none⟩ (.string st)).drew = W5 := ⟨_, rfl⟩
      have HB5 : Hid (Below W.heap.size W W5) := by rw [Hid, ← hW5]; exact (HB3.out.setCell (Nat.le_refl _) _).drew
      have HP := hide (HSET.out W5 HB5.out nv (by have := HOL.out; have := HBTL.out; have := HVA.out; rw [← HV.out]; simp only [List.length_append]; omega))
      rw [HST.out] at HP
      have H5 := H0.out.stay HB5.out
      have l5 := HL.out W5 H5
      obtain ⟨q1, u5, q2⟩ := HAT.out W5 H5
      have r1 := HFR.out W5 H5 (k * 3 + 1)
      have r2 := HFR.out W5 H5 (k * 3 + 2)
      have y5 : W5.cell? ⟨W.heap.size, 1, none⟩ = some (.string st) := by
        have hbs := block_set w2 W.heap.size 1 (.string st) _ _ _ HX2.out
        rw [← hW5]
        exact cells_of_block (w := (w2.setCell ⟨W.heap.size, 1, none⟩ (.string st)).drew) hbs 1 _ rfl
      clear H5
      go_region_law (go_simp; refine (hBt _).mono ?_; rintro e w5 ⟨rfl, rfl⟩)
      all_goals
        clear z0 z1 z3 g1 g1' p1 p2 y0 y1 y2 f1 f2
        try simp only [hst, hW5]
        go_wp2
        go_end0
        exact ⟨rfl, _, HP.out⟩
end Go.Proofs.YtmcefflgbliehaaDoor
