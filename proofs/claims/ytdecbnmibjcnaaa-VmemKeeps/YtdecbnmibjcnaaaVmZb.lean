
/-
  Pages keeps its contract.
-/
import Derived.Test.YtdecbnmibjcnaaaVmZ
set_option linter.unusedVariables false
namespace Go.Proofs.Ytdecbnmibjcnaaa
open Go.RowKit Go.PlainAid
/-- What holds between two rounds over the pages of a room. -/
structure InP (w wk : World) (bx p bl m cp : Nat) (vs : Value) (acc : List Pg) : Prop where
  own : OwnP wk w.heap.size vs acc
  ne : ∀ g, vs.ownBlock = some g → g ≠ bx
  box : wk.heap[bx]? = some (.cells #[.int .u64 p, .slice (some ⟨bl, 0, none⟩) m cp] 85 (0, 0))
  below : Below w.heap.size w wk
theorem OwnP.low {w w' : World} {B : Nat} {v : Value} {l : List Pg} (h : OwnP w B v l) (hb : Below w.heap.size w w') : OwnP w' B v l := by
  refine ⟨h.1, ?_⟩
  rcases h.2 with hn | ⟨g, cap, cur, rfl, hB, hg, rest⟩
  · exact .inl hn
  · exact .inr ⟨g, cap, cur, rfl, hB, by rw [hb.block g (Array.getElem?_eq_some_iff.1 hg).1]; exact hg, rest⟩
theorem InP.stay {w wk w' : World} {bx p bl m cp : Nat} {vs : Value} {acc : List Pg} (h : InP w wk bx p bl m cp vs acc) (hb : Below wk.heap.size wk w') : InP w w' bx p bl m cp vs acc :=
  ⟨h.own.low hb, h.ne, by rw [hb.block bx (Array.getElem?_eq_some_iff.1 h.box).1]; exact h.box, h.below.trans (hb.mono h.below.size)⟩
theorem InP.step {w wk w' : World} {bx p bl m cp : Nat} {vs v' : Value} {acc acc' : List Pg} (h : InP w wk bx p bl m cp vs acc) (h1 : OwnP w' w.heap.size v' acc') (h2 : ∀ g, v'.ownBlock = some g → Same wk vs.ownBlock g) (h3 : wk.grownBy w' vs.ownBlock) : InP w w' bx p bl m cp v' acc' := by
  have hbx := (Array.getElem?_eq_some_iff.1 h.box).1
  refine ⟨h1, fun g hg => ?_, ?_, h.below.grown h3 h.below.size (fun k hk => (World.ownsRow.lt h.own k hk).1)⟩
  · rcases h2 g hg with e | e
    · exact h.ne g e
    · omega
  · rw [h3.block bx hbx (fun e => h.ne bx e.symm rfl)]; exact h.box
theorem Holds.new (w : World) (xs : List Value) (t : TypeId) : Holds (w.alloc (.cells xs.toArray t)) w.heap.size t xs := ⟨_, heap_alloc_new w _, List.prefix_rfl⟩
theorem blank_over (s : Sh) : blank.cells.take 0 ++ s.cells ++ blank.cells.drop (0 + 258) = s.cells := by
  rw [List.drop_of_length_le (by rw [blank.cells_len List.length_replicate]; omega)]; simp
theorem InP.stored {w wk w2 : World} {bx p bl m cp : Nat} {vs : Value} {acc : List Pg} (h : InP w wk bx p bl m cp vs acc) {s : Sh} {o : Obj} (h1 : Holds w2 wk.heap.size 88 s.cells) (h2 : (wk.alloc o).grownBy w2 (some wk.heap.size)) :
    w2.cell? ⟨wk.heap.size, 0, none⟩ = some (.bool s.there) ∧ w2.cell? ⟨wk.heap.size, 1, none⟩ = some (.int .i64 s.prot) ∧ w2.cell? ⟨bx, 0, none⟩ = some (.int .u64 p) ∧ Hid (InP w w2 bx p bl m cp vs acc) := by
  have hb : Below wk.heap.size wk w2 := ((Below.refl _ wk).alloc (Nat.le_refl _) _).grown h2 (by simp) (fun k hk => by injection hk with hk; omega)
  have hI := h.stay hb
  exact ⟨h1.cell 0 _ rfl, h1.cell 1 _ rfl, by simp [World.cell?, hI.box], hI⟩
set_option maxHeartbeats 4000000 in
set_option maxRecDepth 20000 in
theorem vm_Pages (w : World) (S : Nat) (v : Value) (sp : Sp) (h : SpAt w S v sp) (hk : sp.ok) :
    Calls Try.prog 21 #[.pointer (some ⟨S, 0, none⟩)] w fun e w' => (∃ vr, e = .returned vr ∧ OwnP w' w.heap.size vr (pgsOf sp.rooms)) ∧ Below w.heap.size w w' := by
  have hl := hk.len
  rcases h.told with ⟨rfl, hr⟩ | ⟨g, cap, ht⟩
  · have h1 := h.c1
    rw [hr]
    go_enter Try.func21, Try.ntmps21
    go_wp2
    go_loopw [3, 13] (fun vs vi wr => vi = .int .i64 0 ∧ vs = .slice none 0 0 ∧ wr = w) (fun _ _ _ => 0)
    case atStart => exact ⟨rfl, rfl, rfl⟩
    case round =>
      obtain ⟨rfl, rfl, rfl⟩ := hrel
      go_wp2
      go_ret
      exact ⟨⟨_, rfl, World.ownsRow_nil _ _ _ _⟩, Below.refl _ _⟩
  · obtain ⟨hc1, hlt, rfl, hglt, hn0, hcap1, hat0, hat1⟩ := id ht
    have HT : Hid (Told w S (.slice (some ⟨g, 0, none⟩) sp.rooms.length cap) sp.rooms sp.rooms.length g cap) := ht
    have HM : Hid (∀ r ∈ sp.rooms, r.ok) := hk.each
    have HP : Hid (∀ r ∈ sp.rooms, Holds w r.blk 88 (flatS r.pages)) := h.pgs
    have HU : Hid (used sp.rooms ≤ 1024) := by have := hk.use; have := hk.b1; exact Nat.le_trans hk.use hk.b1
    have hcap : cap ≤ 9223372036854775807 := by unfold maxLen at hcap1; omega
    clear hat0 hat1 ht h hk
    go_enter Try.func21, Try.ntmps21
    go_wp2
    go_loopw [3, 13] (fun vs vi wr => ∃ i : Nat, i ≤ sp.rooms.length ∧ vi = .int .i64 i ∧ Hid (OwnP wr w.heap.size vs (pgsOf (sp.rooms.take i))) ∧ Hid (Below w.heap.size w wr)) (fun _ vi _ => sp.rooms.length - (intOf vi).toNat)
    case atStart => exact ⟨0, by omega, rfl, World.ownsRow_nil _ _ _ _, Below.refl _ _⟩
    case round =>
      obtain ⟨i, hi, rfl, HO, HB⟩ := hrel
      obtain ⟨W0, rfl⟩ : ∃ W0, W0 = wr := ⟨_, rfl⟩
      by_cases hlt2 : i < sp.rooms.length
      · have hltI : (i : Int) < (sp.rooms.length : Int) := by omega
        have hT := HT.out.stay HB.out
        have e0 := hT.at0 i hlt2
        have e1 := hT.at1 i hlt2
        have hg2 := hT.glt
        have hro := HM.out _ (List.getElem_mem hlt2)
        have hm := hro.most
        have hc0 := hro.cap0
        have hc1' := hro.cap1
        have hc2 : sp.rooms[i].cap ≤ 9223372036854775807 := by unfold maxLen at hc1'; omega
        have htop := hro.top
        unfold Rm.fin Rm.size at htop
        unfold Rm.sl at e1
        have HN : Hid (pgsOf (sp.rooms.take (i + 1)) = pgsOf (sp.rooms.take i) ++ pgsL sp.rooms[i].pos 0 sp.rooms[i].pages) := by
          unfold Hid pgsOf; rw [List.take_add_one, List.getElem?_eq_getElem hlt2, List.flatMap_append]; simp
        have HAL : Hid ((pgsOf (sp.rooms.take i)).length ≤ 1024) := by
          have h1 := pgsOf_len (sp.rooms.take i); have h2 := used_take_le sp.rooms i; have h3 := HU.out; unfold Hid; omega
        have HPG : Hid (Holds w sp.rooms[i].blk 88 (flatS sp.rooms[i].pages)) := HP.out _ (List.getElem_mem hlt2)
        have HD : Hid (∀ s ∈ sp.rooms[i].pages, s.data.length = 256) := fun s hs => (hro.each s hs).len
        have hbx : ∀ g', u3.ownBlock = some g' → g' ≠ W0.heap.size := fun g' hg' => by have := (World.ownsRow.lt HO.out g' hg').2; omega
        clear hT hro hc1'
        generalize sp.rooms[i].pos = p at *
        generalize sp.rooms[i].blk = bl at *
        generalize sp.rooms[i].cap = cp at *
        generalize sp.rooms[i].pages = pages at *
        have HI0 : Hid (InP w (W0.alloc (.cells #[.int .u64 p, .slice (some ⟨bl, 0, none⟩) pages.length cp] 85)) W0.heap.size p bl pages.length cp u3 (pgsOf (sp.rooms.take i))) :=
          ⟨World.ownsRow.alloc HO.out _, hbx, heap_alloc_new W0 _, HB.out.alloc HB.out.size _⟩
        clear hbx
        go_wp2
        go_loopw [3, 20] (fun vs vi wk => ∃ k : Nat, k ≤ pages.length ∧ vi = .int .i64 k ∧ Hid (InP w wk W0.heap.size p bl pages.length cp vs (pgsOf (sp.rooms.take i) ++ pgsL p 0 (pages.take k)))) (fun _ vi _ => pages.length - (intOf vi).toNat)
        case atStart => exact ⟨0, by omega, rfl, by simpa [pgsL] using HI0⟩
        case round =>
          obtain ⟨k, hkl, rfl, HI⟩ := hrel
          by_cases hlt3 : k < pages.length
          · have hltJ : (k : Int) < (pages.length : Int) := by omega
            have HRG : Hid (wr.rangeAt bl (k * 258) pages[k].cells) := ((HPG.out.stay HI.out.below).sheet HD.out k hlt3)
            have hds := HD.out _ (List.getElem_mem hlt3)
            have HN2 : Hid (pgsL p 0 (pages.take (k + 1)) = pgsL p 0 (pages.take k) ++ (if pages[k].there then [⟨p + k * 256, pages[k].prot, pages[k].data⟩] else [])) := by
              unfold Hid; rw [List.take_add_one, List.getElem?_eq_getElem hlt3, pgsL_app]
              have : (pages.take k).length = k := by rw [List.length_take]; omega
              simp [pgsL, this]
            have hbl2 : bl < wr.heap.size := (HPG.out.stay HI.out.below).lt
            have HAL2 : Hid ((pgsOf (sp.rooms.take i) ++ pgsL p 0 (pages.take k)).length ≤ 100000) := by
              have h1 := HAL.out; have h2 := pgsL_len p 0 (pages.take k); have h3 : (pages.take k).length ≤ 64 := by rw [List.length_take]; omega
              unfold Hid; rw [List.length_append]; omega
            generalize pages[k] = s at *
            obtain ⟨sa, sc, hsl⟩ := HI.out.own.isSlice
            subst hsl
            obtain ⟨vs, hvs⟩ : ∃ vs, vs = Value.slice sa (pgsOf (sp.rooms.take i) ++ pgsL p 0 (pages.take k)).length sc := ⟨_, rfl⟩
            rw [← hvs] at HI
            have HVS : Hid _ := hvs
            obtain ⟨n0, hn0'⟩ : ∃ n0, (pgsOf (sp.rooms.take i) ++ pgsL p 0 (pages.take k)).length = n0 := ⟨_, rfl⟩
            rw [hn0'] at hvs ⊢
            rw [← hvs]
            clear hvs hn0'
            cases hth : s.there with
            | true =>
              have hpos : (p : Int) + (k : Int) * 256 ≤ 18446744073709551615 := by omega
              rw [hth, if_pos rfl] at HN2
              go_wp2_with (first | (refine load_sheet rfl _ rfl bl (k * 258) s hds HRG.out rfl ?_) | (refine alloc_sheet rfl rfl ?_) | (refine store_sheet rfl _ _ rfl wr.heap.size 0 blank.cells s hds (Holds.new wr blank.cells 88) (by rw [blank.cells_len List.length_replicate]; omega) rfl rfl ?_; rw [blank_over]; intro w2 h1 h2; have H1 : Hid (Holds w2 wr.heap.size 88 s.cells) := h1; obtain ⟨q0, q1, qb, HI2⟩ := HI.out.stored h1 h2; clear h1 h2; rw [hth] at q0) | (refine load_data rfl _ rfl wr.heap.size s hds H1.out rfl ?_) | (refine build_page rfl _ _ _ rfl ⟨p + k * 256, s.prot, s.data⟩ hds ?hx rfl rfl ?_) | (refine slice_page rfl _ rfl ⟨p + k * 256, s.prot, s.data⟩ hds rfl ?_) | (at_builtin; refine append_page rfl _ _ rfl w.heap.size w2 vs _ HI2.out.own ⟨p + k * 256, s.prot, s.data⟩ hds rfl rfl HAL2.out HI2.out.below.size ?_))
              intro v' w3 h1 h2 h3
              have H3 : Hid (InP w w3 W0.heap.size p bl pages.length cp v' (pgsOf (sp.rooms.take i) ++ pgsL p 0 (pages.take (k + 1)))) := by
                have := HI2.out.step h1 h2 h3
                unfold Hid
                rw [HN2.out, ← List.append_assoc]
                simpa using this
              obtain ⟨sa', sc', hsl'⟩ := H3.out.own.isSlice
              clear h1 h2 h3
              go_wp2
              go_roundw
              case rel => exact ⟨k + 1, by omega, by go_num, H3⟩
              case measure => simp [intOf]; omega
            | false =>
              rw [hth] at HN2
              go_wp2_with (first | (refine load_sheet rfl _ rfl bl (k * 258) s hds HRG.out rfl ?_) | (refine alloc_sheet rfl rfl ?_) | (refine store_sheet rfl _ _ rfl wr.heap.size 0 blank.cells s hds (Holds.new wr blank.cells 88) (by rw [blank.cells_len List.length_replicate]; omega) rfl rfl ?_; rw [blank_over]; intro w2 h1 h2; have H1 : Hid (Holds w2 wr.heap.size 88 s.cells) := h1; obtain ⟨q0, q1, qb, HI2⟩ := HI.out.stored h1 h2; clear h1 h2; rw [hth] at q0))
              go_roundw
              case rel => exact ⟨k + 1, by omega, by go_num, by unfold Hid; rw [HN2.out]; simpa using HI2.out⟩
              case measure => simp [intOf]; omega
          · have hltJ : ¬ (k : Int) < (pages.length : Int) := by omega
            have he : k = pages.length := by omega
            subst he
            rw [List.take_length] at HI
            go_wp2
            go_roundw
            case rel => exact ⟨i + 1, by omega, by go_num, by rw [HN.out]; exact HI.out.own, HI.out.below⟩
            case measure => simp [intOf]; omega
      · have hltI : ¬ (i : Int) < (sp.rooms.length : Int) := by omega
        have he : i = sp.rooms.length := by omega
        subst he
        rw [List.take_length] at HO
        go_wp2
        go_ret
        exact ⟨⟨_, rfl, HO.out⟩, HB.out⟩
end Go.Proofs.Ytdecbnmibjcnaaa
