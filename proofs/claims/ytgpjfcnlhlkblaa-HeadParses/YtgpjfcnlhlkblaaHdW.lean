
/-
  Layer 8's reference: what the headers of a library say.
-/
import Derived.Test.YtgpjfcnlhlkblaaHdV
import Derived.Deep.RegionLaw
set_option linter.unusedVariables false
namespace Go.Proofs.Ytgpjfcnlhlkblaa
open Go.RowKit Go.PlainAid Go.Sort
theorem Pz.drew {w1 wr : World} {m : Nat} {vL vD vR : Value} {L D R : List Ph} (h : Pz w1 wr m vL vD vR L D R) : Pz w1 wr.drew m vL vD vR L D R := h.below (Below.refl _ _).drew
theorem Pz.alloc {w1 wr : World} {m : Nat} {vL vD vR : Value} {L D R : List Ph} (h : Pz w1 wr m vL vD vR L D R) (o : Obj) : Pz w1 (wr.alloc o) m vL vD vR L D R := h.below ((Below.refl _ _).alloc (Nat.le_refl _) o)
theorem Pz.cell1 {w1 wr : World} {m : Nat} {vL vD vR : Value} {L D R : List Ph} (h : Pz w1 wr m vL vD vR L D R) : wr.cell? ⟨w1.heap.size, 1, none⟩ = some vL := cells_of_block h.hd 1 _ rfl
theorem block_soft {w : World} {g : Nat} {cs : Array Value} {T : TypeId} (h : w.heap[g]? = some (.cells cs T (0, 0))) (k : Nat) : w.frozen? ⟨g, k, none⟩ = false := by simp [World.frozen?, h]
/-- Here a store is next (a cheap look, ahead of a law for it). -/
theorem at_store {ops : Array Oper} {rest : List Oper} {a : Act} {Q : Exit → Act → World → Prop} {w : World} {T ty : TypeId} {x y : Operand} {ps : String} {af : Array Edge}
    (h : wpList Try.prog ops Q ({ dst := none, op := .store T x y, type := ty, pos := ps, after := af, guard := none } :: rest) a w) : wpList Try.prog ops Q ({ dst := none, op := .store T x y, type := ty, pos := ps, after := af, guard := none } :: rest) a w := h
theorem at_load {ops : Array Oper} {rest : List Oper} {a : Act} {Q : Exit → Act → World → Prop} {w : World} {ty : TypeId} {x : Operand} {d : Option Tmp} {ps : String} {af : Array Edge}
    (h : wpList Try.prog ops Q ({ dst := d, op := .load 37 x, type := ty, pos := ps, after := af, guard := none } :: rest) a w) : wpList Try.prog ops Q ({ dst := d, op := .load 37 x, type := ty, pos := ps, after := af, guard := none } :: rest) a w := h
theorem Pz.put {w1 wr w' : World} {m : Nat} {vL vD vR : Value} {L D R : List Ph} (h : Pz w1 wr m vL vD vR L D R) (hb : wr.grownBy w' (some w1.heap.size)) : Below w1.heap.size w1 w' ∧ OwnH w' (w1.heap.size + 1) vL L ∧ OwnH w' (w1.heap.size + 1) vD D ∧ OwnH w' (w1.heap.size + 1) vR R := by
  have far : ∀ (v : Value) (l : List Ph), OwnH wr (w1.heap.size + 1) v l → ∀ k, v.ownBlock = some k → some w1.heap.size ≠ some k := fun v l hv k hk e => by
    injection e with e; have := (hv.lt k hk).1; omega
  exact ⟨grown_below (Nat.le_refl _) h.bel hb, h.l.apart hb (far _ _ h.l), h.d.apart hb (far _ _ h.d), h.r.apart hb (far _ _ h.r)⟩
set_option maxHeartbeats 40000000 in
set_option maxRecDepth 20000 in
theorem ref8_Parse (w : World) (v : Value) (l : List UInt8) (h : Arg w v l) (hl : l.length ≤ 140737488351232) :
    Calls Try.prog 13 #[v] w fun e w' => ParseIs w' w.heap.size (parseZ l) e ∧ Below w.heap.size w w' := by
  have HB0 : Hid (Below w.heap.size w (w.alloc (.cells zeroHd.toArray 37))) := (Below.refl _ w).alloc (Nat.le_refl _) _
  have HG0 : Hid ((w.alloc (.cells zeroHd.toArray 37)).heap[w.heap.size]? = some (.cells zeroHd.toArray 37 (0, 0))) := heap_alloc_new _ _
  have HA := hide (h.below' HB0.out)
  have hT := ref8_Table _ _ l HA.out hl
  obtain ⟨a, cap, rfl, _⟩ := h.isSlice
  obtain ⟨O, hO⟩ : ∃ O, parseZ l = O := ⟨_, rfl⟩
  rw [hO]
  unfold parseZ at hO
  have HO := hide hO
  clear h hO
  simp only [zeroHd, hdCells, noPh] at HB0 HG0 HA hT
  go_enter Try.func13, Try.ntmps13
  go_wp2_with fail
  refine hT.mono ?_
  rintro e w1 ⟨hE, hb1⟩
  have HB1 : Hid (Below w.heap.size w w1) := HB0.out.trans (hb1.mono HB0.out.size)
  have HG1 := hide (block_stay HG0.out hb1)
  have HA1 := hide (HA.out.below' hb1)
  have HS : Hid (w.heap.size < w1.heap.size) := Nat.lt_of_lt_of_le (by simp) hb1.size
  clear hT hb1 HG0 HB0 HA
  cases hTZ : tableZ l with
  | error k =>
    rw [hTZ] at hE
    have hO := HO.out
    rw [hTZ] at hO
    subst hO
    have hE' : e = _ := hE
    subst hE'
    have hk : ((k : Int) != 0) = true := by
      have := table_err hTZ
      simp; omega
    clear HO hE hTZ
    go_wp2_with ((with_reducible refine at_store ?_); refine store_part rfl _ _ _ rfl w.heap.size 0 37 _ zeroHd zeroHd.toArray HG1.out rfl rfl hd_size (hd_one _ _ _ _ _ _) (by decide) (by rfl) ?_)
    intro w2 hg2 hb2
    have HB2 := hide (grown_below (Nat.le_refl _) HB1.out hb2)
    have HG2 := hide hg2
    clear hg2 hb2
    go_wp2
    refine bodyPost_ret (results_cell2 rfl _ _ w.heap.size _ _ _ _ rfl HG2.out Try.underlying37 rfl (by kernel_rfl)) rfl ?_
    exact ⟨rfl, HB2.out⟩
  | ok all =>
    rw [hTZ] at hE
    have hO := HO.out
    rw [hTZ] at hO
    clear HO
    have HO : Hid (goOn (rd l 18 2) l.length [] 0 [] [] (all.drop 0) = O) := by rw [Hid, List.drop_zero, goOn_start]; exact hO
    clear hO
    obtain ⟨v1, rfl, hown⟩ := hE
    obtain ⟨hok, hlen⟩ := tab_ok hTZ
    have HOK := hide hok
    have HV1 := hide (hown.arg (by omega))
    obtain ⟨a1, c1, rfl⟩ := HV1.out.form
    have h18 := ref8_N w1 _ l HA1.out 18 2 (by omega) (by omega) (by omega)
    have hmI := rd2 l 18
    generalize rd l 18 2 = m at *
    have hmJ : (m : Int) < 65536 := by omega
    clear hown hok hTZ
    clear HA1
    generalize l.length = n at *
    go_wp2_with fail
    refine h18.mono ?_
    rintro e w2 ⟨rfl, rfl⟩
    clear h18
    go_wp2_with (refine build_eq rfl _ _ rfl (.agg #[.int .u16 m, .slice none 0 0, .int .u32 0, .int .u32 0, .int .u64 0, .int .u64 0, .int .u64 0, .int .u64 0, .int .u64 0, .int .u32 0, .int .u32 0, .int .u64 0, .int .u64 0, .int .u64 0, .int .u64 0, .int .u64 0]) (by kernel_rfl) ?_)
    have HP : Hid (Pz w1 (w1.alloc (.cells #[.int .u16 m, .slice none 0 0, .int .u32 0, .int .u32 0, .int .u64 0, .int .u64 0, .int .u64 0, .int .u64 0, .int .u64 0, .int .u32 0, .int .u32 0, .int .u64 0, .int .u64 0, .int .u64 0, .int .u64 0, .int .u64 0] 37)) m (.slice none 0 0) (.slice none 0 0) (.slice none 0 0) [] [] []) :=
      ⟨(Below.refl _ _).alloc (Nat.le_refl _) _, heap_alloc_new _ _, OwnH.nil _ _, OwnH.nil _ _, OwnH.nil _ _, fun k hk => by simp [Value.ownBlock] at hk, fun k hk => by simp [Value.ownBlock] at hk, fun k hk => by simp [Value.ownBlock] at hk⟩
    generalize w1.alloc _ = w2 at *
    go_loopw [7, 8, 9, 10] (fun v7 v8 v9 v10 wr => ∃ (i E : Nat) (vL : Value) (L D R : List Ph), i ≤ all.length ∧ v10 = .int .i64 i ∧ v9 = .int .u64 E ∧ E ≤ 16384 ∧ Hid (Pz w1 wr m vL v7 v8 L D R) ∧ Hid (L.length ≤ i ∧ D.length ≤ i ∧ R.length ≤ i) ∧ Hid (∀ p ∈ L, p.ok ∧ p.off + p.filesz ≤ n ∧ p.vaddr + p.memsz ≤ 16384) ∧ Hid ((∀ p ∈ D, p.ok) ∧ ∀ p ∈ R, p.ok) ∧ Hid (goOn m n L E D R (all.drop i) = O)) (fun _ _ _ v10 _ => all.length - (intOf v10).toNat)
    case atStart => exact ⟨0, 0, _, [], [], [], by omega, rfl, rfl, by omega, HP, ⟨by simp, by simp, by simp⟩, fun p hp => by simp at hp, ⟨fun p hp => by simp at hp, fun p hp => by simp at hp⟩, HO⟩
    case round =>
      obtain ⟨i, E, vL, L, D, R, hi, rfl, rfl, hE, HP, HLN, HLO, HDO, HF⟩ := hrel
      by_cases hlt : i < all.length
      · have hltI : (i : Int) < (all.length : Int) := by omega
        obtain ⟨g, rfl, hc1, hc2, hg, y0, y1, y2, y3, y4, y5, y6⟩ := (HV1.out.below HP.out.bel).at i hlt
        have hokp := HOK.out all[i] (List.getElem_mem hlt)
        have hF := HF.out
        rw [List.drop_eq_getElem_cons hlt] at hF
        clear HF
        have HVV := hide (fun (W : World) (hb : Below w1.heap.size w1 W) => (HV1.out.below hb).at i hlt)
        generalize all[i] = p at *
        by_cases t1 : p.type = 1
        · rw [goOn_load _ _ _ _ _ _ _ _ t1] at hF
          obtain ⟨aL, cL, rfl⟩ := (HP.out.l.arg (Nat.le_trans HLN.out.1 (by omega))).form
          have z1 := HP.out.cell1
          have hf : ((L.length : Int) == 0) = decide (L = []) := by
            cases L with
            | nil => rfl
            | cons x y => simp; omega
          obtain ⟨f, hfe⟩ : ∃ f, decide (L = []) = f := ⟨_, rfl⟩
          rw [hfe] at hf hF
          have HM := hide (fun W => ref8_may W p hokp n hl E (by omega) f)
          have hms := fun (h : mayB p n E f = true) => may_small h
          generalize mayB p n E f = b at *
          have HMS := hide hms
          have HF0 := hide hF
          have HOKP := hide hokp
          have HNp : Hid (∀ W, p.vaddr + p.memsz ≤ 16384 → _) := fun W h => ref8_End W p (by omega)
          obtain ⟨EN, hEN⟩ : ∃ EN, endN p = EN := ⟨_, rfl⟩
          rw [hEN] at HNp HMS HF0
          have HPP := hide (show p.cells = p.cells from rfl)
          obtain ⟨ty, fl, off, va, fs, ms, al⟩ := p
          simp only [Ph.cells] at t1 y0 y1 y2 y3 y4 y5 y6 HM HNp HMS HVV HF0
          subst t1
          clear hF hfe hms hEN hokp HPP
          go_wp2_with fail
          try simp only [List.append_eq, List.cons_append, List.nil_append]
          refine wp_region_quiet_below (by kernel_rfl) (by kernel_rfl) ?_
          have e0 := cell_regrown y0
          have e1 := cell_regrown y1
          have e2 := cell_regrown y2
          have e3 := cell_regrown y3
          have e4 := cell_regrown y4
          have e5 := cell_regrown y5
          have e6 := cell_regrown y6
          have x1 := cell_regrown z1
          repeat (go_big_quiet_step (exact Calls.regrown_of (HM.out _)))
          refine wpQuiet_nil ?_
          intro _ hwq
          obtain ⟨⟨dq, osq⟩, hwq2⟩ := hwq
          subst hwq2
          have HP2 := hide (HP.out.below (below_regrown _ dq osq))
          clear e0 e1 e2 e3 e4 e5 e6 x1 y0 y1 y2 y3 y4 y5 y6 z1 HP hf HM
          generalize grow _ _ = w3 at *
          cases b with
          | false =>
            have hF := HF0.out
            rw [if_neg (by simp)] at hF
            have HF := hide hF
            clear hF HF0 HMS hlt hltI hi hc1 hc2 hg hE hmI hmJ hl hlen HVV HLN HLO HDO HNp HOKP
            have HGz := hide (block_stay HG1.out HP2.out.bel)
            have HBz := hide (HB1.out.trans (Below.mono HP2.out.bel HB1.out.size))
            go_wp2_with ((with_reducible refine at_store ?_); refine store_part rfl _ _ _ rfl w.heap.size 0 37 _ zeroHd zeroHd.toArray HGz.out rfl rfl hd_size (hd_one _ _ _ _ _ _) (by decide) (by rfl) ?_)
            intro wz hgz hbz
            have HBy := hide (grown_below (Nat.le_refl _) HBz.out hbz)
            have HGy := hide hgz
            clear hgz hbz
            go_wp2
            (try simp only [Exit.inBlock, Exit.then])
            refine bodyPost_ret (results_cell2 rfl _ _ w.heap.size _ _ _ _ rfl HGy.out Try.underlying37 rfl (by kernel_rfl)) rfl ?_
            exact ⟨by rw [← HF.out]; rfl, HBy.out⟩
          | true =>
            have hF := HF0.out
            rw [if_pos rfl] at hF
            obtain ⟨s1, s2, s3⟩ := HMS.out rfl
            have HF := hide hF
            obtain ⟨g', hg', _, _, _, y0, y1, y2, y3, y4, y5, y6⟩ := HVV.out w3 HP2.out.bel
            obtain rfl : g = g' := by simpa using hg'
            have hEn := HNp.out w3 s2
            have HLT := hide hlt
            have HSS := hide (And.intro s1 s2)
            clear hF HF0 HMS hg' HNp hlt hi hE hg hmI hmJ hc1 hc2 s1 s2
            go_wp2_with fail
            refine hEn.mono ?_
            rintro e w4 ⟨rfl, hb4⟩
            have HP4 := hide (HP2.out.below hb4)
            clear y0 y1 y2 y3 y4 y5 y6 hEn hb4 HP2
            go_wp2_with fail
            obtain ⟨g', hg', _, _, _, y0, y1, y2, y3, y4, y5, y6⟩ := HVV.out w4.drew HP4.out.drew.bel
            obtain rfl : g = g' := by simpa using hg'
            have z1 := HP4.out.drew.cell1
            have z1b : ∀ o, (w4.alloc o).cell? ⟨w1.heap.size, 1, none⟩ = some (.slice aL L.length cL) := fun o => (HP4.out.alloc o).cell1
            have z1a : ∀ o, (w4.drew.alloc o).cell? ⟨w1.heap.size, 1, none⟩ = some (.slice aL L.length cL) := fun o => (HP4.out.drew.alloc o).cell1
            have HPD := hide (fun o => (HP4.out.drew.alloc o))
            have HNW := hide (new_ph w4.drew ⟨1, fl, off, va, fs, ms, al⟩)
            have HLL : Hid (L.length ≤ 1000) := by have := HLN.out; have := HLT.out; rw [Hid]; omega
            clear hg'
            simp only [Ph.cells] at HNW
            go_region_law (refine step_append_ph rfl (.tmp 61) (.tmp 66) rfl (w1.heap.size + 1) _ L (HPD.out _).l ⟨1, fl, off, va, fs, ms, al⟩ rfl _ rfl HNW.out (by have := HLL.out; omega) (HPD.out _).size ?_; intro v6 W6 r6 g6 n6; have HR6 := hide r6; have HG6 := hide g6; have HN6 := hide n6; have HH6 := hide ((HPD.out _).grown (HPD.out _).l g6).2; have x1 := cells_of_block HH6.out 1 _ rfl; have x2 := block_soft HH6.out 1; obtain ⟨a6, c6, hv6⟩ := (r6.arg (by rw [List.length_append]; have := HLL.out; simp; omega)).form; subst hv6; clear r6 g6 n6)
            all_goals
              have HPN := hide (HP4.out.drew.appL HR6.out (grown_alloc HG6.out) (by rcases HN6.out with q | q; exact .inl q; exact .inr ⟨_, q, by simp⟩))
              rw [show (L ++ [(⟨1, fl, off, va, fs, ms, al⟩ : Ph)]).length = L.length + 1 by simp] at HPN
              have HL3 : Hid ((L ++ [(⟨1, fl, off, va, fs, ms, al⟩ : Ph)]).length ≤ i + 1 ∧ D.length ≤ i + 1 ∧ R.length ≤ i + 1) := by have := HLN.out; rw [Hid, List.length_append]; simp; omega
              have HO3 : Hid (∀ p ∈ L ++ [(⟨1, fl, off, va, fs, ms, al⟩ : Ph)], p.ok ∧ p.off + p.filesz ≤ n ∧ p.vaddr + p.memsz ≤ 16384) := fun p hp => by
                rcases List.mem_append.1 hp with hp | hp
                · exact HLO.out p hp
                · rw [List.mem_singleton.1 hp]; exact ⟨HOKP.out, HSS.out⟩
              clear HPD HNW z1 z1a z1b y0 y1 y2 y3 y4 y5 y6 HG6 HR6 HN6 HH6 x1 x2
              go_wp2
              go_roundw
              case rel => exact ⟨i + 1, EN, _, _, D, R, by have := HLT.out; omega, by go_num, rfl, s3, HPN, HL3, HO3, HDO, HF⟩
              case measure => have := HLT.out; simp [intOf]; omega
        · by_cases t2 : p.type = 2
          · rw [goOn_dyn _ _ _ _ _ _ _ _ t2] at hF
            have HF := hide hF
            have HOW := hide HP.out.d
            obtain ⟨ty, fl, off, va, fs, ms, al⟩ := p
            simp only at t2 y0 y1 y2 y3 y4 y5 y6
            subst t2
            clear hF t1
            go_wp2_with (at_builtin; refine append_ph_at rfl _ _ rfl (w1.heap.size + 1) _ _ D HOW.out ⟨2, fl, off, va, fs, ms, al⟩ rfl _ rfl rfl (by have := HLN.out; omega) HP.out.size ?_)
            intro v' w3 q1 q2 q3
            have HP3 := hide (HP.out.appD q1 q2 q3)
            have HL3 : Hid (L.length ≤ i + 1 ∧ (D ++ [(⟨2, fl, off, va, fs, ms, al⟩ : Ph)]).length ≤ i + 1 ∧ R.length ≤ i + 1) := by have := HLN.out; rw [Hid, List.length_append]; simp; omega
            have HD3 : Hid ((∀ p ∈ D ++ [(⟨2, fl, off, va, fs, ms, al⟩ : Ph)], p.ok) ∧ ∀ p ∈ R, p.ok) := ⟨fun p hp => by
              rcases List.mem_append.1 hp with hp | hp
              · exact HDO.out.1 p hp
              · rw [List.mem_singleton.1 hp]; exact hokp, HDO.out.2⟩
            clear q1 q2 q3 HOW y0 y1 y2 y3 y4 y5 y6
            go_wp2
            go_roundw
            case rel => exact ⟨i + 1, E, vL, L, _, R, by omega, by go_num, rfl, hE, HP3, HL3, HLO, HD3, HF⟩
            case measure => simp [intOf]; omega
          · by_cases t3 : p.type = 1685382482
            · rw [goOn_rel _ _ _ _ _ _ _ _ t3] at hF
              have HF := hide hF
              have HOW := hide HP.out.r
              obtain ⟨ty, fl, off, va, fs, ms, al⟩ := p
              simp only at t3 y0 y1 y2 y3 y4 y5 y6
              subst t3
              clear hF t1 t2
              go_wp2_with (at_builtin; refine append_ph_at rfl _ _ rfl (w1.heap.size + 1) _ _ R HOW.out ⟨1685382482, fl, off, va, fs, ms, al⟩ rfl _ rfl rfl (by have := HLN.out; omega) HP.out.size ?_)
              intro v' w3 q1 q2 q3
              have HP3 := hide (HP.out.appR q1 q2 q3)
              have HL3 : Hid (L.length ≤ i + 1 ∧ D.length ≤ i + 1 ∧ (R ++ [(⟨1685382482, fl, off, va, fs, ms, al⟩ : Ph)]).length ≤ i + 1) := by have := HLN.out; rw [Hid, List.length_append]; simp; omega
              have HD3 : Hid ((∀ p ∈ D, p.ok) ∧ ∀ p ∈ R ++ [(⟨1685382482, fl, off, va, fs, ms, al⟩ : Ph)], p.ok) := ⟨HDO.out.1, fun p hp => by
                rcases List.mem_append.1 hp with hp | hp
                · exact HDO.out.2 p hp
                · rw [List.mem_singleton.1 hp]; exact hokp⟩
              clear q1 q2 q3 HOW y0 y1 y2 y3 y4 y5 y6
              go_wp2
              go_roundw
              case rel => exact ⟨i + 1, E, vL, L, D, _, by omega, by go_num, rfl, hE, HP3, HL3, HLO, HD3, HF⟩
              case measure => simp [intOf]; omega
            · rw [goOn_other _ _ _ _ _ _ _ _ t1 t2 t3] at hF
              have HF := hide hF
              obtain ⟨ty, fl, off, va, fs, ms, al⟩ := p
              simp only at t1 t2 t3 y0 y1 y2 y3 y4 y5 y6
              have d1 : ((ty : Int) == 1) = false := by simp; omega
              have d2 : ((ty : Int) == 2) = false := by simp; omega
              have d3 : ((ty : Int) == 1685382482) = false := by simp; omega
              have HL3 : Hid (L.length ≤ i + 1 ∧ D.length ≤ i + 1 ∧ R.length ≤ i + 1) := by have := HLN.out; rw [Hid]; omega
              clear hF t1 t2 t3
              go_wp2
              go_roundw
              case rel => exact ⟨i + 1, E, vL, L, D, R, by omega, by go_num, rfl, hE, HP, HL3, HLO, HDO, HF⟩
              case measure => simp [intOf]; omega
      · as_aux_lemma =>
          have hltI : ¬ (i : Int) < (all.length : Int) := by omega
          have he : i = all.length := by omega
          subst he
          have hF := HF.out
          rw [List.drop_length, goOn_end] at hF
          obtain ⟨aL, cL, rfl⟩ := (HP.out.l.arg (Nat.le_trans HLN.out.1 (by omega))).form
          have z1 := HP.out.cell1
          obtain ⟨aD, cD, rfl⟩ := (HP.out.d.arg (Nat.le_trans HLN.out.2.1 (by omega))).form
          obtain ⟨aR, cR, rfl⟩ := (HP.out.r.arg (Nat.le_trans HLN.out.2.2 (by omega))).form
          have HLN2 : Hid (L.length ≤ 16 ∧ D.length ≤ 16 ∧ R.length ≤ 16) := by have := HLN.out; rw [Hid]; omega
          have HLL2 : Hid (L.length ≤ 65536) := by have := HLN2.out; rw [Hid]; omega
          clear HF hi hE hmI hmJ HLN
          by_cases cl : L = []
          · rw [if_pos cl] at hF
            have HF := hide hF
            subst cl
            simp only [List.length_nil] at *
            clear hF
            have HGz := hide (block_stay HG1.out HP.out.bel)
            have HBz := hide (HB1.out.trans (Below.mono HP.out.bel HB1.out.size))
            go_wp2_with ((with_reducible refine at_store ?_); refine store_part rfl _ _ _ rfl w.heap.size 0 37 _ zeroHd zeroHd.toArray HGz.out rfl rfl hd_size (hd_one _ _ _ _ _ _) (by decide) (by rfl) ?_)
            intro wz hgz hbz
            have HBy := hide (grown_below (Nat.le_refl _) HBz.out hbz)
            have HGy := hide hgz
            clear hgz hbz
            go_wp2
            (try simp only [Exit.inBlock, Exit.then])
            refine bodyPost_ret (results_cell2 rfl _ _ w.heap.size _ _ _ _ rfl HGy.out Try.underlying37 rfl (by kernel_rfl)) rfl ?_
            exact ⟨by rw [← HF.out]; rfl, HBy.out⟩
          rw [if_neg cl] at hF
          have hlb : ((L.length : Int) == 0) = false := by
            cases L with
            | nil => exact absurd rfl cl
            | cons x y => simp; omega
          have HF0 := hide hF
          clear hF cl hlen
          by_cases cd : D.length = 1
          rotate_left
          · have bd : ((D.length : Int) != 1) = true := by simp; omega
            have HF : Hid (Except.error 86 = O) := by
              rw [Hid, ← HF0.out]
              match D, cd with
              | [], _ => rfl
              | [x], cd => exact absurd rfl cd
              | _ :: _ :: _, _ => rfl
            clear cd HF0
            have HGz := hide (block_stay HG1.out HP.out.bel)
            have HBz := hide (HB1.out.trans (Below.mono HP.out.bel HB1.out.size))
            go_wp2_with ((with_reducible refine at_store ?_); refine store_part rfl _ _ _ rfl w.heap.size 0 37 _ zeroHd zeroHd.toArray HGz.out rfl rfl hd_size (hd_one _ _ _ _ _ _) (by decide) (by rfl) ?_)
            intro wz hgz hbz
            have HBy := hide (grown_below (Nat.le_refl _) HBz.out hbz)
            have HGy := hide hgz
            clear hgz hbz
            go_wp2
            (try simp only [Exit.inBlock, Exit.then])
            refine bodyPost_ret (results_cell2 rfl _ _ w.heap.size _ _ _ _ rfl HGy.out Try.underlying37 rfl (by kernel_rfl)) rfl ?_
            exact ⟨by rw [← HF.out]; rfl, HBy.out⟩
          obtain ⟨d0, rfl⟩ : ∃ d0, D = [d0] := List.length_eq_one_iff.1 cd
          clear cd
          have hokd := HDO.out.1 d0 (by simp)
          have hD := HP.out.d.arg (by simp)
          simp only [List.length_cons, List.length_nil, Nat.zero_add] at hD
          obtain ⟨gD, rfl, hcD1, hcD2, hgD, y0, y1, y2, y3, y4, y5, y6⟩ := hD.at 0 (by simp)
          simp only [List.getElem_cons_zero, Nat.zero_mul, Nat.zero_add] at y0 y1 y2 y3 y4 y5 y6
          have hva := hokd.vaddr
          have hfs := hokd.filesz
          have HOF := hide (fun W (hW : ArgH W (.slice aL L.length cL) L) => ref8_OffW W m (.slice aL L.length cL) d0 noPh L hW (fun p hp => (HLO.out p hp).1) (fun p hp => by have := (HLO.out p hp).2.1; omega) d0.vaddr d0.filesz hva hfs)
          have hF := HF0.out
          unfold heads1 at hF
          simp only [dynOk] at hF
          obtain ⟨⟨o1, ob⟩, hoo⟩ : ∃ oo, offN L d0.vaddr d0.filesz = oo := ⟨_, rfl⟩
          simp only [hoo] at HOF hF
          clear hoo
          clear HF0 hD hokd
          obtain ⟨ty, fl, off, va, fs, ms, al⟩ := d0
          simp only [List.length_cons, List.length_nil, Nat.zero_add, offV] at *
          by_cases cf : fs = 0
          · subst cf
            have HF : Hid (Except.error 86 = O) := by rw [Hid, ← hF]; simp
            clear hF
            have HGz := hide (block_stay HG1.out HP.out.bel)
            have HBz := hide (HB1.out.trans (Below.mono HP.out.bel HB1.out.size))
            go_wp2_with ((with_reducible refine at_store ?_); refine store_part rfl _ _ _ rfl w.heap.size 0 37 _ zeroHd zeroHd.toArray HGz.out rfl rfl hd_size (hd_one _ _ _ _ _ _) (by decide) (by rfl) ?_)
            intro wz hgz hbz
            have HBy := hide (grown_below (Nat.le_refl _) HBz.out hbz)
            have HGy := hide hgz
            clear hgz hbz
            go_wp2
            (try simp only [Exit.inBlock, Exit.then])
            refine bodyPost_ret (results_cell2 rfl _ _ w.heap.size _ _ _ _ rfl HGy.out Try.underlying37 rfl (by kernel_rfl)) rfl ?_
            exact ⟨by rw [← HF.out]; rfl, HBy.out⟩
          have df : ((fs : Int) == 0) = false := by simp; omega
          by_cases cv : va % 8 = 0
          rotate_left
          · have dv : ((va : Int) % 8 != 0) = true := by simp; omega
            have HF : Hid (Except.error 86 = O) := by rw [Hid, ← hF]; simp [cv]
            clear hF cv cf
            have HGz := hide (block_stay HG1.out HP.out.bel)
            have HBz := hide (HB1.out.trans (Below.mono HP.out.bel HB1.out.size))
            go_wp2_with ((with_reducible refine at_store ?_); refine store_part rfl _ _ _ rfl w.heap.size 0 37 _ zeroHd zeroHd.toArray HGz.out rfl rfl hd_size (hd_one _ _ _ _ _ _) (by decide) (by rfl) ?_)
            intro wz hgz hbz
            have HBy := hide (grown_below (Nat.le_refl _) HBz.out hbz)
            have HGy := hide hgz
            clear hgz hbz
            go_wp2
            (try simp only [Exit.inBlock, Exit.then])
            refine bodyPost_ret (results_cell2 rfl _ _ w.heap.size _ _ _ _ rfl HGy.out Try.underlying37 rfl (by kernel_rfl)) rfl ?_
            exact ⟨by rw [← HF.out]; rfl, HBy.out⟩
          have dv : ((va : Int) % 8 != 0) = false := by simp; omega
          rw [decide_eq_false cf, decide_eq_true cv] at hF
          simp only [Bool.not_false, Bool.and_true] at hF
          have HF0 := hide hF
          clear hF cv cf
          go_wp2_with ((with_reducible refine at_store ?_); refine store_part rfl _ _ _ rfl w1.heap.size 2 37 _ (Ph.cells ⟨ty, fl, off, va, fs, ms, al⟩) (hdCells m (.slice aL L.length cL) ⟨ty, fl, off, va, fs, ms, al⟩ noPh).toArray HP.out.hd rfl rfl ph_size (Ph.one _) (by simp [Ph.cells, hdCells]) (by rfl) ?_)
          intro w7 hg7 hb7
          obtain ⟨p1, p2, p3, p4⟩ := HP.out.put hb7
          have HC := hide p1
          have HOL := hide p2
          have HOR := hide p4
          have HH := hide hg7
          clear p1 p2 p3 p4 hg7 hb7 y0 y1 y2 y3 y4 y5 y6 z1 HP hlb df dv
          have u5 : w7.cell? ⟨w1.heap.size, 5, none⟩ = some (.int .u64 va) := cells_of_block HH.out 5 _ rfl
          have u6 : w7.cell? ⟨w1.heap.size, 6, none⟩ = some (.int .u64 fs) := cells_of_block HH.out 6 _ rfl
          have hOf := HOF.out w7 (HOL.out.arg (by have := HLN2.out; omega))
          simp only [hdCells, noPh] at hOf
          go_wp2_with ((with_reducible refine at_load ?_); refine load_row rfl _ _ rfl w1.heap.size _ (load_hd HH.out rfl) rfl ?_)
          refine hOf.mono ?_
          rintro e w8 ⟨rfl, hb8⟩
          have HC8 : Hid (Below w1.heap.size w1 w8) := HC.out.trans (hb8.mono HC.out.size)
          have HOL8 := hide (HOL.out.stay hb8)
          have HOR8 := hide (HOR.out.stay hb8)
          have HH8 := hide (block_stay HH.out hb8)
          clear HC HOL HOR HH hOf hb8 HOF u5 u6
          have HC := HC8
          have HOL := HOL8
          have HOR := HOR8
          have HH := HH8
          clear HC8 HOL8 HOR8 HH8
          cases ob with
          | false =>
            have hF := HF0.out
            rw [if_neg (by simp)] at hF
            have HF := hide hF
            clear hF HF0
            have HGz := hide (block_stay HG1.out HC.out)
            have HBz := hide (HB1.out.trans (Below.mono HC.out HB1.out.size))
            go_wp2_with ((with_reducible refine at_store ?_); refine store_part rfl _ _ _ rfl w.heap.size 0 37 _ zeroHd zeroHd.toArray HGz.out rfl rfl hd_size (hd_one _ _ _ _ _ _) (by decide) (by rfl) ?_)
            intro wz hgz hbz
            have HBy := hide (grown_below (Nat.le_refl _) HBz.out hbz)
            have HGy := hide hgz
            clear hgz hbz
            go_wp2
            (try simp only [Exit.inBlock, Exit.then])
            refine bodyPost_ret (results_cell2 rfl _ _ w.heap.size _ _ _ _ rfl HGy.out Try.underlying37 rfl (by kernel_rfl)) rfl ?_
            exact ⟨by rw [← HF.out]; rfl, HBy.out⟩
          | true =>
            have hF := HF0.out
            rw [if_pos rfl] at hF
            clear HF0
            cases R with
            | nil =>
              have HF : Hid (Except.ok ⟨m, L, ⟨ty, fl, off, va, fs, ms, al⟩, noPh⟩ = O) := hF
              simp only [List.length_nil] at *
              clear hF
              have HGz := hide (block_stay HG1.out HC.out)
              have HBz := hide (HB1.out.trans (HC.out.mono HB1.out.size))
              go_wp2_with (first
                | ((with_reducible refine at_load ?_); refine load_row rfl _ _ rfl w1.heap.size _ (load_hd HH.out rfl) rfl ?_)
                | ((with_reducible refine at_store ?_); refine store_part rfl _ _ _ rfl w.heap.size 0 37 _ (hdCells m (.slice aL L.length cL) ⟨ty, fl, off, va, fs, ms, al⟩ noPh) (hdCells m (.slice aL L.length cL) ⟨ty, fl, off, va, fs, ms, al⟩ noPh).toArray HGz.out rfl rfl hd_size (hd_one _ _ _ _ _ _) (by simp [hdCells]) (by rfl) ?_))
              intro wz hgz hbz
              have HBy := hide (grown_below (Nat.le_refl _) HBz.out hbz)
              have HGy := hide hgz
              have HLy : Hid (OwnH wz w.heap.size (.slice aL L.length cL) L) := (HOL.out.grown hbz (by have := HS.out; omega)).low (by have := HS.out; omega)
              clear hgz hbz
              go_wp2
              (try simp only [Exit.inBlock, Exit.then])
              refine bodyPost_ret (results_cell2 rfl _ _ w.heap.size _ _ _ _ rfl HGy.out Try.underlying37 rfl (by kernel_rfl)) rfl ?_
              exact ⟨by rw [← HF.out]; exact ⟨_, rfl, HLy.out⟩, HBy.out⟩
            | cons r0 tl =>
              as_aux_lemma =>
                have hokr := HDO.out.2 r0 (by simp)
                have hRl : (r0 :: tl).length ≤ 16 := HLN2.out.2.2
                have hR := HOR.out.arg (by omega)
                obtain ⟨gR, rfl, hcR1, hcR2, hgR, y0, y1, y2, y3, y4, y5, y6⟩ := hR.at 0 (by simp)
                simp only [List.getElem_cons_zero, Nat.zero_mul, Nat.zero_add] at y0 y1 y2 y3 y4 y5 y6
                have hva2 := hokr.vaddr
                have hms2 := hokr.memsz
                have HHo := hide (fun W (hW : ArgH W (.slice aL L.length cL) L) => ref8_Holder W m (.slice aL L.length cL) ⟨ty, fl, off, va, fs, ms, al⟩ r0 L hW (fun p hp => (HLO.out p hp).1) (fun p hp => by have := (HLO.out p hp).2.2; omega) r0.vaddr r0.memsz hva2 hms2)
                have HHI := hide (holdI_is r0 L 0)
                have HF0 := hide hF
                clear hF hR hokr HLO
                obtain ⟨k, hkk⟩ : ∃ k, holdI r0.vaddr r0.memsz L 0 = k := ⟨_, rfl⟩
                rw [hkk] at HHo HHI
                have hb1 : (((r0 :: tl).length : Int) == 0) = false := by simp; omega
                have htl : tl.length ≤ 15 := by simp at hRl; omega
                have HRo : Hid (relroOk L r0 = (!decide (r0.memsz = 0) && decide (r0.vaddr % 256 = 0) && holdW L r0)) := rfl
                have HRN : Hid (∀ x y, heads2 m L ⟨ty, fl, off, va, fs, ms, al⟩ (r0 :: x :: y) = .error 87) := fun _ _ => rfl
                have HR1 : Hid (heads2 m L ⟨ty, fl, off, va, fs, ms, al⟩ [r0] = if relroOk L r0 then .ok ⟨m, L, ⟨ty, fl, off, va, fs, ms, al⟩, r0⟩ else .error 87) := rfl
                clear hkk
                generalize holdW L r0 = hw at *
                generalize relroOk L r0 = ro at *
                obtain ⟨rty, rfl', roff, rva, rfs, rms, ral⟩ := r0
                simp only at y0 y1 y2 y3 y4 y5 y6 hva2 hms2 HHo HRo HHI
                generalize hN : ((⟨rty, rfl', roff, rva, rfs, rms, ral⟩ : Ph) :: tl).length = N at *
                have hN2 : N = tl.length + 1 := by rw [← hN]; simp
                have HN2 := hide hN2
                have hNI : (N : Int) ≤ 16 := by omega
                have hN0 : (0 : Int) < (N : Int) := by omega
                clear hN hN2 htl hltI hlt hcR1 hRl HLN2 HDO
                go_wp2_with ((with_reducible refine at_store ?_); refine store_part rfl _ _ _ rfl w1.heap.size 9 37 _ (Ph.cells ⟨rty, rfl', roff, rva, rfs, rms, ral⟩) (hdCells m (.slice aL L.length cL) ⟨ty, fl, off, va, fs, ms, al⟩ ⟨rty, rfl', roff, rva, rfs, rms, ral⟩).toArray HH.out rfl rfl ph_size (Ph.one _) (by simp [Ph.cells, hdCells]) (by rfl) ?_)
                intro w9 hg9 hb9
                have HC9 := hide (grown_below (Nat.le_refl _) HC.out hb9)
                have HOL9 := hide (HOL.out.apart hb9 (fun q hq e => by injection e with e; have := (HOL.out.lt q hq).1; omega))
                have HH9 := hide hg9
                clear hg9 hb9 HC HOL HOR HH y0 y1 y2 y3 y4 y5 y6
                have HC := HC9
                have HOL := HOL9
                have HH := HH9
                clear HC9 HOL9 HH9
                have u12 : w9.cell? ⟨w1.heap.size, 12, none⟩ = some (.int .u64 rva) := cells_of_block HH.out 12 _ rfl
                have u14 : w9.cell? ⟨w1.heap.size, 14, none⟩ = some (.int .u64 rms) := cells_of_block HH.out 14 _ rfl
                have hLl : Hid (L.length ≤ 65536) := HLL2
                have hHo := HHo.out w9 (HOL.out.arg hLl.out)
                simp only [hdCells] at hHo
                go_wp2_with ((with_reducible refine at_load ?_); refine load_row rfl _ _ rfl w1.heap.size _ (load_hd HH.out rfl) rfl ?_)
                refine hHo.mono ?_
                rintro e w10 ⟨rfl, hb10⟩
                have HC10 : Hid (Below w1.heap.size w1 w10) := HC.out.trans (hb10.mono HC.out.size)
                have HOL10 := hide (HOL.out.stay hb10)
                have HH10 := hide (block_stay HH.out hb10)
                clear HC HOL HH hHo hb10 HHo u12 u14
                have HC := HC10
                have HOL := HOL10
                have HH := HH10
                clear HC10 HOL10 HH10
                have u1 : w10.cell? ⟨w1.heap.size, 1, none⟩ = some (.slice aL L.length cL) := cells_of_block HH.out 1 _ rfl
                have u12 : w10.cell? ⟨w1.heap.size, 12, none⟩ = some (.int .u64 rva) := cells_of_block HH.out 12 _ rfl
                have u14 : w10.cell? ⟨w1.heap.size, 14, none⟩ = some (.int .u64 rms) := cells_of_block HH.out 14 _ rfl
                cases tl with
                | cons r1 t2 =>
                  have hF := HF0.out
                  rw [HRN.out] at hF
                  have HF := hide hF
                  have hN3 : 2 ≤ N := by have := HN2.out; simp at this; omega
                  have n1 : (1 : Int) < (N : Int) := by omega
                  clear hF HF0 hN3
                  have HGz := hide (block_stay HG1.out HC.out)
                  have HBz := hide (HB1.out.trans (Below.mono HC.out HB1.out.size))
                  go_wp2_with ((with_reducible refine at_store ?_); refine store_part rfl _ _ _ rfl w.heap.size 0 37 _ zeroHd zeroHd.toArray HGz.out rfl rfl hd_size (hd_one _ _ _ _ _ _) (by decide) (by rfl) ?_)
                  intro wz hgz hbz
                  have HBy := hide (grown_below (Nat.le_refl _) HBz.out hbz)
                  have HGy := hide hgz
                  clear hgz hbz
                  go_wp2
                  (try simp only [Exit.inBlock, Exit.then])
                  refine bodyPost_ret (results_cell2 rfl _ _ w.heap.size _ _ _ _ rfl HGy.out Try.underlying37 rfl (by kernel_rfl)) rfl ?_
                  exact ⟨by rw [← HF.out]; rfl, HBy.out⟩
                | nil =>
                  have hF := HF0.out
                  rw [HR1.out] at hF
                  have hN3 : N = 1 := HN2.out
                  subst hN3
                  clear HF0 HN2
                  by_cases cm : rms = 0
                  · subst cm
                    have er : ro = false := by rw [HRo.out]; simp
                    rw [er, if_neg (by simp)] at hF
                    have HF := hide hF
                    clear hF er
                    have HGz := hide (block_stay HG1.out HC.out)
                    have HBz := hide (HB1.out.trans (Below.mono HC.out HB1.out.size))
                    go_wp2_with ((with_reducible refine at_store ?_); refine store_part rfl _ _ _ rfl w.heap.size 0 37 _ zeroHd zeroHd.toArray HGz.out rfl rfl hd_size (hd_one _ _ _ _ _ _) (by decide) (by rfl) ?_)
                    intro wz hgz hbz
                    have HBy := hide (grown_below (Nat.le_refl _) HBz.out hbz)
                    have HGy := hide hgz
                    clear hgz hbz
                    go_wp2
                    (try simp only [Exit.inBlock, Exit.then])
                    refine bodyPost_ret (results_cell2 rfl _ _ w.heap.size _ _ _ _ rfl HGy.out Try.underlying37 rfl (by kernel_rfl)) rfl ?_
                    exact ⟨by rw [← HF.out]; rfl, HBy.out⟩
                  have dm : ((rms : Int) == 0) = false := by simp; omega
                  by_cases cv : rva % 256 = 0
                  rotate_left
                  · have dv : ((rva : Int) % 256 != 0) = true := by simp; omega
                    have er : ro = false := by rw [HRo.out]; simp [cv]
                    rw [er, if_neg (by simp)] at hF
                    have HF := hide hF
                    clear hF er cm cv
                    have HGz := hide (block_stay HG1.out HC.out)
                    have HBz := hide (HB1.out.trans (Below.mono HC.out HB1.out.size))
                    go_wp2_with ((with_reducible refine at_store ?_); refine store_part rfl _ _ _ rfl w.heap.size 0 37 _ zeroHd zeroHd.toArray HGz.out rfl rfl hd_size (hd_one _ _ _ _ _ _) (by decide) (by rfl) ?_)
                    intro wz hgz hbz
                    have HBy := hide (grown_below (Nat.le_refl _) HBz.out hbz)
                    have HGy := hide hgz
                    clear hgz hbz
                    go_wp2
                    (try simp only [Exit.inBlock, Exit.then])
                    refine bodyPost_ret (results_cell2 rfl _ _ w.heap.size _ _ _ _ rfl HGy.out Try.underlying37 rfl (by kernel_rfl)) rfl ?_
                    exact ⟨by rw [← HF.out]; rfl, HBy.out⟩
                  have dv : ((rva : Int) % 256 != 0) = false := by simp; omega
                  have er : ro = hw := by rw [HRo.out, decide_eq_false cm, decide_eq_true cv]; simp
                  rw [er] at hF
                  clear cm cv
                  rcases HHI.out with ⟨hk1, hk2⟩ | ⟨j, hj, hk1, hk2⟩
                  · rw [hk2, if_neg (by simp)] at hF
                    have HF := hide hF
                    subst hk1
                    clear hF er hk2
                    have HGz := hide (block_stay HG1.out HC.out)
                    have HBz := hide (HB1.out.trans (Below.mono HC.out HB1.out.size))
                    go_wp2_with ((with_reducible refine at_store ?_); refine store_part rfl _ _ _ rfl w.heap.size 0 37 _ zeroHd zeroHd.toArray HGz.out rfl rfl hd_size (hd_one _ _ _ _ _ _) (by decide) (by rfl) ?_)
                    intro wz hgz hbz
                    have HBy := hide (grown_below (Nat.le_refl _) HBz.out hbz)
                    have HGy := hide hgz
                    clear hgz hbz
                    go_wp2
                    (try simp only [Exit.inBlock, Exit.then])
                    refine bodyPost_ret (results_cell2 rfl _ _ w.heap.size _ _ _ _ rfl HGy.out Try.underlying37 rfl (by kernel_rfl)) rfl ?_
                    exact ⟨by rw [← HF.out]; rfl, HBy.out⟩
                  · have hjj : k = (j : Int) := by rw [hk1]; simp
                    subst hjj
                    obtain ⟨gL, rfl, hcL1, hcL2, hgL, x0, x1, x2, x3, x4, x5, x6⟩ := (HOL.out.arg hLl.out).at j hj
                    have hjI : (j : Int) < (L.length : Int) := by omega
                    have hj0 : decide ((j : Int) < 0) = false := decide_eq_false (by omega)
                    generalize L[j].flags = fj at *
                    have dfj : ((fj : Int) / 2 % 2 == 0) = !decide (fj / 2 % 2 = 1) := by
                      by_cases c : fj / 2 % 2 = 1
                      · rw [decide_eq_true c]; simp; omega
                      · rw [decide_eq_false c]; simp; omega
                    rw [← hk2] at dfj
                    clear x0 x2 x3 x4 x5 x6 hk1 hk2 er HHI
                    cases hw with
                    | false =>
                      rw [if_neg (by simp)] at hF
                      have HF := hide hF
                      clear hF
                      have HGz := hide (block_stay HG1.out HC.out)
                      have HBz := hide (HB1.out.trans (Below.mono HC.out HB1.out.size))
                      go_wp2_with ((with_reducible refine at_store ?_); refine store_part rfl _ _ _ rfl w.heap.size 0 37 _ zeroHd zeroHd.toArray HGz.out rfl rfl hd_size (hd_one _ _ _ _ _ _) (by decide) (by rfl) ?_)
                      intro wz hgz hbz
                      have HBy := hide (grown_below (Nat.le_refl _) HBz.out hbz)
                      have HGy := hide hgz
                      clear hgz hbz
                      go_wp2
                      (try simp only [Exit.inBlock, Exit.then])
                      refine bodyPost_ret (results_cell2 rfl _ _ w.heap.size _ _ _ _ rfl HGy.out Try.underlying37 rfl (by kernel_rfl)) rfl ?_
                      exact ⟨by rw [← HF.out]; rfl, HBy.out⟩
                    | true =>
                      rw [if_pos rfl] at hF
                      have HF := hide hF
                      clear hF
                      have HGz := hide (block_stay HG1.out HC.out)
                      have HBz := hide (HB1.out.trans (HC.out.mono HB1.out.size))
                      go_wp2_with (first
                        | ((with_reducible refine at_load ?_); refine load_row rfl _ _ rfl w1.heap.size _ (load_hd HH.out rfl) rfl ?_)
                        | ((with_reducible refine at_store ?_); refine store_part rfl _ _ _ rfl w.heap.size 0 37 _ (hdCells m (.slice (some ⟨gL, 0, none⟩) L.length cL) ⟨ty, fl, off, va, fs, ms, al⟩ ⟨rty, rfl', roff, rva, rfs, rms, ral⟩) (hdCells m (.slice (some ⟨gL, 0, none⟩) L.length cL) ⟨ty, fl, off, va, fs, ms, al⟩ ⟨rty, rfl', roff, rva, rfs, rms, ral⟩).toArray HGz.out rfl rfl hd_size (hd_one _ _ _ _ _ _) (by simp [hdCells]) (by rfl) ?_))
                      intro wz hgz hbz
                      have HBy := hide (grown_below (Nat.le_refl _) HBz.out hbz)
                      have HGy := hide hgz
                      have HLy : Hid (OwnH wz w.heap.size (.slice (some ⟨gL, 0, none⟩) L.length cL) L) := (HOL.out.grown hbz (by have := HS.out; omega)).low (by have := HS.out; omega)
                      clear hgz hbz
                      go_wp2
                      (try simp only [Exit.inBlock, Exit.then])
                      refine bodyPost_ret (results_cell2 rfl _ _ w.heap.size _ _ _ _ rfl HGy.out Try.underlying37 rfl (by kernel_rfl)) rfl ?_
                      exact ⟨by rw [← HF.out]; exact ⟨_, rfl, HLy.out⟩, HBy.out⟩
end Go.Proofs.Ytgpjfcnlhlkblaa
