
/-
  Layer 14 (aps), the program: takeRel keeps its contract (the next relocation of a group, with what the group leaves to it).
-/
import Derived.Test.YtiicmakeoidiaaaApB
set_option linter.unusedVariables false
namespace Go.Proofs.Ytiicmakeoidiaaa
open Go.RowKit Go.PlainAid
/-- One more relocation, as a step of a drawn region: where its cells lie is a premise. -/
theorem step_append_rl {ops : Array Oper} {o : Oper} {a : Act} {W : World} {K : Act → World → Prop} {Q : Exit → Act → World → Prop} {E : Prop} (hgd : o.guard = none) (s x : Operand)
    (ho : o.op = .call { callee := .builtin .append, args := #[s, x], argTypes := #[41, 41] })
    (B : Nat) (v : Value) (l : List Rl) (hown : OwnR W B v l) (e : Rl) (hs : a.eval s = v) (q : Nat) (hx : a.eval x = .slice (some ⟨q, 0, none⟩) 1 1) (hq : ∀ j u, e.cells[j]? = some u → W.cell? ⟨q, j, none⟩ = some u) (hlen : l.length ≤ 100000) (hB : B ≤ W.heap.size)
    (h : ∀ v' w', OwnR w' B v' (l ++ [e]) → W.grownBy w' v.ownBlock → (v'.ownBlock = v.ownBlock ∨ v'.ownBlock = some W.heap.size) → K (a.put o.dst v') w') :
    if Region.wanted o (yielded ops a.tmps) = true then Oper.wp Try.prog o a W K Q else E := by
  have hw : Region.wanted o (yielded ops a.tmps) = true := by simp [Region.wanted, hgd]
  rw [if_pos hw]
  obtain ⟨i, hi, hz0, hz1, hz2⟩ := info_parts info_rl
  obtain ⟨v', w', hr, h2, h3, h4, h5⟩ := run_append_own_at (P := Try.prog) W B 41 o.type 59 i _ 5 32 Try.underlying41 hi hz0 hz1 hz2 rfl (by decide) v l.length (flatR l) hown ⟨q, 0, none⟩ 1 1 e.cells rfl
    (fun j u hj => by rw [add_at, Nat.zero_add]; exact hq j u hj) e.one (by unfold maxLen; omega) (by omega) hB
  unfold Oper.wp execOp
  simp only [ho, resolve, invoke, builtin, Sem.run_bind, Sem.run_pure, Result.andThen_ok, List.map_toArray, List.map_cons, List.map_nil, hs, hx, hr]
  refine h v' w' ?_ h3 h5
  unfold OwnR
  rw [List.length_append, flatR_app]
  simpa [flatR] using h2
theorem new_rl (w : World) (e : Rl) : ∀ j u, e.cells[j]? = some u → (w.alloc (.cells e.cells.toArray 59)).cell? ⟨w.heap.size, j, none⟩ = some u := by
  intro j u hj
  rw [cells_of_block (heap_alloc_new w _) j u (by simpa using hj)]
/-- Behind the append and the store of the new row. -/
theorem rel_fin {w W W1 W6 : World} {B T R : Nat} {v0 v v6 : Value} {s s' : Ts} {rela fine : Bool} {G : Nat} {m f st inf : Int} (h : Tq w W B T R v0 v s rela fine G m f st inf) (hb : Below W.heap.size W W1)
    (o6 : OwnR W6 (T + 1) v6 s'.out) (g6 : W1.grownBy W6 v.ownBlock) (x6 : v6.ownBlock = v.ownBlock ∨ v6.ownBlock = some W1.heap.size) (e1 : s'.N = s.N) (e2 : s'.bad = s.bad) (e3 : s'.pl = s.pl) (e4 : s'.add = s.add) :
    Td (W6.setCell ⟨T, 2, none⟩ v6) B T R v6 s' rela fine ∧ Fp w (W6.setCell ⟨T, 2, none⟩ v6) R T v0 v6 := by
  have hT := h.td.size
  have hlt := h.td.lt
  have hfar := fun k (hk : v.ownBlock = some k) => h.td.far hk
  have ho : ∀ k, k ≠ T → (W6.setCell ⟨T, 2, none⟩ v6).heap[k]? = W6.heap[k]? := fun k hk => set_bother _ _ _ _ _ hk
  have h6 : ∀ k, k < W.heap.size → v.ownBlock ≠ some k → W6.heap[k]? = W.heap[k]? := fun k hk hne => by
    rw [g6.block k (Nat.lt_of_lt_of_le hk hb.size) (fun e => hne e.symm), hb.block k hk]
  have hne6 : ∀ k, v6.ownBlock = some k → T < k := by
    intro k hk
    have := (o6.base k hk).1
    omega
  refine ⟨⟨?_, ?_, ?_, h.td.lo, h.td.lt⟩, ?_⟩
  · have e := h6 T hT (fun e => by have := (hfar T e).1; omega)
    rw [h.td.block] at e
    rw [set_bk _ _ _ _ _ _ _ e, e3, e4]; rfl
  · rw [e1, e2]
    refine h.td.rd.move (by simp; exact Nat.le_trans hb.size g6.size) (fun k hk => ?_)
    rw [ho k (by omega), h6 k (by omega) (fun e => by have := (hfar k e).1; omega)]
  · exact o6.move (fun k hk => ho k (by have := hne6 k hk; omega))
  · have hf := h.fp
    refine hf.trans ⟨?_, ?_, ?_, ?_, fun k hk k1 k2 k3 => ?_, fun k hk => ?_⟩
    · exact g6.os.trans hb.os
    · exact g6.tape.trans hb.tape
    · exact g6.output.trans hb.output
    · simp; exact Nat.le_trans hb.size g6.size
    · rw [ho k k2, h6 k hk k3]
    · rcases x6 with e | e
      · left; rw [← e]; exact hk
      · right; rw [e] at hk; injection hk with hk; have := hb.size; omega
set_option maxHeartbeats 4000000 in
set_option maxRecDepth 20000 in
theorem ap_takeRel (w : World) (B T R : Nat) (v : Value) (s : Ts) (rela fine : Bool) (h : Td w B T R v s rela fine) (m f st inf : Int) (hf0 : 0 ≤ f) (hf1 : f ≤ 15) (hl : s.out.length ≤ 1000) :
    Calls Try.prog 39 #[.pointer (some ⟨T, 0, none⟩), .agg #[.int .i64 m, .int .i64 f, .int .i64 st, .int .i64 inf]] w fun e w' => e = .returned (.tuple #[]) ∧ ∃ v', Td w' B T R v' (relT rela f st inf s) rela fine ∧ Fp w w' R T v v' := by
  have HQ := hide (Tq.start h m f st inf)
  have HH := hide (fun W a b c d k => ap_has W a b c d k)
  have HS := hide (fun W s (hW : Td W B T R v s rela fine) => td_S W B T R v s rela fine hW)
  have HF0 := hide hf0
  have HF1 := hide hf1
  have HRT : Hid (relT rela f st inf s = relD rela (tkN (!fb f 2) st s) (tkN (!fb f 1) inf (tkS (!fb f 2) s)) (tkA (fb f 8 && !fb f 4) (tkS (!fb f 1) (tkS (!fb f 2) s)))) := rfl
  have HL := hide hl
  obtain ⟨b2, hb2⟩ : ∃ b, fb f 2 = b := ⟨_, rfl⟩
  obtain ⟨b1, hb1⟩ : ∃ b, fb f 1 = b := ⟨_, rfl⟩
  obtain ⟨b8, hb8⟩ : ∃ b, fb f 8 = b := ⟨_, rfl⟩
  obtain ⟨b4, hb4⟩ : ∃ b, fb f 4 = b := ⟨_, rfl⟩
  rw [hb1, hb2, hb4, hb8] at HRT
  have H2 : Hid (∀ W a b c, Calls Try.prog 38 #[.agg #[.int .i64 a, .int .i64 f, .int .i64 b, .int .i64 c], .int .i64 2] W fun e w' => e = .returned (.bool b2) ∧ Below W.heap.size W w') := fun W a b c => by rw [← hb2]; exact ap_has W a f b c 2 hf0 hf1 (by simp)
  have H1 : Hid (∀ W a b c, Calls Try.prog 38 #[.agg #[.int .i64 a, .int .i64 f, .int .i64 b, .int .i64 c], .int .i64 1] W fun e w' => e = .returned (.bool b1) ∧ Below W.heap.size W w') := fun W a b c => by rw [← hb1]; exact ap_has W a f b c 1 hf0 hf1 (by simp)
  have H8 : Hid (∀ W a b c, Calls Try.prog 38 #[.agg #[.int .i64 a, .int .i64 f, .int .i64 b, .int .i64 c], .int .i64 8] W fun e w' => e = .returned (.bool b8) ∧ Below W.heap.size W w') := fun W a b c => by rw [← hb8]; exact ap_has W a f b c 8 hf0 hf1 (by simp)
  have H4 : Hid (∀ W a b c, Calls Try.prog 38 #[.agg #[.int .i64 a, .int .i64 f, .int .i64 b, .int .i64 c], .int .i64 4] W fun e w' => e = .returned (.bool b4) ∧ Below W.heap.size W w') := fun W a b c => by rw [← hb4]; exact ap_has W a f b c 4 hf0 hf1 (by simp)
  clear hb1 hb2 hb4 hb8 HH h hf0 hf1 hl
  go_enter Try.func39, Try.ntmps39
  go_wp2_with fail
  refine (H2.out _ _ _ _).mono ?_
  rintro e w1 ⟨rfl, hb⟩
  have HQ1 := hide (HQ.out.below hb)
  clear HQ hb
  go_upto_if 7 with fail
  go_cut [] from 5 (fun wx => Hid (Tq w wx B T R v v (tkS (!b2) s) rela fine w.heap.size m f (tkN (!b2) st s) inf))
  case first =>
    cases b2 with
    | true =>
      go_wp2
      go_meet
      case rel => exact HQ1
    | false =>
      obtain ⟨t0, t1, t2, t3, t4, g0, g1, g2, g3, f2, f3, f4, k2, k3⟩ := HQ1.out.cells
      go_wp2_with fail
      refine (HS.out _ _ HQ1.out.td).mono ?_
      rintro e w2 ⟨rfl, hT, hF⟩
      have HQ2 := hide (HQ1.out.step hT hF)
      clear hT hF t0 t1 t2 t3 t4 g0 g1 g2 g3 f2 f3 f4 k2 k3
      obtain ⟨t0, t1, t2, t3, t4, g0, g1, g2, g3, f2, f3, f4, k2, k3⟩ := HQ2.out.cells
      go_wp2
      go_meet
      case rel => exact HQ2.out.setG 2 _ rfl
  case rest =>
    have HQ1 := hcut
    clear hcut
    obtain ⟨s1, hs1⟩ : ∃ x, tkS (!b2) s = x := ⟨_, rfl⟩
    obtain ⟨n1, hn1⟩ : ∃ x, tkN (!b2) st s = x := ⟨_, rfl⟩
    rw [hs1, hn1] at HQ1 HRT
    have HLS : Hid (s1.out.length ≤ 1000) := by rw [Hid, ← hs1, tkS_out]; exact HL.out
    clear hs1 hn1
    obtain ⟨t0, t1, t2, t3, t4, g0, g1, g2, g3, f2, f3, f4, k2, k3⟩ := HQ1.out.cells
    go_wp2_with fail
    refine (H1.out _ _ _ _).mono ?_
    rintro e w1 ⟨rfl, hb⟩
    have HQ2 := hide (HQ1.out.below hb)
    clear HQ1 hb t0 t1 t2 t3 t4 g0 g1 g2 g3 f2 f3 f4 k2 k3
    go_upto_if 16 with fail
    go_cut [] from 5 (fun wx => Hid (Tq w wx B T R v v (tkS (!b1) s1) rela fine w.heap.size m f n1 (tkN (!b1) inf s1)))
    case first =>
      cases b1 with
      | true =>
        go_wp2
        go_meet
        case rel => exact HQ2
      | false =>
        obtain ⟨t0, t1, t2, t3, t4, g0, g1, g2, g3, f2, f3, f4, k2, k3⟩ := HQ2.out.cells
        go_wp2_with fail
        refine (HS.out _ _ HQ2.out.td).mono ?_
        rintro e w2 ⟨rfl, hT, hF⟩
        have HQ3 := hide (HQ2.out.step hT hF)
        clear hT hF t0 t1 t2 t3 t4 g0 g1 g2 g3 f2 f3 f4 k2 k3
        obtain ⟨t0, t1, t2, t3, t4, g0, g1, g2, g3, f2, f3, f4, k2, k3⟩ := HQ3.out.cells
        go_wp2
        go_meet
        case rel => exact HQ3.out.setG 3 _ rfl
    case rest =>
      have HQ1 := hcut
      clear hcut
      obtain ⟨s2, hs2⟩ : ∃ x, tkS (!b1) s1 = x := ⟨_, rfl⟩
      obtain ⟨n2, hn2⟩ : ∃ x, tkN (!b1) inf s1 = x := ⟨_, rfl⟩
      rw [hs2, hn2] at HQ1 HRT
      have HLT : Hid (s2.out.length ≤ 1000) := by rw [Hid, ← hs2, tkS_out]; exact HLS.out
      clear hs2 hn2
      go_upto_region 5 with fail
      go_cut [29] from 5 (fun v29 wx => v29 = .bool (b8 && !b4) ∧ Hid (Tq w wx B T R v v s2 rela fine w.heap.size m f n1 n2))
      case first =>
        obtain ⟨t0, t1, t2, t3, t4, g0, g1, g2, g3, f2, f3, f4, k2, k3⟩ := HQ1.out.cells
        cases b8 with
        | false =>
          go_wp2_with fail
          refine (H8.out _ _ _ _).mono ?_
          rintro e w1 ⟨rfl, hb⟩
          have HQ2 := hide (HQ1.out.below hb)
          go_wp2
          go_meet
          case rel => exact ⟨rfl, HQ2⟩
        | true =>
          go_wp2_with fail
          refine (H8.out _ _ _ _).mono ?_
          rintro e w1 ⟨rfl, hb⟩
          have HQ2 := hide (HQ1.out.below hb)
          clear HQ1 hb t0 t1 t2 t3 t4 g0 g1 g2 g3 f2 f3 f4 k2 k3
          obtain ⟨t0, t1, t2, t3, t4, g0, g1, g2, g3, f2, f3, f4, k2, k3⟩ := HQ2.out.cells
          go_wp2_with fail
          refine (H4.out _ _ _ _).mono ?_
          rintro e w2 ⟨rfl, hb⟩
          have HQ3 := hide (HQ2.out.below hb)
          go_wp2
          go_meet
          case rel => exact ⟨rfl, HQ3⟩
      case rest =>
        obtain ⟨rfl, HQ1⟩ := hcut
        obtain ⟨b, hb⟩ : ∃ b, (b8 && !b4) = b := ⟨_, rfl⟩
        rw [hb] at HRT ⊢
        clear hb
        go_upto_if 29 with fail
        go_cut [] from 5 (fun wx => Hid (Tq w wx B T R v v (tkA b s2) rela fine w.heap.size m f n1 n2))
        case first =>
          cases b with
          | false =>
            go_wp2
            go_meet
            case rel => exact HQ1
          | true =>
            have HQD := hide (HQ1.out.below ((Below.refl _ _).drew))
            obtain ⟨t0, t1, t2, t3, t4, g0, g1, g2, g3, f2, f3, f4, k2, k3⟩ := HQD.out.cells
            clear HQ1
            go_wp2_with fail
            go_region_law (first | (go_simp; refine (HS.out _ _ HQD.out.td).mono ?_; rintro e w2 ⟨rfl, hT, hF⟩; have HQ2 := hide (HQD.out.step hT hF); obtain ⟨u0, u1, u2, u3, u4, v0, v1, v2, v3, y2, y3, y4, z2, z3⟩ := HQ2.out.cells; clear hT hF))
            all_goals
              go_wp2
              go_meet
              exact HQ2.out.step (HQ2.out.td.setT (s' := tkA true s2) 4 _ (by simp only [i64_w64]; rfl) rfl rfl rfl) (Fp.set _ _ _ _ _ _)
        case rest =>
          have HQ2 := hcut
          clear hcut HQ1
          obtain ⟨s3, hs3⟩ : ∃ x, tkA b s2 = x := ⟨_, rfl⟩
          rw [hs3] at HQ2 HRT
          have HLU : Hid (s3.out.length ≤ 1000) := by rw [Hid, ← hs3, tkA_out]; exact HLT.out
          clear hs3
          go_upto_region 7 with fail
          go_cut [] from 5 (fun wx => Hid (Tq w wx B T R v v (s3.setPl (w64 (s3.pl + n1))) rela fine w.heap.size m f n1 n2))
          case first =>
            have HQD := hide (HQ2.out.below ((Below.refl _ _).drew))
            obtain ⟨t0, t1, t2, t3, t4, g0, g1, g2, g3, f2, f3, f4, k2, k3⟩ := HQD.out.cells
            go_wp2_with fail
            go_region
            all_goals
              go_wp2
              go_meet
              exact Tq.below (wx := wc.setCell ⟨T, 3, none⟩ (.int .i64 (w64 (s3.pl + n1)))) (HQ2.out.step (HQ2.out.td.setT (s' := s3.setPl (w64 (s3.pl + n1))) 3 _ rfl rfl rfl rfl) (Fp.set _ _ _ _ _ _)) ((Below.refl _ _).drew)
          case rest =>
            have HQ3 := hcut
            have HTE : Hid (relT rela f st inf s = ⟨s3.N, s3.bad, w64 (s3.pl + n1), s3.add, s3.out ++ [mkR rela (w64 (s3.pl + n1)) n2 s3.add]⟩) := HRT
            clear hcut HQ2 HRT HS H1 H2 H4 H8 HL HLS HLT HF0 HF1
            obtain ⟨p, hp⟩ : ∃ p, w64 (s3.pl + n1) = p := ⟨_, rfl⟩
            rw [hp] at HQ3 HTE
            clear hp
            have e1 : IntKind.u64.wrap p = ((us p : Nat) : Int) := (us_is p).symm
            have e2 : IntKind.u64.wrap n2 = ((us n2 : Nat) : Int) := (us_is n2).symm
            have HQD := hide (HQ3.out.below ((Below.refl _ _).drew))
            have g3 := HQ3.out.cells.g3
            have HCC := hide HQD.out.cells
            go_wp2_with fail
            obtain ⟨t0, t1, t2, t3, t4, _, _, _, _, f2, f3, f4, _, _⟩ := HCC.out
            have t3' : wc.drew.cell? ⟨T, 3, none⟩ = some (.int .i64 p) := t3
            have t4' : wc.drew.cell? ⟨T, 4, none⟩ = some (.int .i64 s3.add) := t4
            clear t3 t4 g3
            have e3 : IntKind.u32.wrap ((us n2 : Nat) : Int) = ((lowT n2 : Nat) : Int) := by rw [IntKind.wrap_u32]; unfold lowT; omega
            have e4 : ((us n2 : Nat) : Int) / 4294967296 = ((highT n2 : Nat) : Int) := by unfold highT; omega
            have e5 : IntKind.u32.wrap ((highT n2 : Nat) : Int) = ((highT n2 : Nat) : Int) := by have := us_lt n2; rw [IntKind.wrap_u32]; unfold highT; omega
            have HBA : Hid (∀ o, Below wc.drew.heap.size wc.drew (wc.drew.alloc o)) := fun o => (Below.refl _ _).alloc (Nat.le_refl _) _
            have HOW : Hid (∀ o, OwnR (wc.drew.alloc o) (T + 1) v s3.out) := fun o => HQD.out.td.own.stay (HBA.out o)
            have HBS : Hid (∀ o, T + 1 ≤ (wc.drew.alloc o).heap.size) := fun o => by have := HQD.out.td.size; have := (HBA.out o).size; omega
            have HTB : Hid (∀ o, (wc.drew.alloc o).heap[T]? = some (.cells #[.pointer (some ⟨R, 0, none⟩), .bool rela, v, .int .i64 p, .int .i64 s3.add] 70 (0, 0))) := fun o => block_stay HQD.out.td.block (HBA.out o)
            have HNT : Hid (some T ≠ v.ownBlock) := fun e => by have := (HQD.out.td.far e.symm).1; omega
            have HNR := hide (new_rl wc.drew (mkR rela p n2 s3.add))
            have t2' : ∀ o, (wc.alloc o).cell? ⟨T, 2, none⟩ = some v := fun o => cells_of_block (block_stay HQ3.out.td.block ((Below.refl _ _).alloc (Nat.le_refl _) o)) 2 v rfl
            have HLV : Hid (s3.out.length ≤ 100000) := by have := HLU.out; unfold Hid; omega
            repeat clear ‹∀ (a : Act) (w : World), Code.wp Try.prog _ _ a w → _›
            clear HQ3 t0 f3 f4 HCC HQ1 HQ2
            go_region_law (refine step_append_rl rfl (.tmp 58) (.tmp 78) rfl (T + 1) v s3.out (HOW.out _) (mkR rela p n2 s3.add) rfl _ rfl HNR.out HLV.out (HBS.out _) ?_; intro v6 W6 o6 g6 x6; have HO6 := hide o6; have HG6 := hide g6; have HX6 := hide x6; have hT6 := (g6.block T (bk_lt (HTB.out _)) HNT.out).trans (HTB.out _); have z2 := cells_of_block hT6 2 v rfl; have y2 := frozen_bk hT6 2; obtain ⟨a6, n6, c6, hv6⟩ := o6.isSlice; subst hv6; clear o6 g6 x6 hT6)
            all_goals
              go_wp2
              go_end0
              obtain ⟨hA, hB⟩ := rel_fin (s' := relT rela f st inf s) HQD.out (HBA.out _) (by rw [HTE.out]; exact HO6.out) HG6.out HX6.out (by rw [HTE.out]; rfl) (by rw [HTE.out]; rfl) (by rw [HTE.out]; rfl) (by rw [HTE.out]; rfl)
              exact ⟨rfl, _, hA, hB⟩
end Go.Proofs.Ytiicmakeoidiaaa
