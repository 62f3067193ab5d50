
/-
  Layer 14 (aps), the program: Decode keeps its contract (the relocations that a list tells in its groups, or that it tells none), over takeRel's.
-/
import Derived.Test.YtiicmakeoidiaaaApD
import Derived.Test.YtiicmakeoidiaaaApE
import Derived.Lib.SlBytesConst
set_option linter.unusedVariables false
namespace Go.Proofs.Ytiicmakeoidiaaa
open Go.RowKit Go.PlainAid
/-- What Decode answers. -/
def ApsIs (w : World) (o : Option (List Rl)) (e : Ending) (w' : World) : Prop :=
  match o with
  | none => e = .returned (.tuple #[.slice none 0 0, .int .i64 140])
  | some L => ∃ v, e = .returned (.tuple #[v, .int .i64 0]) ∧ OwnR w' w.heap.size v L
theorem OwnR.low {w : World} {B C : Nat} {v : Value} {l : List Rl} (h : OwnR w B v l) (hc : C ≤ B) : OwnR w C v l := by
  unfold OwnR at h ⊢
  refine ⟨h.1, ?_⟩
  rcases h.2 with hn | ⟨g, cap, cur, rfl, hB, rest⟩
  · exact .inl hn
  · exact .inr ⟨g, cap, cur, rfl, by omega, rest⟩
def magicO : Obj := .cells #[.int .u8 65, .int .u8 80, .int .u8 83, .int .u8 50] 5 (4, 5)
theorem magic_cell (w : World) (k : Nat) (u : Value) (hu : (#[Value.int .u8 65, .int .u8 80, .int .u8 83, .int .u8 50] : Array Value)[k]? = some u) : (w.alloc magicO).cell? ⟨w.heap.size, k, none⟩ = some u := by
  rw [cell_of_row _ _ k _ _ _ (heap_alloc_new w magicO)]; exact hu
theorem magic_arg (w : World) : Arg (w.alloc magicO) (.slice (some ⟨w.heap.size, 0, none⟩) 4 4) [65, 80, 83, 50] := by
  refine ⟨_, 4, rfl, by simp, by simp [maxLen], by simp, .inr ⟨_, rfl, fun j hj => ?_⟩⟩
  rw [add_at, Nat.zero_add]
  match j, hj with
  | 0, _ => exact magic_cell w 0 _ rfl
  | 1, _ => exact magic_cell w 1 _ rfl
  | 2, _ => exact magic_cell w 2 _ rfl
  | 3, _ => exact magic_cell w 3 _ rfl
theorem conv_magic (w : World) : (convert 42 42 (.slice (some ⟨w.heap.size, 0, none⟩) 4 4)).run Try.prog (w.alloc (.cells #[.int .u8 65, .int .u8 80, .int .u8 83, .int .u8 50] 5)) = .ok (.slice (some ⟨w.heap.size, 0, none⟩) 4 4) (w.alloc magicO) :=
  Lib.run_convert_bytes_const (P := Try.prog) w 42 5 _ 4 4 Try.underlying42 Try.underlying5
/-- The numbers of a list's bytes are read next. -/
theorem RdN.start {w : World} {R : Nat} {l : List UInt8} (h : Rd w R l 0) : RdN w R (numsZ l).1 false (numsZ l).2 := ⟨l, 0, h, rfl, .inl ⟨rfl, rfl, rfl⟩⟩
theorem td_Fail (w : World) (B T R : Nat) (v : Value) (s : Ts) (rela fine : Bool) (h : Td w B T R v s rela fine) :
    Calls Try.prog 32 #[.pointer (some ⟨R, 0, none⟩)] w fun x w' => (∃ e : Int, x = .returned (.int .i64 e) ∧ (e == 0) = !s.bad) ∧ w = w' := by
  obtain ⟨l, e, h1, h2, h3⟩ := h.rd
  refine (leb_Fail R l e w h1).mono ?_
  rintro x w' ⟨rfl, rfl⟩
  refine ⟨⟨e, rfl, ?_⟩, rfl⟩
  rcases h3 with ⟨hb, rfl, _⟩ | ⟨hb, he, _⟩
  · rw [hb]; rfl
  · rw [hb, he]; rfl
theorem td_Left (w : World) (B T R : Nat) (v : Value) (s : Ts) (rela fine : Bool) (h : Td w B T R v s rela fine) (hb : s.bad = false) :
    Calls Try.prog 33 #[.pointer (some ⟨R, 0, none⟩)] w fun x w' => (∃ n : Nat, x = .returned (.int .i64 n) ∧ (0 < n ↔ (s.N.isEmpty = false ∨ fine = false))) ∧ w = w' := by
  obtain ⟨l, e, h1, h2, h3⟩ := h.rd
  refine (leb_Left R l e w h1).mono ?_
  rintro x w' ⟨rfl, rfl⟩
  refine ⟨⟨l.length, rfl, ?_⟩, rfl⟩
  rcases h3 with ⟨_, rfl, hf⟩ | ⟨hb2, _⟩
  · rw [h2, hf]
    by_cases hl : l = []
    · subst hl; simp [numsZ_nil]
    · have hp := List.length_pos_iff.2 hl
      by_cases hk : okS l
      · rw [numsZ_ok hk]; simp; omega
      · rw [numsZ_no hl hk]; simp; omega
  · rw [hb] at hb2; cases hb2
theorem OwnR.form {w : World} {B : Nat} {v : Value} {l : List Rl} (h : OwnR w B v l) : ∃ a cap, v = .slice a l.length cap := by
  unfold OwnR at h
  rcases h.2 with ⟨rfl, hn⟩ | ⟨g, cap, cur, rfl, _⟩
  · exact ⟨none, 0, by rw [hn]⟩
  · exact ⟨_, cap, rfl⟩
/-- How the loop over the groups goes on. -/
structure DL (w wr : World) (T R : Nat) (v : Value) (s : Ts) (rela fine : Bool) (m lf : Int) (k : Nat) (O : Option (List Rl)) : Prop where
  td : Td wr w.heap.size T R v s rela fine
  bel : Below w.heap.size w wr
  lq : lf = m - (s.out.length : Int)
  fuel : lf < (k : Int)
  le : 0 ≤ lf
  ans : O = finT fine (runT rela m k s)
set_option maxHeartbeats 4000000 in
set_option maxRecDepth 20000 in
theorem aps_Decode (HTR : RelSpec) (w : World) (v : Value) (l : List UInt8) (h : Arg w v l) (rela : Bool) :
    Calls Try.prog 26 #[v, .bool rela] w fun e w' => ApsIs w (apsZ l rela) e w' ∧ Below w.heap.size w w' := by
  have hM := magic_arg w
  have hA := h.below (below1 w magicO) rfl
  have hC := bytes_CutPrefix _ v _ l _ hA hM rfl
  have HB1 := hide (below1 w magicO)
  obtain ⟨a, cap, rfl, _⟩ := h
  have HZ : Hid (apsZ l rela = if l.take 4 = [65, 80, 83, 50] then decN (numsZ (l.drop 4)).1 (numsZ (l.drop 4)).2 rela else none) := rfl
  obtain ⟨O, hO⟩ : ∃ O, apsZ l rela = O := ⟨_, rfl⟩
  rw [hO] at HZ ⊢
  obtain ⟨n, hn⟩ : ∃ n, l.length = n := ⟨_, rfl⟩
  rw [hn] at hC ⊢
  clear hM hA hO hn
  have hcv := conv_magic w
  go_enter Try.func26, Try.ntmps26
  go_wp2_with fail
  refine hC.mono ?_
  rintro e w1 ⟨⟨v1, rfl, hA1, ⟨a1, n1, c1, rfl⟩⟩, hw1⟩
  subst hw1
  clear hC hcv
  generalize hw1 : w.alloc _ = w1 at *
  clear hw1
  by_cases hP : l.take 4 = [65, 80, 83, 50]
  · have hd := decide_eq_true hP
    have hR := leb_Read _ _ w1 (hA1 hP)
    have hZ := HZ.out
    rw [if_pos hP] at hZ
    rw [hd]
    have HZ2 := hide hZ
    clear hA1 hP hd HZ hZ
    generalize l.drop 4 = b at *
    go_wp2_with fail
    refine hR.mono ?_
    rintro e w2 ⟨R, rfl, hRd, hR1, hb2⟩
    have HB2 := hide (HB1.out.trans (hb2.mono HB1.out.size))
    have HRD := hide hRd
    have HRS := hide hR1
    have HR2 := hide hRd.lt
    clear hRd hR1 hb2 hR
    have HTD : Hid (Td (w2.alloc (.cells #[.pointer (some ⟨R, 0, none⟩), .bool rela, .slice none 0 0, .int .i64 0, .int .i64 0] 70)) w.heap.size w2.heap.size R (.slice none 0 0) (Ts.mk (numsZ b).1 false 0 0 []) rela (numsZ b).2) :=
      ⟨heap_alloc_new _ _, (RdN.start HRD.out).move (below1 w2 _).size (fun k hk => (below1 w2 _).block k (by have := HR2.out; omega)), OwnR.nil _ _, by have := HB1.out.size; have := HRS.out; omega, HR2.out⟩
    have HBT : Hid (Below w.heap.size w (w2.alloc (.cells #[.pointer (some ⟨R, 0, none⟩), .bool rela, .slice none 0 0, .int .i64 0, .int .i64 0] 70))) := HB2.out.trans ((below1 w2 _).mono HB2.out.size)
    have HNB := hide (numsF_bd b.length b)
    go_wp2_with fail
    generalize hw3 : w2.alloc _ = w3 at *
    obtain ⟨T, hT⟩ : ∃ T, w2.heap.size = T := ⟨_, rfl⟩
    rw [hT] at HTD ⊢
    clear hw3 hT HRD HRS HR2 HB2 HB1
    obtain ⟨fine, hfine⟩ : ∃ x, (numsZ b).2 = x := ⟨_, rfl⟩
    have HNN : Hid (∀ n ∈ (numsZ b).1, i64r n) := HNB.out
    obtain ⟨N, hN⟩ : ∃ x, (numsZ b).1 = x := ⟨_, rfl⟩
    rw [hfine, hN] at HTD HZ2
    rw [hN] at HNN
    clear hfine hN HNB
    have HS := hide (fun W s (hW : Td W w.heap.size T R (.slice none 0 0) s rela fine) => td_S W w.heap.size T R (.slice none 0 0) s rela fine hW)
    refine (HS.out _ _ HTD.out).mono ?_
    rintro e w4 ⟨rfl, hT4, hF4⟩
    have H4 := hide hT4
    have HB4 := hide (HBT.out.trans (Fp.low HTD.out hF4))
    have t0 := cells_of_block hT4.block 0 (.pointer (some ⟨R, 0, none⟩)) rfl
    clear hT4 hF4 HTD HBT
    go_wp2_with fail
    refine (HS.out _ _ H4.out).mono ?_
    rintro e w5 ⟨rfl, hT5, hF5⟩
    have H5 := hide hT5
    have HB5 := hide (HB4.out.trans (Fp.low H4.out hF5))
    have t3 := cells_of_block hT5.block 3 (.int .i64 0) rfl
    have f3 := frozen_bk hT5.block 3
    clear hT5 hF5 t0 H4 HB4
    have H6 : Hid (Td (w5.setCell ⟨T, 3, none⟩ (.int .i64 (Ts.mk N false 0 0 []).tl.hd)) w.heap.size T R (.slice none 0 0) (startT N) rela fine) := H5.out.setT (s' := startT N) 3 _ rfl rfl rfl rfl
    have HB6 : Hid (Below w.heap.size w (w5.setCell ⟨T, 3, none⟩ (.int .i64 (Ts.mk N false 0 0 []).tl.hd))) := HB5.out.trans (Fp.low H5.out (Fp.set _ _ _ _ _ _))
    have HM : Hid ((Ts.mk N false 0 0 []).hd = N.headD 0) := rfl
    obtain ⟨m, hm⟩ : ∃ m, N.headD 0 = m := ⟨_, rfl⟩
    rw [hm] at HM
    have HZ3 : Hid (O = if m < 0 ∨ 512 < m then none else finT fine (runT rela m 513 (startT N))) := by
      have := HZ2.out; unfold decN at this; rw [hm] at this; exact this
    have HSG : Hid ((startT N).out.length = 0) := rfl
    generalize (Ts.mk N false 0 0 []).hd = m0 at *
    have hm0 := HM.out
    subst hm0
    clear hm HM HZ2
    generalize (Ts.mk N false 0 0 []).tl.hd = pl0 at *
    generalize startT N = s0 at *
    have HNO : Hid (∀ w', O = none → ApsIs w O (.returned (.tuple #[.slice none 0 0, .int .i64 140])) w') := fun w' e => by rw [e]; rfl
    by_cases c1 : m0 < 0
    · have d1 : decide (m0 < 0) = true := decide_eq_true c1
      have HF := hide (HNO.out (w5.setCell ⟨T, 3, none⟩ (.int .i64 pl0)) (by rw [HZ3.out, if_pos (.inl c1)]))
      clear c1
      go_wp2
      go_ret2
      exact ⟨HF.out, HB6.out⟩
    have d1 : decide (m0 < 0) = false := decide_eq_false c1
    by_cases c2 : 512 < m0
    · have d2 : decide (512 < m0) = true := decide_eq_true c2
      have HF := hide (HNO.out (w5.setCell ⟨T, 3, none⟩ (.int .i64 pl0)) (by rw [HZ3.out, if_pos (.inr c2)]))
      clear c1
      go_wp2
      go_ret2
      exact ⟨HF.out, HB6.out⟩
    have d2 : decide (512 < m0) = false := decide_eq_false c2
    have hZ4 := HZ3.out
    rw [if_neg (by omega)] at hZ4
    have HZ4 := hide hZ4
    have HM5 : Hid (m0 ≤ 512) := by unfold Hid; omega
    have HM0 : Hid (0 ≤ m0) := by unfold Hid; omega
    clear hZ4 HZ3 c1 c2
    have HTG := hide (fun W v s (hW : Td W w.heap.size T R v s rela fine) lf h1 h2 => ap_takeGroup HTR W w.heap.size T R v s rela fine hW lf h1 h2)
    have HST : Hid (DL w (w5.setCell ⟨T, 3, none⟩ (.int .i64 pl0)) T R (.slice none 0 0) s0 rela fine m0 m0 513 O) :=
      ⟨H6.out, HB6.out, by rw [HSG.out]; simp, by have := HM5.out; omega, HM0.out, HZ4.out⟩
    clear HTR H6 HB6 H5 HB5 HSG HZ4 HNN HS
    go_wp2_with fail
    clear d1 d2 t3 f3
    go_loopw [10] (fun vl wr => ∃ (s : Ts) (v' : Value) (k : Nat) (lf : Int), vl = .int .i64 lf ∧ Hid (DL w wr T R v' s rela fine m0 lf k O)) (fun vl _ => (intOf vl).toNat)
    case atStart => exact ⟨s0, _, 513, m0, rfl, HST⟩
    case round =>
      obtain ⟨s, v', k, lf, rfl, HD⟩ := hrel
      by_cases hlf : 0 < lf
      · have dlf : decide (0 < lf) = true := decide_eq_true hlf
        have hlen : (s.out.length : Int) < m0 := by have := HD.out.lq; omega
        obtain ⟨k', hk'⟩ : ∃ k', k = k' + 1 := ⟨k - 1, by have := HD.out.fuel; omega⟩
        subst hk'
        have hT := HTG.out wr v' s HD.out.td lf (by have := HM5.out; omega) (by have := HD.out.lq; have := HM5.out; omega)
        have HLF := hide hlf
        have HLN := hide hlen
        clear hlf hlen
        go_wp2_with fail
        refine hT.mono ?_
        intro e w6 hG
        clear hT
        by_cases hN : grpNo rela lf s.hd s.tl.hd
        · have hG2 : e = .returned (.bool false) ∧ Below w.heap.size wr w6 := by unfold GrpIs at hG; rwa [if_pos ((grpNoB_iff _ _ _ _).2 hN)] at hG
          obtain ⟨rfl, hb6⟩ := hG2
          have HF := hide (HNO.out w6 (by rw [HD.out.ans, run_no rela m0 k' s HLN.out (by rw [← HD.out.lq]; exact hN)]; rfl))
          have HB7 := hide (HD.out.bel.trans hb6)
          clear hG hN hb6
          go_wp2
          go_ret2
          exact ⟨HF.out, HB7.out⟩
        · have hG2 : e = .returned (.bool true) ∧ ∃ v2, Td w6 w.heap.size T R v2 (grpIn rela s.tl.hd s.hd.toNat s.tl.tl) rela fine ∧ Fp wr w6 R T v' v2 := by unfold GrpIs at hG; rwa [if_neg (fun e => hN ((grpNoB_iff _ _ _ _).1 e))] at hG
          obtain ⟨rfl, v2, hT2, hF2⟩ := hG2
          have hc1 : 1 ≤ s.hd := Classical.byContradiction fun c => hN (.inl (by omega))
          have hc2 : s.hd ≤ lf := Classical.byContradiction fun c => hN (.inr (.inl (by omega)))
          have hgl : (grpIn rela s.tl.hd s.hd.toNat s.tl.tl).out.length = s.out.length + s.hd.toNat := by rw [grpIn_len]; rfl
          have hnx := run_next rela m0 k' s HLN.out (by rw [← HD.out.lq]; exact hN)
          obtain ⟨s', hs'⟩ : ∃ s', grpIn rela s.tl.hd s.hd.toNat s.tl.tl = s' := ⟨_, rfl⟩
          rw [hs'] at hT2 hgl hnx
          obtain ⟨a2, cp2, hv2⟩ := hT2.own.form
          obtain ⟨L2, hL2⟩ : ∃ L2, s'.out.length = L2 := ⟨_, rfl⟩
          have hlfs : m0 - (L2 : Int) < lf ∧ 0 ≤ m0 - (L2 : Int) := by have := HD.out.lq; omega
          have HD2 : Hid (DL w w6 T R v2 s' rela fine m0 (m0 - (L2 : Int)) k' O) :=
            ⟨hT2, HD.out.bel.trans (Fp.low HD.out.td hF2), by rw [hL2], by have := HD.out.fuel; omega, hlfs.2, by rw [HD.out.ans, hnx]⟩
          rw [hL2] at hv2
          subst hv2
          have t2 := cells_of_block hT2.block 2 (.slice a2 L2 cp2) rfl
          have hL5 : (L2 : Int) ≤ m0 := by omega
          have HLS := hide hlfs
          have hm5 := HM5.out
          have hm0 := HM0.out
          clear hG hN hT2 hF2 hc1 hc2 hgl hnx hs' hL2 hlfs
          go_wp2_with fail
          go_roundw
          case rel => exact ⟨s', _, k', m0 - (L2 : Int), by go_num, HD2⟩
          case measure => simp [intOf]; have := HLS.out; omega
      · have dlf : decide (0 < lf) = false := decide_eq_false hlf
        have hend : runT rela m0 k s = some s := run_end rela m0 k s (by have := HD.out.lq; omega)
        have hans := HD.out.ans
        rw [hend] at hans
        have HANS := hide hans
        have t0 := cells_of_block HD.out.td.block 0 (.pointer (some ⟨R, 0, none⟩)) rfl
        have t2 := cells_of_block HD.out.td.block 2 v' rfl
        obtain ⟨a2, cp2, hv2⟩ := HD.out.td.own.form
        obtain ⟨L2, hL2⟩ : ∃ L2, s.out.length = L2 := ⟨_, rfl⟩
        rw [hL2] at hv2
        have hFa := td_Fail wr _ T R v' s rela fine HD.out.td
        have HLe := hide (fun hb => td_Left wr _ T R v' s rela fine HD.out.td hb)
        have HYS : Hid (∀ L, O = some L → L = s.out → ApsIs w O (.returned (.tuple #[v', .int .i64 0])) wr) := fun L e e2 => by
          rw [e, e2]; exact ⟨v', rfl, HD.out.td.own.low (by have := HD.out.td.lo; have := HD.out.td.lt; omega)⟩
        have HBE := hide HD.out.bel
        subst hv2
        clear hend hans hlf HD HTG HST hL2
        go_wp2_with fail
        refine hFa.mono ?_
        rintro e w6 ⟨⟨er, rfl, her⟩, hw6⟩
        subst hw6
        clear hFa
        cases hbad : s.bad with
        | true =>
          rw [hbad] at her
          have her2 : (er == 0) = false := her
          have her3 : (er != 0) = true := by simp [bne, her2]
          have HF := hide (HNO.out wr (by rw [HANS.out]; simp [finT, hbad]))
          clear her hbad HLe
          go_wp2
          go_ret2
          exact ⟨HF.out, HBE.out⟩
        | false =>
          rw [hbad] at her
          have her2 : (er == 0) = true := her
          have her3 : (er != 0) = false := by simp [bne, her2]
          have hLe := HLe.out hbad
          have HBD := hide hbad
          clear her hbad HLe
          go_wp2_with fail
          refine hLe.mono ?_
          rintro e w6 ⟨⟨ln, rfl, hln⟩, hw6⟩
          subst hw6
          by_cases hc : 0 < ln
          · have hcI : (0 : Int) < (ln : Int) := by omega
            have HF := hide (HNO.out wr (by rw [HANS.out]; have := hln.1 hc; simp [finT, HBD.out]; intro h1; rcases this with h2 | h2 <;> simp_all))
            clear hln hLe
            go_wp2
            go_ret2
            exact ⟨HF.out, HBE.out⟩
          · have hcI : decide ((0 : Int) < (ln : Int)) = false := decide_eq_false (by omega)
            have hcN : decide (0 < ln) = false := decide_eq_false hc
            have h3 : ¬ (s.N.isEmpty = false ∨ fine = false) := fun h => hc (hln.2 h)
            have HF := hide (HYS.out s.out (by rw [HANS.out]; simp only [finT, Option.bind_some]; rw [if_neg]; rintro (h | h); (rw [HBD.out] at h; cases h); exact h3 h) rfl)
            clear hln hLe hc h3
            go_wp2
            go_ret2
            exact ⟨HF.out, HBE.out⟩
  · have hd := decide_eq_false hP
    have hZ := HZ.out
    rw [if_neg hP] at hZ
    subst hZ
    rw [hd]
    have HF : Hid (ApsIs w none (.returned (.tuple #[.slice none 0 0, .int .i64 140])) w1) := rfl
    clear hA1 hP hd HZ
    go_wp2
    go_ret2
    exact ⟨HF.out, HB1.out⟩
end Go.Proofs.Ytiicmakeoidiaaa
