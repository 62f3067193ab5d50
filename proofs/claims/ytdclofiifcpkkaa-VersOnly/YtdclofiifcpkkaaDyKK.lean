
/-
  DyKt DyK
-/
import Derived.Test.YtdclofiifcpkkaaDyOne
import Derived.Deep.Cut
import Derived.OwnWalk
set_option linter.unusedVariables false
namespace Go.Proofs.Ytdclofiifcpkkaa
open Go.RowKit Go.PlainAid Go.Sort
theorem ar_sizeK : ∀ w, (Go.sizeOf 33).run Try.prog w = .ok 3 w := Try.sizeOf33
theorem bo_size : ∀ w, (Go.sizeOf 4).run Try.prog w = .ok 1 w := Try.sizeOf4
theorem u6_size : ∀ w, (Go.sizeOf 26).run Try.prog w = .ok 1 w := Try.sizeOf26
theorem st_size : ∀ w, (Go.sizeOf 9).run Try.prog w = .ok 1 w := Try.sizeOf9
theorem eq1_dec (n k : Nat) : ((n : Int) == (k : Int)) = decide (n = k) := by
  by_cases c : n = k
  · rw [decide_eq_true c]; simp; omega
  · rw [decide_eq_false c]; simp; omega
theorem alloc_dy (w : World) : (Instr.alloc 35 true (.tuple #[])).run Try.prog w = .ok (.pointer (some ⟨w.heap.size, 0, none⟩)) (w.alloc (.cells zeroDy.toArray 35)) := by kernel_rfl
theorem alloc_op {ops : Array Oper} {rest : List Oper} {o : Oper} {a : Act} {Q : Exit → Act → World → Prop} {w : World} {T : TypeId} (hgd : o.guard = none) (ho : o.op = .alloc T) (v : Value) (w0 : World)
    (hr : (Instr.alloc T true (.tuple #[])).run Try.prog w = .ok v w0) (h : ∀ W, Hid (W = w0) → wpList Try.prog ops Q rest (a.put o.dst v) W) : wpList Try.prog ops Q (o :: rest) a w := by
  refine wpList_plain hgd fun _ hK => ?_
  unfold Oper.wp execOp
  simp only [ho, Sem.run_bind, hr, Result.andThen_ok]
  exact hK _ _ (h _ rfl)
theorem bit2K (n : Nat) (h : (n : Int) ≤ 18446744073709551615) : ((IntKind.u64.wrap ((n : Int) / 2)).tmod 2 == 1) = bitB n 2 := by
  have e : IntKind.u64.wrap ((n : Int) / 2) = (n : Int) / 2 := by rw [IntKind.wrap_u64]; omega
  rw [e, Int.tmod_eq_emod_of_nonneg (by omega)]
  unfold bitB
  by_cases c : n / 2 % 2 = 1
  · rw [decide_eq_true c]; simp; omega
  · rw [decide_eq_false c]; simp; omega
theorem bit8K (n : Nat) (h : (n : Int) ≤ 18446744073709551615) : ((IntKind.u64.wrap ((n : Int) / 8)).tmod 2 == 1) = bitB n 8 := by
  have e : IntKind.u64.wrap ((n : Int) / 8) = (n : Int) / 8 := by rw [IntKind.wrap_u64]; omega
  rw [e, Int.tmod_eq_emod_of_nonneg (by omega)]
  unfold bitB
  by_cases c : n / 8 % 2 = 1
  · rw [decide_eq_true c]; simp; omega
  · rw [decide_eq_false c]; simp; omega
def needY (s : List UInt8) (acc : List (List UInt8)) (L : List De) : Except Nat (List (List UInt8)) := (needL s L).map (acc ++ ·)
theorem needY_start (s : List UInt8) (L : List De) : needY s [] L = needL s L := by unfold needY; cases needL s L <;> simp [Except.map]
theorem needY_skip (s : List UInt8) (acc : List (List UInt8)) (e : De) (r : List De) (h : ¬ e.tag = 1) : needY s acc (e :: r) = needY s acc r := by unfold needY; rw [needL, if_neg h]
theorem needY_91 (s : List UInt8) (acc : List (List UInt8)) (e : De) (r : List De) (h : e.tag = 1) (h1 : ¬ (textAt s e.val).2 = 0) : needY s acc (e :: r) = .error 91 := by unfold needY; rw [needL, if_pos h, if_pos h1]; rfl
theorem needY_92 (s : List UInt8) (acc : List (List UInt8)) (e : De) (r : List De) (h : e.tag = 1) (h1 : (textAt s e.val).2 = 0) (h2 : (textAt s e.val).1 = []) : needY s acc (e :: r) = .error 92 := by unfold needY; rw [needL, if_pos h, if_neg (fun c => c h1), if_pos h2]; rfl
theorem needY_next (s : List UInt8) (acc : List (List UInt8)) (e : De) (r : List De) (h : e.tag = 1) (h1 : (textAt s e.val).2 = 0) (h2 : ¬ (textAt s e.val).1 = []) : needY s acc (e :: r) = needY s (acc ++ [(textAt s e.val).1]) r := by
  unfold needY
  rw [needL, if_pos h, if_neg (fun c => c h1), if_neg h2]
  cases needL s r <;> simp [Except.map]
theorem own_keep {w w' : World} {B C : Nat} {v : Value} {l : List UInt8} (h : Own w B v l) (hb : Below C w w') (hk : ∀ k, v.ownBlock = some k → k < C) : Own w' B v l := by
  obtain ⟨h1, h2⟩ := h
  refine ⟨h1, ?_⟩
  rcases h2 with h2 | ⟨g, cap, cur, rfl, hB, hg, rest⟩
  · exact .inl h2
  · refine .inr ⟨g, cap, cur, rfl, hB, ?_, rest⟩
    rw [hb.block g (hk g rfl)]; exact hg
theorem ts_size : ∀ w, (Go.sizeOf 31).run Try.prog w = .ok 1 w := Try.sizeOf31
theorem build_dy (w : World) (b5 b17 b7 b23 b36 bp b25 b26 : Bool) (xb5 yb5 xb17 yb17 xb7 yb7 xb23 yb23 xb36 yb36 xbp ybp xb25 yb25 xb26 yb26 : Nat) : (Instr.build 35 #[(6, .agg #[.bool b5, .int .u64 (xb5 : Nat), .int .u64 (yb5 : Nat)]), (15, .agg #[.bool b17, .int .u64 (xb17 : Nat), .int .u64 (yb17 : Nat)]), (16, .agg #[.bool b7, .int .u64 (xb7 : Nat), .int .u64 (yb7 : Nat)]), (17, .agg #[.bool b23, .int .u64 (xb23 : Nat), .int .u64 (yb23 : Nat)]), (18, .agg #[.bool b36, .int .u64 (xb36 : Nat), .int .u64 (yb36 : Nat)]), (19, .agg #[.bool bp, .int .u64 (xbp : Nat), .int .u64 (ybp : Nat)]), (22, .agg #[.bool b25, .int .u64 (xb25 : Nat), .int .u64 (yb25 : Nat)]), (23, .agg #[.bool b26, .int .u64 (xb26 : Nat), .int .u64 (yb26 : Nat)])]).run Try.prog w = .ok (.agg #[.string ⟨#[]⟩, .string ⟨#[]⟩, .slice none 0 0, .bool false, .bool false, .bool false, .bool b5, .int .u64 (xb5 : Nat), .int .u64 (yb5 : Nat), .int .u64 0, .int .u64 0, .int .u64 0, .int .u64 0, .int .u64 0, .int .u64 0, .int .u64 0, .int .u64 0, .bool b17, .int .u64 (xb17 : Nat), .int .u64 (yb17 : Nat), .bool b7, .int .u64 (xb7 : Nat), .int .u64 (yb7 : Nat), .bool b23, .int .u64 (xb23 : Nat), .int .u64 (yb23 : Nat), .bool b36, .int .u64 (xb36 : Nat), .int .u64 (yb36 : Nat), .bool bp, .int .u64 (xbp : Nat), .int .u64 (ybp : Nat), .bool false, .bool false, .bool b25, .int .u64 (xb25 : Nat), .int .u64 (yb25 : Nat), .bool b26, .int .u64 (xb26 : Nat), .int .u64 (yb26 : Nat)]) w := by kernel_rfl
theorem argD_keep {w w' : World} {a : Option Addr} {n c C : Nat} {ps : List De} (h : ArgD w (.slice a n c) ps) (hb : Below C w w') (hk : ∀ g, a = some ⟨g, 0, none⟩ → g < C) : ArgD w' (.slice a n c) ps := by
  refine ⟨h.1, ?_⟩
  rcases h.2 with h2 | ⟨g, cap, e, h1, h2, h3, h4⟩
  · exact .inl h2
  · have hg := hk g (by injection e)
    refine .inr ⟨g, cap, e, h1, h2, Nat.lt_of_lt_of_le h3 hb.size, fun j hj k hk' => ?_⟩
    rw [← h4 j hj k hk']
    exact hb.cell (p := ⟨g, j * 2 + k, none⟩) hg
theorem argD_grown {w w' : World} {a : Option Addr} {n c G : Nat} {ps : List De} (h : ArgD w (.slice a n c) ps) (hb : w.grownBy w' (some G)) (hk : ∀ g, a = some ⟨g, 0, none⟩ → g < G) : ArgD w' (.slice a n c) ps := by
  refine ⟨h.1, ?_⟩
  rcases h.2 with h2 | ⟨g, cap, e, h1, h2, h3, h4⟩
  · exact .inl h2
  · have hg := hk g (by injection e)
    refine .inr ⟨g, cap, e, h1, h2, Nat.lt_of_lt_of_le h3 hb.size, fun j hj k hk' => ?_⟩
    rw [← h4 j hj k hk']
    exact World.cell?_of_block (w := w) (hb.block g h3 (by intro e; injection e with e; omega))

def cdrC : Nat → Code → Code
  | 0, c => c
  | k + 1, .seq _ b => cdrC k b
  | _ + 1, c => c
set_option maxHeartbeats 8000000 in
set_option maxRecDepth 1000000 in
theorem ref9_tail (w wc : World) (HBw : Hid (Below w.heap.size w wc)) (HR : Hid (wc.heap[w.heap.size + 1]? = some (.cells zeroDy.toArray 35 (0, 0)))) (G : Nat) (HWG : Hid (w.heap.size + 1 < G)) (k0 k1 : Value) (tl : List Value)
    (HD : Hid (wc.heap[G]? = some (.cells (k0 :: k1 :: .slice none 0 0 :: tl).toArray 35 (0, 0)))) (HTL : Hid (tl.length = 37)) (HT1 : Hid (∀ u ∈ k0 :: k1 :: tl, u.oneCell' = true))
    (BS : Nat) (HBS : Hid (G < BS)) (sa : Option Addr) (sn sc : Nat) (S : List UInt8) (HS : Hid (Own wc BS (.slice sa sn sc) S)) (HSL : Hid (S.length ≤ 140737488351232))
    (ae : Option Addr) (en ce : Nat) (E : List De) (HE : Hid (ArgD wc (.slice ae en ce) E)) (HEN : Hid (E.length = en)) (HEK : Hid (∀ e ∈ E, e.ok ∧ e.tag ≠ 0)) (hen : en ≤ 65536) (HGE : Hid (∀ g, ae = some ⟨g, 0, none⟩ → g < G))
    (so ru : List UInt8) (HC : Hid (∀ vn, dyCells so ru vn E = k0 :: k1 :: vn :: tl)) (O : Except Nat Dd)
    (HO : Hid ((if 16 < cntT E 1 then Except.error 92 else match needL S E with | .error n => .error n | .ok ns => .ok ⟨E, so, ru, ns⟩) = O)) (c0 c1 c2 c3 c5 c6 c7 c9 c12 c13 c14 c15 c16 c17 c18 c19 c20 c21 c22 c23 c24 c25 c26 c27 c28 c29 c30 c31 c32 c33 c34 c35 c36 c37 c38 c39 c40 c41 c42 c43 c44 c45 c46 c47 c48 c49 c50 c51 c52 c53 c54 c55 c56 c57 c58 c59 c60 c61 c62 c63 c64 c65 c66 c67 c68 c69 c70 c71 c72 c73 c74 c75 c76 c77 c78 c79 c80 c81 c82 c83 c84 c85 c86 c87 c88 c89 c90 c91 c92 c93 c94 c95 c96 c97 c98 c99 c100 c101 c102 c103 c104 c105 c106 c107 c108 c109 c110 c111 c112 c113 c114 c115 c116 c117 c118 c119 c120 c121 c122 c123 c124 c125 c126 c127 c128 c129 c130 c131 c132 c133 c134 c135 c136 c137 c138 c139 c140 c141 c142 c143 c144 c145 c146 c147 c148 c149 c150 c151 c152 c153 c154 c155 c156 c157 c158 c159 c160 c161 c162 c163 c164 c165 c166 c167 c168 c169 c170 c171 c172 c173 c174 c175 c176 c177 c178 c179 c180 c181 c182 c183 c184 c185 c186 c187 c188 c189 c190 c191 c192 c193 c194 c195 c196 c197 c198 c199 c200 : Value) :
    Code.wp Try.prog (cdrC 18 (Try.f11.body.getD .skip)) (bodyPost Try.prog Try.f11 (fun e w' => DynIs w' w.heap.size O e ∧ Below w.heap.size w w')) ⟨#[c0, c1, c2, c3, .pointer (some ⟨w.heap.size + 1, 0, none⟩), c5, c6, c7, .slice ae en ce, c9, .pointer (some ⟨G, 0, none⟩), .slice sa sn sc, c12, c13, c14, c15, c16, c17, c18, c19, c20, c21, c22, c23, c24, c25, c26, c27, c28, c29, c30, c31, c32, c33, c34, c35, c36, c37, c38, c39, c40, c41, c42, c43, c44, c45, c46, c47, c48, c49, c50, c51, c52, c53, c54, c55, c56, c57, c58, c59, c60, c61, c62, c63, c64, c65, c66, c67, c68, c69, c70, c71, c72, c73, c74, c75, c76, c77, c78, c79, c80, c81, c82, c83, c84, c85, c86, c87, c88, c89, c90, c91, c92, c93, c94, c95, c96, c97, c98, c99, c100, c101, c102, c103, c104, c105, c106, c107, c108, c109, c110, c111, c112, c113, c114, c115, c116, c117, c118, c119, c120, c121, c122, c123, c124, c125, c126, c127, c128, c129, c130, c131, c132, c133, c134, c135, c136, c137, c138, c139, c140, c141, c142, c143, c144, c145, c146, c147, c148, c149, c150, c151, c152, c153, c154, c155, c156, c157, c158, c159, c160, c161, c162, c163, c164, c165, c166, c167, c168, c169, c170, c171, c172, c173, c174, c175, c176, c177, c178, c179, c180, c181, c182, c183, c184, c185, c186, c187, c188, c189, c190, c191, c192, c193, c194, c195, c196, c197, c198, c199, c200], []⟩ wc := by
  have k1c := ref9_count wc _ E HE.out 1
  conv => arg 2; whnf
  by_cases h16 : 16 < cntT E 1
  · have hI : (16 : Int) < (cntT E 1 : Int) := by omega
    have HF : Hid (Except.error 92 = O) := by have := HO.out; rw [if_pos h16] at this; exact this
    clear h16
    go_wp2_with fail
    refine k1c.mono ?_
    rintro e w9 ⟨rfl, rfl⟩
    clear k1c
    go_wp2_with ((with_reducible refine at_store ?_); refine store_part rfl _ _ _ rfl (w.heap.size + 1) 0 35 _ zeroDy zeroDy.toArray HR.out rfl rfl dy_size zeroDy_one (by decide) (by rfl) ?_)
    intro wz hgz hbz
    have HBy := hide (grown_below (Nat.le_succ _) HBw.out hbz)
    have HGy := hide hgz
    clear hgz hbz
    go_wp2
    (try simp only [Exit.inBlock, Exit.then])
    refine bodyPost_ret (results_cell2 rfl _ _ (w.heap.size + 1) _ _ _ _ rfl HGy.out Try.underlying35 rfl (by kernel_rfl)) rfl ?_
    exact ⟨by rw [← HF.out]; rfl, HBy.out⟩
  · have hI : ¬ (16 : Int) < (cntT E 1 : Int) := by omega
    have hO := HO.out
    rw [if_neg h16] at hO
    have HON := hide hO
    have HNS : Hid (needY S [] (E.drop 0) = needL S E) := needY_start S E
    obtain ⟨ON, hON⟩ : ∃ ON, needL S E = ON := ⟨_, rfl⟩
    rw [hON] at HON HNS
    have hxl : G < wc.heap.size := (Array.getElem?_eq_some_iff.1 HD.out).1
    have HKS : Hid (∀ k, (Value.slice sa sn sc).ownBlock = some k → k < wc.heap.size) := fun k hk => (World.ownsRow.lt HS.out k hk).2
    have HXL := hide hxl
    clear HO hO h16 hON hxl
    generalize cntT E 1 = cc at *
    go_wp2_with fail
    refine k1c.mono ?_
    rintro e w9 ⟨rfl, rfl⟩
    clear k1c
    go_wp2
    go_loopw [16] (fun vi wr => ∃ (i : Nat) (acc : List (List UInt8)) (va : Option Addr) (vk vc : Nat), vi = .int .i64 i ∧ i ≤ en ∧ Hid (Below wc.heap.size wc wr ∨ True) ∧ Hid (Below w.heap.size w wr) ∧ Hid (wr.heap[w.heap.size + 1]? = some (.cells zeroDy.toArray 35 (0, 0))) ∧ Hid (ArgD wr (.slice ae en ce) E) ∧ Hid (wr.heap[G]? = some (.cells (k0 :: k1 :: .slice va vk vc :: tl).toArray 35 (0, 0))) ∧ Hid (Own wr BS (.slice sa sn sc) S) ∧ Hid (OwnT wr wc.heap.size (.slice va vk vc) acc) ∧ Hid (acc.length ≤ i) ∧ Hid (wc.heap.size ≤ wr.heap.size) ∧ Hid (needY S acc (E.drop i) = ON))
      (fun vi _ => en - (intOf vi).toNat)
    case atStart => exact ⟨0, [], none, 0, 0, rfl, by omega, Or.inr trivial, HBw, HR, HE, HD, HS, OwnT.nil _ _, Nat.le_refl _, Nat.le_refl _, HNS⟩
    case round =>
      obtain ⟨i, acc, va, vk, vc, rfl, hi, _, HBx, HRx, HEx, HDx, HSx, HTx, HAL, HLx, HN⟩ := hrel
      clear HBw HR HE HD HS HNS
      by_cases hlt : i < en
      · have hltI : (i : Int) < (en : Int) := by omega
        have hil : i < E.length := by rw [HEN.out]; exact hlt
        obtain ⟨g, rfl, p1, p2, _, y0, y1⟩ := HEx.out.at i hil
        have hvl := (HEK.out _ (List.getElem_mem hil)).1.val
        have hR := HN.out
        rw [List.drop_eq_getElem_cons hil] at hR
        obtain ⟨ee, hee⟩ : ∃ ee, E[i] = ee := ⟨_, rfl⟩
        rw [hee] at y0 y1 hvl hR
        rw [HEN.out] at p1
        clear hee HN hil
        by_cases htag : ee.tag = 1
        · have htb : ((ee.tag : Int) != 1) = false := by rw [htag]; rfl
          have kt := ref_Text wr _ S (HSx.out.arg HSL.out) ee.val hvl
          by_cases ht1 : (textAt S ee.val).2 = 0
          · by_cases hne : (textAt S ee.val).1 = []
            · rw [needY_92 S acc ee _ htag ht1 hne] at hR
              have HF : Hid (Except.error 92 = O) := by have := HON.out; rw [← hR] at this; exact this
              rw [ht1, hne] at kt
              clear hR htag ht1 hne
              go_wp2_with fail
              refine kt.mono ?_
              rintro e wt ⟨rfl, hbt⟩
              have HBt := hide (HBx.out.trans (hbt.mono HBx.out.size))
              have HRt := hide (block_stay HRx.out hbt)
              clear kt hbt
              go_wp2_with ((with_reducible refine at_store ?_); refine store_part rfl _ _ _ rfl (w.heap.size + 1) 0 35 _ zeroDy zeroDy.toArray HRt.out rfl rfl dy_size zeroDy_one (by decide) (by rfl) ?_)
              intro wz hgz hbz
              have HBy := hide (grown_below (Nat.le_succ _) HBt.out hbz)
              have HGy := hide hgz
              clear hgz hbz
              go_wp2
              (try simp only [Exit.inBlock, Exit.then])
              refine bodyPost_ret (results_cell2 rfl _ _ (w.heap.size + 1) _ _ _ _ rfl HGy.out Try.underlying35 rfl (by kernel_rfl)) rfl ?_
              exact ⟨by rw [← HF.out]; rfl, HBy.out⟩
            · rw [needY_next S acc ee _ htag ht1 hne] at hR
              have HR1 := hide hR
              obtain ⟨x, hx⟩ : ∃ x, (textAt S ee.val).1 = x := ⟨_, rfl⟩
              rw [hx] at kt HR1 hne
              rw [ht1] at kt
              have hxe : x.isEmpty = false := by cases x with
                | nil => exact absurd rfl hne
                | cons a b => rfl
              have hxb : (x == []) = false := by cases x with
                | nil => exact absurd rfl hne
                | cons a b => rfl
              clear hR htag ht1 hne hx
              go_wp2_with fail
              refine kt.mono ?_
              rintro e wt ⟨rfl, hbt⟩
              have HBt := hide (HBx.out.trans (hbt.mono HBx.out.size))
              have HRt := hide (block_stay HRx.out hbt)
              have HEt := hide (HEx.out.below hbt)
              have HDt := hide (block_stay HDx.out hbt)
              have HSt := hide (HSx.out.stay hbt)
              have HTt := hide (HTx.out.stay hbt)
              have HLt : Hid (wc.heap.size ≤ wt.heap.size) := Nat.le_trans HLx.out hbt.size
              have c2 := cells_of_block HDt.out 2 (.slice va vk vc) rfl
              have HWL : Hid (w.heap.size ≤ wc.heap.size) := by have := HWG.out; have := HXL.out; unfold Hid; omega
              clear kt hbt
              go_wp2_with (at_builtin; refine append_t rfl _ _ rfl wc.heap.size wt _ acc x HTt.out rfl rfl (by have := HAL.out; omega) HLt.out ?_)
              intro v' wu hownu hbu
              obtain ⟨ua, uk, uc, hvu⟩ : ∃ ua uk uc, v' = .slice ua uk uc := by obtain ⟨ua, uc, h⟩ := hownu.form; exact ⟨_, _, _, h⟩
              subst hvu
              have HBu : Hid (Below w.heap.size w wu) := HBt.out.trans (hbu.mono HWL.out)
              have HRu : Hid (wu.heap[w.heap.size + 1]? = some (.cells zeroDy.toArray 35 (0, 0))) := (hbu.block _ (by have := HWG.out; have := HXL.out; omega)).trans HRt.out
              have HDu : Hid (wu.heap[G]? = some (.cells (k0 :: k1 :: .slice va vk vc :: tl).toArray 35 (0, 0))) := (hbu.block _ HXL.out).trans HDt.out
              have HSu := hide (own_keep HSt.out hbu HKS.out)
              have HEu := hide (argD_keep HEt.out hbu (fun q hq => Nat.lt_trans (HGE.out q hq) HXL.out))
              have HTu := hide hownu
              have HLu : Hid (wc.heap.size ≤ wu.heap.size) := Nat.le_trans HLt.out hbu.size
              clear hownu hbu c2
              go_wp2_with ((with_reducible refine at_store ?_); refine store_any rfl _ _ _ rfl G 2 35 _ (.slice ua uk uc) [.slice ua uk uc] (k0 :: k1 :: .slice ua uk uc :: tl).toArray HDu.out rfl rfl rfl ts_size (by intro u hu; rw [List.mem_singleton.1 hu]; rfl) (by simp) (by rfl) ?_)
              intro wz hg9 hb9
              have HBz := hide (grown_below (by have := HWG.out; omega) HBu.out hb9)
              have HRz : Hid (wz.heap[w.heap.size + 1]? = some (.cells zeroDy.toArray 35 (0, 0))) := (hb9.block _ (Array.getElem?_eq_some_iff.1 HRu.out).1 (by have := HWG.out; intro e; injection e with e; omega)).trans HRu.out
              have HDz := hide hg9
              have HSz := hide (HSu.out.apart hb9 (fun k hk e => by have := (World.ownsRow.lt HSu.out k hk).1; have := HBS.out; injection e with e; omega))
              have HTz := hide (HTu.out.apart hb9 (fun k hk e => by have := (World.ownsRow.lt HTu.out k hk).1; have := HXL.out; injection e with e; omega))
              have HEz := hide (argD_grown HEu.out hb9 HGE.out)
              have HLz : Hid (wc.heap.size ≤ wz.heap.size) := Nat.le_trans HLu.out hb9.size
              clear hg9 hb9
              go_wp2
              go_roundw
              case rel => exact ⟨i + 1, acc ++ [x], ua, uk, uc, by go_num, by omega, Or.inr trivial, HBz, HRz, HEz, HDz, HSz, HTz, by have := HAL.out; unfold Hid; simp; omega, HLz, HR1⟩
              case measure => simp [intOf]; omega
          · rw [needY_91 S acc ee _ htag ht1] at hR
            have HF : Hid (Except.error 91 = O) := by have := HON.out; rw [← hR] at this; exact this
            have htc : ((textAt S ee.val).2 != 0) = true := by simpa using ht1
            generalize textAt S ee.val = TT at *
            clear hR htag ht1
            go_wp2_with fail
            refine kt.mono ?_
            rintro e wt ⟨rfl, hbt⟩
            have HBt := hide (HBx.out.trans (hbt.mono HBx.out.size))
            have HRt := hide (block_stay HRx.out hbt)
            clear kt hbt
            go_wp2_with ((with_reducible refine at_store ?_); refine store_part rfl _ _ _ rfl (w.heap.size + 1) 0 35 _ zeroDy zeroDy.toArray HRt.out rfl rfl dy_size zeroDy_one (by decide) (by rfl) ?_)
            intro wz hgz hbz
            have HBy := hide (grown_below (Nat.le_succ _) HBt.out hbz)
            have HGy := hide hgz
            clear hgz hbz
            go_wp2
            (try simp only [Exit.inBlock, Exit.then])
            refine bodyPost_ret (results_cell2 rfl _ _ (w.heap.size + 1) _ _ _ _ rfl HGy.out Try.underlying35 rfl (by kernel_rfl)) rfl ?_
            exact ⟨by rw [← HF.out]; rfl, HBy.out⟩
        · have htb : ((ee.tag : Int) != 1) = true := by simp; omega
          rw [needY_skip S acc ee _ htag] at hR
          have HR1 := hide hR
          clear hR htag
          go_wp2
          go_roundw
          case rel => exact ⟨i + 1, acc, va, vk, vc, by go_num, by omega, Or.inr trivial, HBx, HRx, HEx, HDx, HSx, HTx, by have := HAL.out; unfold Hid; omega, HLx, HR1⟩
          case measure => simp [intOf]; omega
      · have hltI : ¬ (i : Int) < (en : Int) := by omega
        have hR := HN.out
        rw [List.drop_eq_nil_of_le (by have := HEN.out; omega)] at hR
        have hON : Except.ok acc = ON := by rw [← hR]; unfold needY needL; simp [Except.map]
        have hOO := HON.out
        rw [← hON] at hOO
        have HOO : Hid (Except.ok ⟨E, so, ru, acc⟩ = O) := hOO
        clear hR HN hON hOO
        have hone : ∀ u ∈ (k0 :: k1 :: .slice va vk vc :: tl : List Value), u.oneCell' = true := by
          intro u hu
          simp only [List.mem_cons] at hu
          rcases hu with rfl | rfl | rfl | hu
          · exact HT1.out _ (by simp)
          · exact HT1.out _ (by simp)
          · rfl
          · exact HT1.out _ (by simp [hu])
        have HON2 := hide hone
        have h40 : (k0 :: k1 :: .slice va vk vc :: tl : List Value).length = 40 := by have := HTL.out; simp [this]
        have H40 := hide h40
        have hsz : ∀ w, (Go.sizeOf 35).run Try.prog w = .ok (k0 :: k1 :: .slice va vk vc :: tl : List Value).length w := by rw [h40]; exact dy_size
        have HSZ := hide hsz
        have hnew : (zeroDy.toArray.toList.take 0 ++ (k0 :: k1 :: .slice va vk vc :: tl : List Value) ++ zeroDy.toArray.toList.drop (0 + (k0 :: k1 :: .slice va vk vc :: tl : List Value).length)).toArray = (k0 :: k1 :: .slice va vk vc :: tl).toArray := by
          have e : List.drop (0 + 40) zeroDy.toArray.toList = [] := rfl
          rw [h40, e, List.append_nil]; rfl
        have HNEW := hide hnew
        clear hone h40 hsz hnew
        go_wp2_with (first
          | ((with_reducible refine at_loadD ?_); refine load_row rfl _ _ rfl G _ (load_dy HDx.out (by rw [List.size_toArray]; exact H40.out)) rfl ?_)
          | ((with_reducible refine at_store ?_); refine store_part rfl _ _ _ rfl (w.heap.size + 1) 0 35 _ (k0 :: k1 :: .slice va vk vc :: tl : List Value) (k0 :: k1 :: .slice va vk vc :: tl).toArray HRx.out rfl rfl HSZ.out HON2.out (by rw [H40.out]; decide) HNEW.out ?_))
        intro wz hgz hbz
        have HBy := hide (grown_below (Nat.le_succ _) HBx.out hbz)
        have HGy := hide hgz
        have HTz := hide (HTx.out.apart hbz (fun k hk e => by have := (World.ownsRow.lt HTx.out k hk).1; have := HWG.out; have := HXL.out; injection e with e; omega))
        clear hgz hbz
        go_wp2
        (try simp only [Exit.inBlock, Exit.then])
        refine bodyPost_ret (results_cell2 rfl _ _ (w.heap.size + 1) _ _ _ _ rfl HGy.out Try.underlying35 rfl (by rw [List.size_toArray, H40.out]; kernel_rfl)) rfl ?_
        refine ⟨?_, HBy.out⟩
        rw [← HOO.out]
        refine ⟨.slice va vk vc, ?_, HTz.out.low (by have := HWG.out; have := HXL.out; omega)⟩
        rw [HC.out]
        rfl
end Go.Proofs.Ytdclofiifcpkkaa
namespace Go.Proofs.Ytdclofiifcpkkaa
open Go.RowKit Go.PlainAid Go.Sort
theorem ArgD.below3 {w : World} {a : Option Addr} {n c : Nat} {ps : List De} (h : ArgD w (.slice a n c) ps) : ∀ g, a = some ⟨g, 0, none⟩ → g < w.heap.size := fun g hg => by
  rcases h.2 with ⟨e, _⟩ | ⟨q, cap, e, _, _, h3, _⟩
  · injection e with e; rw [hg] at e; cases e
  · injection e with e; rw [hg] at e; injection e with e; injection e with e; omega
set_option maxHeartbeats 8000000 in
set_option maxRecDepth 20000 in
theorem ref9_Parse (w : World) (b : Value) (l : List UInt8) (hb : Arg w b l) (hl : l.length ≤ 1000000) (h : Hd) (v : Value) (ha : ArgH w v h.loads) (ok : ∀ p ∈ h.loads, p.ok) (sm : ∀ p ∈ h.loads, p.off + p.filesz ≤ 1000000) (hdo : h.dynamic.ok) :
    Calls Try.prog 11 #[b, .agg (hdCells h.machine v h.dynamic h.relro).toArray] w fun e w' => DynIs w' w.heap.size (dynZ l h) e ∧ Below w.heap.size w w' := by
  obtain ⟨O, hO⟩ : ∃ O, dynZ l h = O := ⟨_, rfl⟩
  rw [hO]
  unfold dynZ at hO
  obtain ⟨m, ps, ⟨dt, df, dof, dva, dfs, dms, dal⟩, r⟩ := h
  have hva := hdo.vaddr
  have hfs := hdo.filesz
  simp only at hO ha ok sm hva hfs ⊢
  have HB0 : Hid (Below w.heap.size w ((w.alloc (.cells (hdCells m v ⟨dt, df, dof, dva, dfs, dms, dal⟩ r).toArray 30)).alloc (.cells zeroDy.toArray 35))) := ((Below.refl _ w).alloc (Nat.le_refl _) _).alloc (by simp) _
  have HG0 : Hid (((w.alloc (.cells (hdCells m v ⟨dt, df, dof, dva, dfs, dms, dal⟩ r).toArray 30)).alloc (.cells zeroDy.toArray 35)).heap[w.heap.size]? = some (.cells (hdCells m v ⟨dt, df, dof, dva, dfs, dms, dal⟩ r).toArray 30 (0, 0))) := by
    rw [Hid, heap_alloc_old _ _ (by simp)]; exact heap_alloc_new _ _
  have hs1 : (w.alloc (.cells (hdCells m v ⟨dt, df, dof, dva, dfs, dms, dal⟩ r).toArray 30)).heap.size = w.heap.size + 1 := by simp
  have HR0 : Hid (((w.alloc (.cells (hdCells m v ⟨dt, df, dof, dva, dfs, dms, dal⟩ r).toArray 30)).alloc (.cells zeroDy.toArray 35)).heap[w.heap.size + 1]? = some (.cells zeroDy.toArray 35 (0, 0))) := by
    rw [Hid, ← hs1]; exact heap_alloc_new _ _
  have c5 := cells_of_block HG0.out 5 (.int .u64 dva) rfl
  have c6 := cells_of_block HG0.out 6 (.int .u64 dfs) rfl
  have HST := hide (fun W (hB : Below w.heap.size w W) cs hz x s h7 h8 hx hs => ref9_Strings W b l (hb.below' hB) m v ⟨dt, df, dof, dva, dfs, dms, dal⟩ r ps (ha.below hB) ok sm cs hz x s h7 h8 hx hs)
  have HPT := hide (fun W (hB : Below w.heap.size w W) => ref8_Part W b l (hb.below' hB) m v ⟨dt, df, dof, dva, dfs, dms, dal⟩ r ps (ha.below hB) ok sm dva dfs (by omega) (by omega))
  have hP := HPT.out _ HB0.out
  have hxl := part_len l ps dva dfs
  have HSL := hide (fun x s => Nat.le_trans (part_len l ps x s) hl)
  obtain ⟨⟨X, xb⟩, hX⟩ : ∃ X, partZ l ps dva dfs = X := ⟨_, rfl⟩
  simp only [hX] at hP hO hxl
  obtain ⟨a, cap, rfl, _⟩ := hb.isSlice
  have HO := hide hO
  clear hb ha ok sm hdo HPT hX hO hs1
  simp only [hdCells, zeroDy, zeroAr, List.replicate, List.cons_append, List.nil_append] at HB0 HG0 HR0 hP c5 c6 ⊢
  go_enter Try.func11, Try.ntmps11
  go_wp2_with ((with_reducible refine at_load ?_); refine load_row rfl _ _ rfl w.heap.size _ (load_hd HG0.out rfl) rfl ?_)
  refine hP.mono ?_
  rintro e w1 ⟨⟨vx, rfl, own1⟩, hb1⟩
  have HB1 : Hid (Below w.heap.size w w1) := HB0.out.trans (hb1.mono HB0.out.size)
  have HR1 := hide (block_stay HR0.out hb1)
  have HG1 := hide (block_stay HG0.out hb1)
  have HX1 := hide (own1.arg (by omega))
  have HL1 : Hid (w.heap.size + 1 < w1.heap.size) := Nat.lt_of_lt_of_le (by simp) hb1.size
  clear hP hb1 own1 HB0 HR0 HG0 c5 c6
  cases xb with
  | false =>
    have HF : Hid (Except.error 86 = O) := HO.out
    clear HO
    go_wp2_with ((with_reducible refine at_store ?_); refine store_part rfl _ _ _ rfl (w.heap.size + 1) 0 35 _ zeroDy zeroDy.toArray HR1.out rfl rfl dy_size zeroDy_one (by decide) (by rfl) ?_)
    intro wz hgz hbz
    have HBy := hide (grown_below (Nat.le_succ _) HB1.out hbz)
    have HGy := hide hgz
    clear hgz hbz
    go_wp2
    (try simp only [Exit.inBlock, Exit.then])
    refine bodyPost_ret (results_cell2 rfl _ _ (w.heap.size + 1) _ _ _ _ rfl HGy.out Try.underlying35 rfl (by kernel_rfl)) rfl ?_
    exact ⟨by rw [← HF.out]; rfl, HBy.out⟩
  | true =>
    have hO := HO.out
    rw [if_neg (by simp)] at hO
    have HO2 := hide hO
    have hE := ref9_Entries w1 vx X HX1.out (by omega)
    obtain ⟨ax, cx, rfl, _⟩ := HX1.out.isSlice
    clear hO HO
    go_wp2_with fail
    refine hE.mono ?_
    rintro e w2 ⟨hE2, hb2⟩
    have HB2 : Hid (Below w.heap.size w w2) := HB1.out.trans (hb2.mono HB1.out.size)
    have HR2 := hide (block_stay HR1.out hb2)
    have HG2 := hide (block_stay HG1.out hb2)
    have HL2 : Hid (w.heap.size + 1 < w2.heap.size) := Nat.lt_of_lt_of_le HL1.out hb2.size
    clear hE hb2 HB1 HR1 HG1 HX1 HL1
    have HEO := hide (fun E => entsZ_ok (l := X) (L := E))
    cases hEZ : entsZ X with
    | none =>
      rw [hEZ] at hE2
      have hE3 : e = _ := hE2
      subst hE3
      have HF : Hid (Except.error 90 = O) := by have := HO2.out; rw [hEZ] at this; exact this
      clear hE2 HO2 hEZ HEO
      go_wp2_with ((with_reducible refine at_store ?_); refine store_part rfl _ _ _ rfl (w.heap.size + 1) 0 35 _ zeroDy zeroDy.toArray HR2.out rfl rfl dy_size zeroDy_one (by decide) (by rfl) ?_)
      intro wz hgz hbz
      have HBy := hide (grown_below (Nat.le_succ _) HB2.out hbz)
      have HGy := hide hgz
      clear hgz hbz
      go_wp2
      (try simp only [Exit.inBlock, Exit.then])
      refine bodyPost_ret (results_cell2 rfl _ _ (w.heap.size + 1) _ _ _ _ rfl HGy.out Try.underlying35 rfl (by kernel_rfl)) rfl ?_
      exact ⟨by rw [← HF.out]; rfl, HBy.out⟩
    | some E =>
      rw [hEZ] at hE2
      obtain ⟨hEok, hEl⟩ := HEO.out E hEZ
      have hO := HO2.out
      simp only [hEZ] at hO
      have HO3 := hide hO
      obtain ⟨ve, rfl, own2⟩ := hE2
      have HE2 := hide (own2.arg (by omega))
      obtain ⟨ae, en, ce, rfl, hen⟩ := HE2.out.form3
      have HEN := hide hen
      have HEL : Hid (en ≤ 65536) := by rw [Hid, ← hen]; omega
      clear hen
      have HEK := hide hEok
      have hR := ref9_right w2 _ E HE2.out
      clear hO HO2 hEZ HEO own2 hEok
      go_wp2_with fail
      refine hR.mono ?_
      rintro e w3 ⟨rfl, hb3⟩
      have HB3 : Hid (Below w.heap.size w w3) := HB2.out.trans (hb3.mono HB2.out.size)
      have HR3 := hide (block_stay HR2.out hb3)
      have HG3 := hide (block_stay HG2.out hb3)
      have HE3 := hide (HE2.out.below hb3)
      have HL3 : Hid (w.heap.size + 1 < w3.heap.size) := Nat.lt_of_lt_of_le HL2.out hb3.size
      clear hR hb3 HB2 HR2 HG2 HE2 HL2
      cases hrt : rightB E with
      | false =>
        have HF : Hid (Except.error 90 = O) := by have := HO3.out; rw [if_pos hrt] at this; exact this
        clear HO3 hrt
        go_wp2_with ((with_reducible refine at_store ?_); refine store_part rfl _ _ _ rfl (w.heap.size + 1) 0 35 _ zeroDy zeroDy.toArray HR3.out rfl rfl dy_size zeroDy_one (by decide) (by rfl) ?_)
        intro wz hgz hbz
        have HBy := hide (grown_below (Nat.le_succ _) HB3.out hbz)
        have HGy := hide hgz
        clear hgz hbz
        go_wp2
        (try simp only [Exit.inBlock, Exit.then])
        refine bodyPost_ret (results_cell2 rfl _ _ (w.heap.size + 1) _ _ _ _ rfl HGy.out Try.underlying35 rfl (by kernel_rfl)) rfl ?_
        exact ⟨by rw [← HF.out]; rfl, HBy.out⟩
      | true =>
        have hO := HO3.out
        rw [if_neg (by rw [hrt]; simp)] at hO
        have HO4 := hide hO
        clear hO HO3 hrt
        have HAb5 : Hid (areaC E 5 10 = [.bool (decide (cntT E 5 = 1)), .int .u64 (valT E 5 : Nat), .int .u64 (valT E 10 : Nat)]) := rfl
        generalize decide (cntT E 5 = 1) = b5 at HAb5
        have HAb17 : Hid (areaC E 17 18 = [.bool (decide (cntT E 17 = 1)), .int .u64 (valT E 17 : Nat), .int .u64 (valT E 18 : Nat)]) := rfl
        generalize decide (cntT E 17 = 1) = b17 at HAb17
        have HAb7 : Hid (areaC E 7 8 = [.bool (decide (cntT E 7 = 1)), .int .u64 (valT E 7 : Nat), .int .u64 (valT E 8 : Nat)]) := rfl
        generalize decide (cntT E 7 = 1) = b7 at HAb7
        have HAb23 : Hid (areaC E 23 2 = [.bool (decide (cntT E 23 = 1)), .int .u64 (valT E 23 : Nat), .int .u64 (valT E 2 : Nat)]) := rfl
        generalize decide (cntT E 23 = 1) = b23 at HAb23
        have HAb36 : Hid (areaC E 36 35 = [.bool (decide (cntT E 36 = 1)), .int .u64 (valT E 36 : Nat), .int .u64 (valT E 35 : Nat)]) := rfl
        generalize decide (cntT E 36 = 1) = b36 at HAb36
        have HAbp : Hid (areaC E 1610612751 1610612752 = [.bool (decide (cntT E 1610612751 = 1)), .int .u64 (valT E 1610612751 : Nat), .int .u64 (valT E 1610612752 : Nat)]) := rfl
        generalize decide (cntT E 1610612751 = 1) = bp at HAbp
        have HAb25 : Hid (areaC E 25 27 = [.bool (decide (cntT E 25 = 1)), .int .u64 (valT E 25 : Nat), .int .u64 (valT E 27 : Nat)]) := rfl
        generalize decide (cntT E 25 = 1) = b25 at HAb25
        have HAb26 : Hid (areaC E 26 28 = [.bool (decide (cntT E 26 = 1)), .int .u64 (valT E 26 : Nat), .int .u64 (valT E 28 : Nat)]) := rfl
        generalize decide (cntT E 26 = 1) = b26 at HAb26
        have HC0 : Hid (Below w3.heap.size w3 w3) := Below.refl _ _
        have kA := ref9_area w3 _ E (HE3.out.below HC0.out) 5 10
        rw [HAb5.out] at kA
        go_wp2_with fail
        refine kA.mono ?_
        rintro e x0 ⟨rfl, hb9⟩
        have HC1 : Hid (Below w3.heap.size w3 x0) := HC0.out.trans (hb9.mono HC0.out.size)
        clear kA hb9 HC0
        have kA := ref9_area x0 _ E (HE3.out.below HC1.out) 17 18
        rw [HAb17.out] at kA
        go_wp2_with fail
        refine kA.mono ?_
        rintro e x1 ⟨rfl, hb9⟩
        have HC2 : Hid (Below w3.heap.size w3 x1) := HC1.out.trans (hb9.mono HC1.out.size)
        clear kA hb9 HC1
        have kA := ref9_area x1 _ E (HE3.out.below HC2.out) 7 8
        rw [HAb7.out] at kA
        go_wp2_with fail
        refine kA.mono ?_
        rintro e x2 ⟨rfl, hb9⟩
        have HC3 : Hid (Below w3.heap.size w3 x2) := HC2.out.trans (hb9.mono HC2.out.size)
        clear kA hb9 HC2
        have kA := ref9_area x2 _ E (HE3.out.below HC3.out) 23 2
        rw [HAb23.out] at kA
        go_wp2_with fail
        refine kA.mono ?_
        rintro e x3 ⟨rfl, hb9⟩
        have HC4 : Hid (Below w3.heap.size w3 x3) := HC3.out.trans (hb9.mono HC3.out.size)
        clear kA hb9 HC3
        have kA := ref9_area x3 _ E (HE3.out.below HC4.out) 36 35
        rw [HAb36.out] at kA
        go_wp2_with fail
        refine kA.mono ?_
        rintro e x4 ⟨rfl, hb9⟩
        have HC5 : Hid (Below w3.heap.size w3 x4) := HC4.out.trans (hb9.mono HC4.out.size)
        clear kA hb9 HC4
        have kA := ref9_area x4 _ E (HE3.out.below HC5.out) 1610612751 1610612752
        rw [HAbp.out] at kA
        go_wp2_with fail
        refine kA.mono ?_
        rintro e x5 ⟨rfl, hb9⟩
        have HC6 : Hid (Below w3.heap.size w3 x5) := HC5.out.trans (hb9.mono HC5.out.size)
        clear kA hb9 HC5
        have kA := ref9_area x5 _ E (HE3.out.below HC6.out) 25 27
        rw [HAb25.out] at kA
        go_wp2_with fail
        refine kA.mono ?_
        rintro e x6 ⟨rfl, hb9⟩
        have HC7 : Hid (Below w3.heap.size w3 x6) := HC6.out.trans (hb9.mono HC6.out.size)
        clear kA hb9 HC6
        have kA := ref9_area x6 _ E (HE3.out.below HC7.out) 26 28
        rw [HAb26.out] at kA
        go_wp2_with fail
        refine kA.mono ?_
        rintro e x7 ⟨rfl, hb9⟩
        have HC8 : Hid (Below w3.heap.size w3 x7) := HC7.out.trans (hb9.mono HC7.out.size)
        clear kA hb9 HC7
        have HB4 : Hid (Below w.heap.size w x7) := HB3.out.trans (HC8.out.mono HB3.out.size)
        have HR4 := hide (block_stay HR3.out HC8.out)
        have HG4 := hide (block_stay HG3.out HC8.out)
        have HE4 := hide (HE3.out.below HC8.out)
        have HL4 : Hid (w.heap.size + 1 < x7.heap.size) := Nat.lt_of_lt_of_le HL3.out HC8.out.size
        clear HB3 HR3 HG3 HE3 HL3 HC8
        have hkc := fun W (hB : Below x7.heap.size x7 W) => ref9_count W _ E (HE4.out.below hB) 1610612753
        have HKC := hide hkc
        have HKV := hide (fun t W (hB : Below x7.heap.size x7 W) => ref9_value W _ E (HE4.out.below hB) t)
        have HKA := hide (fun t u W (hB : Below x7.heap.size x7 W) => ref9_area W _ E (HE4.out.below hB) t u)
        have HKN := hide (fun t W (hB : Below x7.heap.size x7 W) => ref9_count W _ E (HE4.out.below hB) t)
        have HZZ : Hid ((x7.alloc (.cells zeroDy.toArray 35)).heap[x7.heap.size]? = some (.cells zeroDy.toArray 35 (0, 0))) := heap_alloc_new _ _
        have HZB : Hid (Below x7.heap.size x7 (x7.alloc (.cells zeroDy.toArray 35))) := (Below.refl _ _).alloc (Nat.le_refl _) _
        have hone : ∀ u ∈ ([.string ⟨#[]⟩, .string ⟨#[]⟩, .slice none 0 0, .bool false, .bool false, .bool false, .bool b5, .int .u64 (valT E 5 : Nat), .int .u64 (valT E 10 : Nat), .int .u64 0, .int .u64 0, .int .u64 0, .int .u64 0, .int .u64 0, .int .u64 0, .int .u64 0, .int .u64 0, .bool b17, .int .u64 (valT E 17 : Nat), .int .u64 (valT E 18 : Nat), .bool b7, .int .u64 (valT E 7 : Nat), .int .u64 (valT E 8 : Nat), .bool b23, .int .u64 (valT E 23 : Nat), .int .u64 (valT E 2 : Nat), .bool b36, .int .u64 (valT E 36 : Nat), .int .u64 (valT E 35 : Nat), .bool bp, .int .u64 (valT E 1610612751 : Nat), .int .u64 (valT E 1610612752 : Nat), .bool false, .bool false, .bool b25, .int .u64 (valT E 25 : Nat), .int .u64 (valT E 27 : Nat), .bool b26, .int .u64 (valT E 26 : Nat), .int .u64 (valT E 28 : Nat)] : List Value), u.oneCell' = true := by
          intro u hu
          simp only [List.mem_cons, List.not_mem_nil, or_false] at hu
          rcases hu with rfl | rfl | rfl | rfl | rfl | rfl | rfl | rfl | rfl | rfl | rfl | rfl | rfl | rfl | rfl | rfl | rfl | rfl | rfl | rfl | rfl | rfl | rfl | rfl | rfl | rfl | rfl | rfl | rfl | rfl | rfl | rfl | rfl | rfl | rfl | rfl | rfl | rfl | rfl | rfl <;> rfl
        have HON := hide hone
        simp only [zeroDy, zeroAr, List.replicate, List.cons_append, List.nil_append] at HZZ HZB
        clear hkc HKC hone
        go_wp2_with (first
          | ((with_reducible refine at_build ?_); refine build_eq rfl _ _ rfl (.agg #[.string ⟨#[]⟩, .string ⟨#[]⟩, .slice none 0 0, .bool false, .bool false, .bool false, .bool b5, .int .u64 (valT E 5 : Nat), .int .u64 (valT E 10 : Nat), .int .u64 0, .int .u64 0, .int .u64 0, .int .u64 0, .int .u64 0, .int .u64 0, .int .u64 0, .int .u64 0, .bool b17, .int .u64 (valT E 17 : Nat), .int .u64 (valT E 18 : Nat), .bool b7, .int .u64 (valT E 7 : Nat), .int .u64 (valT E 8 : Nat), .bool b23, .int .u64 (valT E 23 : Nat), .int .u64 (valT E 2 : Nat), .bool b36, .int .u64 (valT E 36 : Nat), .int .u64 (valT E 35 : Nat), .bool bp, .int .u64 (valT E 1610612751 : Nat), .int .u64 (valT E 1610612752 : Nat), .bool false, .bool false, .bool b25, .int .u64 (valT E 25 : Nat), .int .u64 (valT E 27 : Nat), .bool b26, .int .u64 (valT E 26 : Nat), .int .u64 (valT E 28 : Nat)]) ?hr ?_; (simp only [List.map_toArray, List.map_cons, List.map_nil]; go_loud (exact build_dy _ b5 b17 b7 b23 b36 bp b25 b26 (valT E 5) (valT E 10) (valT E 17) (valT E 18) (valT E 7) (valT E 8) (valT E 23) (valT E 2) (valT E 36) (valT E 35) (valT E 1610612751) (valT E 1610612752) (valT E 25) (valT E 27) (valT E 26) (valT E 28))))
          | ((with_reducible refine at_store ?_); go_loud (refine store_part rfl _ _ _ rfl x7.heap.size 0 35 _ [.string ⟨#[]⟩, .string ⟨#[]⟩, .slice none 0 0, .bool false, .bool false, .bool false, .bool b5, .int .u64 (valT E 5 : Nat), .int .u64 (valT E 10 : Nat), .int .u64 0, .int .u64 0, .int .u64 0, .int .u64 0, .int .u64 0, .int .u64 0, .int .u64 0, .int .u64 0, .bool b17, .int .u64 (valT E 17 : Nat), .int .u64 (valT E 18 : Nat), .bool b7, .int .u64 (valT E 7 : Nat), .int .u64 (valT E 8 : Nat), .bool b23, .int .u64 (valT E 23 : Nat), .int .u64 (valT E 2 : Nat), .bool b36, .int .u64 (valT E 36 : Nat), .int .u64 (valT E 35 : Nat), .bool bp, .int .u64 (valT E 1610612751 : Nat), .int .u64 (valT E 1610612752 : Nat), .bool false, .bool false, .bool b25, .int .u64 (valT E 25 : Nat), .int .u64 (valT E 27 : Nat), .bool b26, .int .u64 (valT E 26 : Nat), .int .u64 (valT E 28 : Nat)] #[.string ⟨#[]⟩, .string ⟨#[]⟩, .slice none 0 0, .bool false, .bool false, .bool false, .bool b5, .int .u64 (valT E 5 : Nat), .int .u64 (valT E 10 : Nat), .int .u64 0, .int .u64 0, .int .u64 0, .int .u64 0, .int .u64 0, .int .u64 0, .int .u64 0, .int .u64 0, .bool b17, .int .u64 (valT E 17 : Nat), .int .u64 (valT E 18 : Nat), .bool b7, .int .u64 (valT E 7 : Nat), .int .u64 (valT E 8 : Nat), .bool b23, .int .u64 (valT E 23 : Nat), .int .u64 (valT E 2 : Nat), .bool b36, .int .u64 (valT E 36 : Nat), .int .u64 (valT E 35 : Nat), .bool bp, .int .u64 (valT E 1610612751 : Nat), .int .u64 (valT E 1610612752 : Nat), .bool false, .bool false, .bool b25, .int .u64 (valT E 25 : Nat), .int .u64 (valT E 27 : Nat), .bool b26, .int .u64 (valT E 26 : Nat), .int .u64 (valT E 28 : Nat)] HZZ.out rfl rfl dy_size HON.out (Nat.le_refl 40) (by rfl) ?_)))
        intro w4 hg4 hb4
        have HBD := hide (grown_below (Nat.le_refl _) HZB.out hb4)
        have HDD := hide hg4
        have hkc1 := HKN.out 1610612753 w4 HBD.out
        clear hg4 hb4 HZZ HZB HON
        go_wp2_with fail
        refine hkc1.mono ?_
        rintro e w5 ⟨rfl, rfl⟩
        clear hkc1
        obtain ⟨q1, q2, q3, hq⟩ : ∃ (q1 : Bool) (q2 q3 : Nat), (if packB E then areaC E 1610612753 1610612754 else areaC E 1610612751 1610612752) = [.bool q1, .int .u64 q2, .int .u64 q3] := by
          split
          · exact ⟨_, _, _, rfl⟩
          · exact ⟨_, _, _, rfl⟩
        have HQ := hide hq
        have HPB : Hid (packB E = decide (cntT E 1610612753 = 1)) := rfl
        generalize hpk : packB E = pk at HQ HPB
        have HPK := hide hpk
        generalize cntT E 1610612753 = ck at *
        clear hq hpk
        go_upto_if 66 with fail
        go_cut [] from 19 (fun wx => Hid (Below x7.heap.size x7 wx) ∧ Hid (wx.heap[x7.heap.size]? = some (.cells #[.string ⟨#[]⟩, .string ⟨#[]⟩, .slice none 0 0, .bool false, .bool false, .bool false, .bool b5, .int .u64 (valT E 5 : Nat), .int .u64 (valT E 10 : Nat), .int .u64 0, .int .u64 0, .int .u64 0, .int .u64 0, .int .u64 0, .int .u64 0, .int .u64 0, .int .u64 0, .bool b17, .int .u64 (valT E 17 : Nat), .int .u64 (valT E 18 : Nat), .bool b7, .int .u64 (valT E 7 : Nat), .int .u64 (valT E 8 : Nat), .bool b23, .int .u64 (valT E 23 : Nat), .int .u64 (valT E 2 : Nat), .bool b36, .int .u64 (valT E 36 : Nat), .int .u64 (valT E 35 : Nat), .bool q1, .int .u64 (q2 : Nat), .int .u64 (q3 : Nat), .bool false, .bool pk, .bool b25, .int .u64 (valT E 25 : Nat), .int .u64 (valT E 27 : Nat), .bool b26, .int .u64 (valT E 26 : Nat), .int .u64 (valT E 28 : Nat)] 35 (0, 0))))
        case first =>
          by_cases hck : ck = 1
          · have hcb : ((ck : Int) == 1) = true := by simp; omega
            have hpt : pk = true := by rw [HPB.out, decide_eq_true hck]
            have kA := HKA.out 1610612753 1610612754 w4 HBD.out
            have hq := HQ.out
            rw [if_pos hpt] at hq
            rw [hq] at kA
            subst hpt
            clear hq hck
            go_wp2_with fail
            refine kA.mono ?_
            rintro e w6 ⟨rfl, hb6⟩
            have HB6 : Hid (Below x7.heap.size x7 w6) := HBD.out.trans (hb6.mono HBD.out.size)
            have HD6 := hide (block_stay HDD.out hb6)
            clear kA hb6 HBD HDD
            go_wp2_with ((with_reducible refine at_store ?_); refine store_part rfl _ _ _ rfl x7.heap.size 29 35 _ [.bool q1, .int .u64 (q2 : Nat), .int .u64 (q3 : Nat)] #[.string ⟨#[]⟩, .string ⟨#[]⟩, .slice none 0 0, .bool false, .bool false, .bool false, .bool b5, .int .u64 (valT E 5 : Nat), .int .u64 (valT E 10 : Nat), .int .u64 0, .int .u64 0, .int .u64 0, .int .u64 0, .int .u64 0, .int .u64 0, .int .u64 0, .int .u64 0, .bool b17, .int .u64 (valT E 17 : Nat), .int .u64 (valT E 18 : Nat), .bool b7, .int .u64 (valT E 7 : Nat), .int .u64 (valT E 8 : Nat), .bool b23, .int .u64 (valT E 23 : Nat), .int .u64 (valT E 2 : Nat), .bool b36, .int .u64 (valT E 36 : Nat), .int .u64 (valT E 35 : Nat), .bool q1, .int .u64 (q2 : Nat), .int .u64 (q3 : Nat), .bool false, .bool false, .bool b25, .int .u64 (valT E 25 : Nat), .int .u64 (valT E 27 : Nat), .bool b26, .int .u64 (valT E 26 : Nat), .int .u64 (valT E 28 : Nat)] HD6.out rfl rfl ar_sizeK (by intro u hu; simp only [List.mem_cons, List.not_mem_nil, or_false] at hu; rcases hu with rfl | rfl | rfl <;> rfl) (show 29 + 3 ≤ 40 by decide) (by rfl) ?_)
            intro w7 hg7 hb7
            have HB7 := hide (grown_below (Nat.le_refl _) HB6.out hb7)
            have HD7 := hide hg7
            clear hg7 hb7 HB6 HD6
            go_wp2_with ((with_reducible refine at_store ?_); refine store_any rfl _ _ _ rfl x7.heap.size 33 35 _ (.bool true) [.bool true] #[.string ⟨#[]⟩, .string ⟨#[]⟩, .slice none 0 0, .bool false, .bool false, .bool false, .bool b5, .int .u64 (valT E 5 : Nat), .int .u64 (valT E 10 : Nat), .int .u64 0, .int .u64 0, .int .u64 0, .int .u64 0, .int .u64 0, .int .u64 0, .int .u64 0, .int .u64 0, .bool b17, .int .u64 (valT E 17 : Nat), .int .u64 (valT E 18 : Nat), .bool b7, .int .u64 (valT E 7 : Nat), .int .u64 (valT E 8 : Nat), .bool b23, .int .u64 (valT E 23 : Nat), .int .u64 (valT E 2 : Nat), .bool b36, .int .u64 (valT E 36 : Nat), .int .u64 (valT E 35 : Nat), .bool q1, .int .u64 (q2 : Nat), .int .u64 (q3 : Nat), .bool false, .bool true, .bool b25, .int .u64 (valT E 25 : Nat), .int .u64 (valT E 27 : Nat), .bool b26, .int .u64 (valT E 26 : Nat), .int .u64 (valT E 28 : Nat)] HD7.out rfl rfl rfl bo_size (by intro u hu; rw [List.mem_singleton.1 hu]; rfl) (show 33 + 1 ≤ 40 by decide) (by rfl) ?_)
            intro w8 hg8 hb8
            have HB8 := hide (grown_below (Nat.le_refl _) HB7.out hb8)
            have HD8 := hide hg8
            clear hg8 hb8 HB7 HD7
            go_wp2
            go_meet
            case rel => exact ⟨HB8, HD8⟩
          · have hcb : ((ck : Int) == 1) = false := by simp; omega
            have hpt : pk = false := by rw [HPB.out, decide_eq_false hck]
            have hq := HQ.out
            rw [if_neg (by rw [hpt]; simp), HAbp.out] at hq
            injection hq with e1 hq
            injection hq with e2 hq
            injection hq with e3 _
            subst hpt
            clear hck
            go_wp2
            go_meet
            case rel => exact ⟨HBD, HDD⟩
        case rest =>
          obtain ⟨HB0, HD0⟩ := hcut
          clear HBD HDD HAbp
          have e20 := eq1_dec (valT E 20) 7
          have HE20 : Hid (decide (valT E 20 = 7) = decide (valT E 20 = 7)) := rfl
          generalize hb20 : decide (valT E 20 = 7) = b20 at e20
          have HB20 := hide hb20
          have e20b : ((valT E 20 : Int) == 7) = b20 := e20
          clear hb20 e20 HE20
          have k9 := HKV.out 20 _ HB0.out
          go_wp2_with fail
          refine k9.mono ?_
          rintro e w9 ⟨rfl, rfl⟩
          clear k9
          go_wp2_with ((with_reducible refine at_store ?_); refine store_any rfl _ _ _ rfl x7.heap.size 32 35 _ (.bool b20) [.bool b20] #[.string ⟨#[]⟩, .string ⟨#[]⟩, .slice none 0 0, .bool false, .bool false, .bool false, .bool b5, .int .u64 (valT E 5 : Nat), .int .u64 (valT E 10 : Nat), .int .u64 0, .int .u64 0, .int .u64 0, .int .u64 0, .int .u64 0, .int .u64 0, .int .u64 0, .int .u64 0, .bool b17, .int .u64 (valT E 17 : Nat), .int .u64 (valT E 18 : Nat), .bool b7, .int .u64 (valT E 7 : Nat), .int .u64 (valT E 8 : Nat), .bool b23, .int .u64 (valT E 23 : Nat), .int .u64 (valT E 2 : Nat), .bool b36, .int .u64 (valT E 36 : Nat), .int .u64 (valT E 35 : Nat), .bool q1, .int .u64 (q2 : Nat), .int .u64 (q3 : Nat), .bool b20, .bool pk, .bool b25, .int .u64 (valT E 25 : Nat), .int .u64 (valT E 27 : Nat), .bool b26, .int .u64 (valT E 26 : Nat), .int .u64 (valT E 28 : Nat)] HD0.out rfl rfl rfl bo_size (by intro u hu; rw [List.mem_singleton.1 hu]; rfl) (show 32 + 1 ≤ 40 by decide) (by rfl) ?_)
          intro y0 hg9 hb9
          have HB1 := hide (grown_below (Nat.le_refl _) HB0.out hb9)
          have HD1 := hide hg9
          clear hg9 hb9 HB0 HD0
          have k9 := HKV.out 6 _ HB1.out
          go_wp2_with fail
          refine k9.mono ?_
          rintro e w9 ⟨rfl, rfl⟩
          clear k9
          have k9 := HKV.out 4 _ HB1.out
          go_wp2_with fail
          refine k9.mono ?_
          rintro e w9 ⟨rfl, rfl⟩
          clear k9
          have k9 := HKV.out 1879047925 _ HB1.out
          go_wp2_with fail
          refine k9.mono ?_
          rintro e w9 ⟨rfl, rfl⟩
          clear k9
          have k9 := HKV.out 1879048176 _ HB1.out
          go_wp2_with fail
          refine k9.mono ?_
          rintro e w9 ⟨rfl, rfl⟩
          clear k9
          go_wp2_with ((with_reducible refine at_store ?_); refine store_any rfl _ _ _ rfl x7.heap.size 9 35 _ (.int .u64 (valT E 6 : Nat)) [.int .u64 (valT E 6 : Nat)] #[.string ⟨#[]⟩, .string ⟨#[]⟩, .slice none 0 0, .bool false, .bool false, .bool false, .bool b5, .int .u64 (valT E 5 : Nat), .int .u64 (valT E 10 : Nat), .int .u64 (valT E 6 : Nat), .int .u64 0, .int .u64 0, .int .u64 0, .int .u64 0, .int .u64 0, .int .u64 0, .int .u64 0, .bool b17, .int .u64 (valT E 17 : Nat), .int .u64 (valT E 18 : Nat), .bool b7, .int .u64 (valT E 7 : Nat), .int .u64 (valT E 8 : Nat), .bool b23, .int .u64 (valT E 23 : Nat), .int .u64 (valT E 2 : Nat), .bool b36, .int .u64 (valT E 36 : Nat), .int .u64 (valT E 35 : Nat), .bool q1, .int .u64 (q2 : Nat), .int .u64 (q3 : Nat), .bool b20, .bool pk, .bool b25, .int .u64 (valT E 25 : Nat), .int .u64 (valT E 27 : Nat), .bool b26, .int .u64 (valT E 26 : Nat), .int .u64 (valT E 28 : Nat)] HD1.out rfl rfl rfl u6_size (by intro u hu; rw [List.mem_singleton.1 hu]; rfl) (show 9 + 1 ≤ 40 by decide) (by rfl) ?_)
          intro y1 hg9 hb9
          have HB2 := hide (grown_below (Nat.le_refl _) HB1.out hb9)
          have HD2 := hide hg9
          clear hg9 hb9 HB1 HD1
          go_wp2_with ((with_reducible refine at_store ?_); refine store_any rfl _ _ _ rfl x7.heap.size 10 35 _ (.int .u64 (valT E 4 : Nat)) [.int .u64 (valT E 4 : Nat)] #[.string ⟨#[]⟩, .string ⟨#[]⟩, .slice none 0 0, .bool false, .bool false, .bool false, .bool b5, .int .u64 (valT E 5 : Nat), .int .u64 (valT E 10 : Nat), .int .u64 (valT E 6 : Nat), .int .u64 (valT E 4 : Nat), .int .u64 0, .int .u64 0, .int .u64 0, .int .u64 0, .int .u64 0, .int .u64 0, .bool b17, .int .u64 (valT E 17 : Nat), .int .u64 (valT E 18 : Nat), .bool b7, .int .u64 (valT E 7 : Nat), .int .u64 (valT E 8 : Nat), .bool b23, .int .u64 (valT E 23 : Nat), .int .u64 (valT E 2 : Nat), .bool b36, .int .u64 (valT E 36 : Nat), .int .u64 (valT E 35 : Nat), .bool q1, .int .u64 (q2 : Nat), .int .u64 (q3 : Nat), .bool b20, .bool pk, .bool b25, .int .u64 (valT E 25 : Nat), .int .u64 (valT E 27 : Nat), .bool b26, .int .u64 (valT E 26 : Nat), .int .u64 (valT E 28 : Nat)] HD2.out rfl rfl rfl u6_size (by intro u hu; rw [List.mem_singleton.1 hu]; rfl) (show 10 + 1 ≤ 40 by decide) (by rfl) ?_)
          intro y2 hg9 hb9
          have HB3 := hide (grown_below (Nat.le_refl _) HB2.out hb9)
          have HD3 := hide hg9
          clear hg9 hb9 HB2 HD2
          go_wp2_with ((with_reducible refine at_store ?_); refine store_any rfl _ _ _ rfl x7.heap.size 11 35 _ (.int .u64 (valT E 1879047925 : Nat)) [.int .u64 (valT E 1879047925 : Nat)] #[.string ⟨#[]⟩, .string ⟨#[]⟩, .slice none 0 0, .bool false, .bool false, .bool false, .bool b5, .int .u64 (valT E 5 : Nat), .int .u64 (valT E 10 : Nat), .int .u64 (valT E 6 : Nat), .int .u64 (valT E 4 : Nat), .int .u64 (valT E 1879047925 : Nat), .int .u64 0, .int .u64 0, .int .u64 0, .int .u64 0, .int .u64 0, .bool b17, .int .u64 (valT E 17 : Nat), .int .u64 (valT E 18 : Nat), .bool b7, .int .u64 (valT E 7 : Nat), .int .u64 (valT E 8 : Nat), .bool b23, .int .u64 (valT E 23 : Nat), .int .u64 (valT E 2 : Nat), .bool b36, .int .u64 (valT E 36 : Nat), .int .u64 (valT E 35 : Nat), .bool q1, .int .u64 (q2 : Nat), .int .u64 (q3 : Nat), .bool b20, .bool pk, .bool b25, .int .u64 (valT E 25 : Nat), .int .u64 (valT E 27 : Nat), .bool b26, .int .u64 (valT E 26 : Nat), .int .u64 (valT E 28 : Nat)] HD3.out rfl rfl rfl u6_size (by intro u hu; rw [List.mem_singleton.1 hu]; rfl) (show 11 + 1 ≤ 40 by decide) (by rfl) ?_)
          intro y3 hg9 hb9
          have HB4 := hide (grown_below (Nat.le_refl _) HB3.out hb9)
          have HD4 := hide hg9
          clear hg9 hb9 HB3 HD3
          go_wp2_with ((with_reducible refine at_store ?_); refine store_any rfl _ _ _ rfl x7.heap.size 12 35 _ (.int .u64 (valT E 1879048176 : Nat)) [.int .u64 (valT E 1879048176 : Nat)] #[.string ⟨#[]⟩, .string ⟨#[]⟩, .slice none 0 0, .bool false, .bool false, .bool false, .bool b5, .int .u64 (valT E 5 : Nat), .int .u64 (valT E 10 : Nat), .int .u64 (valT E 6 : Nat), .int .u64 (valT E 4 : Nat), .int .u64 (valT E 1879047925 : Nat), .int .u64 (valT E 1879048176 : Nat), .int .u64 0, .int .u64 0, .int .u64 0, .int .u64 0, .bool b17, .int .u64 (valT E 17 : Nat), .int .u64 (valT E 18 : Nat), .bool b7, .int .u64 (valT E 7 : Nat), .int .u64 (valT E 8 : Nat), .bool b23, .int .u64 (valT E 23 : Nat), .int .u64 (valT E 2 : Nat), .bool b36, .int .u64 (valT E 36 : Nat), .int .u64 (valT E 35 : Nat), .bool q1, .int .u64 (q2 : Nat), .int .u64 (q3 : Nat), .bool b20, .bool pk, .bool b25, .int .u64 (valT E 25 : Nat), .int .u64 (valT E 27 : Nat), .bool b26, .int .u64 (valT E 26 : Nat), .int .u64 (valT E 28 : Nat)] HD4.out rfl rfl rfl u6_size (by intro u hu; rw [List.mem_singleton.1 hu]; rfl) (show 12 + 1 ≤ 40 by decide) (by rfl) ?_)
          intro y4 hg9 hb9
          have HB5 := hide (grown_below (Nat.le_refl _) HB4.out hb9)
          have HD5 := hide hg9
          clear hg9 hb9 HB4 HD4
          have k9 := HKV.out 1879048188 _ HB5.out
          go_wp2_with fail
          refine k9.mono ?_
          rintro e w9 ⟨rfl, rfl⟩
          clear k9
          have k9 := HKV.out 1879048189 _ HB5.out
          go_wp2_with fail
          refine k9.mono ?_
          rintro e w9 ⟨rfl, rfl⟩
          clear k9
          have k9 := HKV.out 1879048190 _ HB5.out
          go_wp2_with fail
          refine k9.mono ?_
          rintro e w9 ⟨rfl, rfl⟩
          clear k9
          have k9 := HKV.out 1879048191 _ HB5.out
          go_wp2_with fail
          refine k9.mono ?_
          rintro e w9 ⟨rfl, rfl⟩
          clear k9
          go_wp2_with ((with_reducible refine at_store ?_); refine store_any rfl _ _ _ rfl x7.heap.size 13 35 _ (.int .u64 (valT E 1879048188 : Nat)) [.int .u64 (valT E 1879048188 : Nat)] #[.string ⟨#[]⟩, .string ⟨#[]⟩, .slice none 0 0, .bool false, .bool false, .bool false, .bool b5, .int .u64 (valT E 5 : Nat), .int .u64 (valT E 10 : Nat), .int .u64 (valT E 6 : Nat), .int .u64 (valT E 4 : Nat), .int .u64 (valT E 1879047925 : Nat), .int .u64 (valT E 1879048176 : Nat), .int .u64 (valT E 1879048188 : Nat), .int .u64 0, .int .u64 0, .int .u64 0, .bool b17, .int .u64 (valT E 17 : Nat), .int .u64 (valT E 18 : Nat), .bool b7, .int .u64 (valT E 7 : Nat), .int .u64 (valT E 8 : Nat), .bool b23, .int .u64 (valT E 23 : Nat), .int .u64 (valT E 2 : Nat), .bool b36, .int .u64 (valT E 36 : Nat), .int .u64 (valT E 35 : Nat), .bool q1, .int .u64 (q2 : Nat), .int .u64 (q3 : Nat), .bool b20, .bool pk, .bool b25, .int .u64 (valT E 25 : Nat), .int .u64 (valT E 27 : Nat), .bool b26, .int .u64 (valT E 26 : Nat), .int .u64 (valT E 28 : Nat)] HD5.out rfl rfl rfl u6_size (by intro u hu; rw [List.mem_singleton.1 hu]; rfl) (show 13 + 1 ≤ 40 by decide) (by rfl) ?_)
          intro y5 hg9 hb9
          have HB6 := hide (grown_below (Nat.le_refl _) HB5.out hb9)
          have HD6 := hide hg9
          clear hg9 hb9 HB5 HD5
          go_wp2_with ((with_reducible refine at_store ?_); refine store_any rfl _ _ _ rfl x7.heap.size 15 35 _ (.int .u64 (valT E 1879048189 : Nat)) [.int .u64 (valT E 1879048189 : Nat)] #[.string ⟨#[]⟩, .string ⟨#[]⟩, .slice none 0 0, .bool false, .bool false, .bool false, .bool b5, .int .u64 (valT E 5 : Nat), .int .u64 (valT E 10 : Nat), .int .u64 (valT E 6 : Nat), .int .u64 (valT E 4 : Nat), .int .u64 (valT E 1879047925 : Nat), .int .u64 (valT E 1879048176 : Nat), .int .u64 (valT E 1879048188 : Nat), .int .u64 0, .int .u64 (valT E 1879048189 : Nat), .int .u64 0, .bool b17, .int .u64 (valT E 17 : Nat), .int .u64 (valT E 18 : Nat), .bool b7, .int .u64 (valT E 7 : Nat), .int .u64 (valT E 8 : Nat), .bool b23, .int .u64 (valT E 23 : Nat), .int .u64 (valT E 2 : Nat), .bool b36, .int .u64 (valT E 36 : Nat), .int .u64 (valT E 35 : Nat), .bool q1, .int .u64 (q2 : Nat), .int .u64 (q3 : Nat), .bool b20, .bool pk, .bool b25, .int .u64 (valT E 25 : Nat), .int .u64 (valT E 27 : Nat), .bool b26, .int .u64 (valT E 26 : Nat), .int .u64 (valT E 28 : Nat)] HD6.out rfl rfl rfl u6_size (by intro u hu; rw [List.mem_singleton.1 hu]; rfl) (show 15 + 1 ≤ 40 by decide) (by rfl) ?_)
          intro y6 hg9 hb9
          have HB7 := hide (grown_below (Nat.le_refl _) HB6.out hb9)
          have HD7 := hide hg9
          clear hg9 hb9 HB6 HD6
          go_wp2_with ((with_reducible refine at_store ?_); refine store_any rfl _ _ _ rfl x7.heap.size 14 35 _ (.int .u64 (valT E 1879048190 : Nat)) [.int .u64 (valT E 1879048190 : Nat)] #[.string ⟨#[]⟩, .string ⟨#[]⟩, .slice none 0 0, .bool false, .bool false, .bool false, .bool b5, .int .u64 (valT E 5 : Nat), .int .u64 (valT E 10 : Nat), .int .u64 (valT E 6 : Nat), .int .u64 (valT E 4 : Nat), .int .u64 (valT E 1879047925 : Nat), .int .u64 (valT E 1879048176 : Nat), .int .u64 (valT E 1879048188 : Nat), .int .u64 (valT E 1879048190 : Nat), .int .u64 (valT E 1879048189 : Nat), .int .u64 0, .bool b17, .int .u64 (valT E 17 : Nat), .int .u64 (valT E 18 : Nat), .bool b7, .int .u64 (valT E 7 : Nat), .int .u64 (valT E 8 : Nat), .bool b23, .int .u64 (valT E 23 : Nat), .int .u64 (valT E 2 : Nat), .bool b36, .int .u64 (valT E 36 : Nat), .int .u64 (valT E 35 : Nat), .bool q1, .int .u64 (q2 : Nat), .int .u64 (q3 : Nat), .bool b20, .bool pk, .bool b25, .int .u64 (valT E 25 : Nat), .int .u64 (valT E 27 : Nat), .bool b26, .int .u64 (valT E 26 : Nat), .int .u64 (valT E 28 : Nat)] HD7.out rfl rfl rfl u6_size (by intro u hu; rw [List.mem_singleton.1 hu]; rfl) (show 14 + 1 ≤ 40 by decide) (by rfl) ?_)
          intro y7 hg9 hb9
          have HB8 := hide (grown_below (Nat.le_refl _) HB7.out hb9)
          have HD8 := hide hg9
          clear hg9 hb9 HB7 HD7
          go_wp2_with ((with_reducible refine at_store ?_); refine store_any rfl _ _ _ rfl x7.heap.size 16 35 _ (.int .u64 (valT E 1879048191 : Nat)) [.int .u64 (valT E 1879048191 : Nat)] #[.string ⟨#[]⟩, .string ⟨#[]⟩, .slice none 0 0, .bool false, .bool false, .bool false, .bool b5, .int .u64 (valT E 5 : Nat), .int .u64 (valT E 10 : Nat), .int .u64 (valT E 6 : Nat), .int .u64 (valT E 4 : Nat), .int .u64 (valT E 1879047925 : Nat), .int .u64 (valT E 1879048176 : Nat), .int .u64 (valT E 1879048188 : Nat), .int .u64 (valT E 1879048190 : Nat), .int .u64 (valT E 1879048189 : Nat), .int .u64 (valT E 1879048191 : Nat), .bool b17, .int .u64 (valT E 17 : Nat), .int .u64 (valT E 18 : Nat), .bool b7, .int .u64 (valT E 7 : Nat), .int .u64 (valT E 8 : Nat), .bool b23, .int .u64 (valT E 23 : Nat), .int .u64 (valT E 2 : Nat), .bool b36, .int .u64 (valT E 36 : Nat), .int .u64 (valT E 35 : Nat), .bool q1, .int .u64 (q2 : Nat), .int .u64 (q3 : Nat), .bool b20, .bool pk, .bool b25, .int .u64 (valT E 25 : Nat), .int .u64 (valT E 27 : Nat), .bool b26, .int .u64 (valT E 26 : Nat), .int .u64 (valT E 28 : Nat)] HD8.out rfl rfl rfl u6_size (by intro u hu; rw [List.mem_singleton.1 hu]; rfl) (show 16 + 1 ≤ 40 by decide) (by rfl) ?_)
          intro y8 hg9 hb9
          have HB9 := hide (grown_below (Nat.le_refl _) HB8.out hb9)
          have HD9 := hide hg9
          clear hg9 hb9 HB8 HD8
          obtain ⟨bsy, hsy⟩ : ∃ b, (decide (cntT E 16 = 1) || bitB (valT E 30) 2) = b := ⟨_, rfl⟩
          have HSY := hide hsy
          have e30 := bit2K (valT E 30) (val_le (fun e he => (HEK.out e he).1) 30)
          clear hsy
          go_upto_region 16 with fail
          go_cut [] from 19 (fun wx => Hid (Below x7.heap.size x7 wx) ∧ Hid (wx.heap[x7.heap.size]? = some (.cells #[.string ⟨#[]⟩, .string ⟨#[]⟩, .slice none 0 0, .bool bsy, .bool false, .bool false, .bool b5, .int .u64 (valT E 5 : Nat), .int .u64 (valT E 10 : Nat), .int .u64 (valT E 6 : Nat), .int .u64 (valT E 4 : Nat), .int .u64 (valT E 1879047925 : Nat), .int .u64 (valT E 1879048176 : Nat), .int .u64 (valT E 1879048188 : Nat), .int .u64 (valT E 1879048190 : Nat), .int .u64 (valT E 1879048189 : Nat), .int .u64 (valT E 1879048191 : Nat), .bool b17, .int .u64 (valT E 17 : Nat), .int .u64 (valT E 18 : Nat), .bool b7, .int .u64 (valT E 7 : Nat), .int .u64 (valT E 8 : Nat), .bool b23, .int .u64 (valT E 23 : Nat), .int .u64 (valT E 2 : Nat), .bool b36, .int .u64 (valT E 36 : Nat), .int .u64 (valT E 35 : Nat), .bool q1, .int .u64 (q2 : Nat), .int .u64 (q3 : Nat), .bool b20, .bool pk, .bool b25, .int .u64 (valT E 25 : Nat), .int .u64 (valT E 27 : Nat), .bool b26, .int .u64 (valT E 26 : Nat), .int .u64 (valT E 28 : Nat)] 35 (0, 0))))
          case first =>
            have k16 := HKN.out 16 _ HB9.out
            have k30 := HKV.out 30 _ HB9.out
            by_cases c16 : cntT E 16 = 1
            · have hcb : ((cntT E 16 : Int) == 1) = true := by rw [c16]; rfl
              have hbs : true = bsy := by rw [← HSY.out, decide_eq_true c16]; rfl
              have HBS := hide hbs
              clear c16 hbs
              go_wp2_with fail
              refine k16.mono ?_
              rintro e w9 ⟨rfl, rfl⟩
              clear k16 k30
              go_wp2_with ((with_reducible refine at_store ?_); refine store_any rfl _ _ _ rfl x7.heap.size 3 35 _ (.bool true) [.bool true] #[.string ⟨#[]⟩, .string ⟨#[]⟩, .slice none 0 0, .bool true, .bool false, .bool false, .bool b5, .int .u64 (valT E 5 : Nat), .int .u64 (valT E 10 : Nat), .int .u64 (valT E 6 : Nat), .int .u64 (valT E 4 : Nat), .int .u64 (valT E 1879047925 : Nat), .int .u64 (valT E 1879048176 : Nat), .int .u64 (valT E 1879048188 : Nat), .int .u64 (valT E 1879048190 : Nat), .int .u64 (valT E 1879048189 : Nat), .int .u64 (valT E 1879048191 : Nat), .bool b17, .int .u64 (valT E 17 : Nat), .int .u64 (valT E 18 : Nat), .bool b7, .int .u64 (valT E 7 : Nat), .int .u64 (valT E 8 : Nat), .bool b23, .int .u64 (valT E 23 : Nat), .int .u64 (valT E 2 : Nat), .bool b36, .int .u64 (valT E 36 : Nat), .int .u64 (valT E 35 : Nat), .bool q1, .int .u64 (q2 : Nat), .int .u64 (q3 : Nat), .bool b20, .bool pk, .bool b25, .int .u64 (valT E 25 : Nat), .int .u64 (valT E 27 : Nat), .bool b26, .int .u64 (valT E 26 : Nat), .int .u64 (valT E 28 : Nat)] HD9.out rfl rfl rfl bo_size (by intro u hu; rw [List.mem_singleton.1 hu]; rfl) (show 3 + 1 ≤ 40 by decide) (by rfl) ?_)
              intro z1 hg9 hb9
              have HZ1 := hide (grown_below (Nat.le_refl _) HB9.out hb9)
              have HY1 := hide hg9
              clear hg9 hb9
              go_wp2
              go_meet
              case rel => exact ⟨HZ1, by rw [Hid, ← HBS.out]; exact HY1.out⟩
            · have hcb : ((cntT E 16 : Int) == 1) = false := by simp; omega
              have hbs : bitB (valT E 30) 2 = bsy := by rw [← HSY.out, decide_eq_false c16]; rfl
              rw [hbs] at e30
              clear c16 hbs
              go_wp2_with fail
              refine k16.mono ?_
              rintro e w9 ⟨rfl, rfl⟩
              clear k16
              go_wp2_with fail
              refine k30.mono ?_
              rintro e w9 ⟨rfl, rfl⟩
              clear k30
              go_wp2_with ((with_reducible refine at_store ?_); refine store_any rfl _ _ _ rfl x7.heap.size 3 35 _ (.bool bsy) [.bool bsy] #[.string ⟨#[]⟩, .string ⟨#[]⟩, .slice none 0 0, .bool bsy, .bool false, .bool false, .bool b5, .int .u64 (valT E 5 : Nat), .int .u64 (valT E 10 : Nat), .int .u64 (valT E 6 : Nat), .int .u64 (valT E 4 : Nat), .int .u64 (valT E 1879047925 : Nat), .int .u64 (valT E 1879048176 : Nat), .int .u64 (valT E 1879048188 : Nat), .int .u64 (valT E 1879048190 : Nat), .int .u64 (valT E 1879048189 : Nat), .int .u64 (valT E 1879048191 : Nat), .bool b17, .int .u64 (valT E 17 : Nat), .int .u64 (valT E 18 : Nat), .bool b7, .int .u64 (valT E 7 : Nat), .int .u64 (valT E 8 : Nat), .bool b23, .int .u64 (valT E 23 : Nat), .int .u64 (valT E 2 : Nat), .bool b36, .int .u64 (valT E 36 : Nat), .int .u64 (valT E 35 : Nat), .bool q1, .int .u64 (q2 : Nat), .int .u64 (q3 : Nat), .bool b20, .bool pk, .bool b25, .int .u64 (valT E 25 : Nat), .int .u64 (valT E 27 : Nat), .bool b26, .int .u64 (valT E 26 : Nat), .int .u64 (valT E 28 : Nat)] HD9.out rfl rfl rfl bo_size (by intro u hu; rw [List.mem_singleton.1 hu]; rfl) (show 3 + 1 ≤ 40 by decide) (by rfl) ?_)
              intro z1 hg9 hb9
              have HZ1 := hide (grown_below (Nat.le_refl _) HB9.out hb9)
              have HY1 := hide hg9
              clear hg9 hb9
              go_wp2
              go_meet
              case rel => exact ⟨HZ1, HY1⟩
          case rest =>
            obtain ⟨HB10, HD10⟩ := hcut
            clear HB9 HD9 e30
            obtain ⟨bgl, hgl⟩ : ∃ b, bitB (valT E 1879048187) 2 = b := ⟨_, rfl⟩
            obtain ⟨bno, hno⟩ : ∃ b, bitB (valT E 1879048187) 8 = b := ⟨_, rfl⟩
            have e2 := bit2K (valT E 1879048187) (val_le (fun e he => (HEK.out e he).1) 1879048187)
            have e8 := bit8K (valT E 1879048187) (val_le (fun e he => (HEK.out e he).1) 1879048187)
            rw [hgl] at e2
            rw [hno] at e8
            have HGL := hide hgl
            have HNO := hide hno
            clear hgl hno
            have k9 := HKV.out 1879048187 _ HB10.out
            go_wp2_with fail
            refine k9.mono ?_
            rintro e w9 ⟨rfl, rfl⟩
            clear k9
            go_wp2_with ((with_reducible refine at_store ?_); refine store_any rfl _ _ _ rfl x7.heap.size 4 35 _ (.bool bgl) [.bool bgl] #[.string ⟨#[]⟩, .string ⟨#[]⟩, .slice none 0 0, .bool bsy, .bool bgl, .bool false, .bool b5, .int .u64 (valT E 5 : Nat), .int .u64 (valT E 10 : Nat), .int .u64 (valT E 6 : Nat), .int .u64 (valT E 4 : Nat), .int .u64 (valT E 1879047925 : Nat), .int .u64 (valT E 1879048176 : Nat), .int .u64 (valT E 1879048188 : Nat), .int .u64 (valT E 1879048190 : Nat), .int .u64 (valT E 1879048189 : Nat), .int .u64 (valT E 1879048191 : Nat), .bool b17, .int .u64 (valT E 17 : Nat), .int .u64 (valT E 18 : Nat), .bool b7, .int .u64 (valT E 7 : Nat), .int .u64 (valT E 8 : Nat), .bool b23, .int .u64 (valT E 23 : Nat), .int .u64 (valT E 2 : Nat), .bool b36, .int .u64 (valT E 36 : Nat), .int .u64 (valT E 35 : Nat), .bool q1, .int .u64 (q2 : Nat), .int .u64 (q3 : Nat), .bool b20, .bool pk, .bool b25, .int .u64 (valT E 25 : Nat), .int .u64 (valT E 27 : Nat), .bool b26, .int .u64 (valT E 26 : Nat), .int .u64 (valT E 28 : Nat)] HD10.out rfl rfl rfl bo_size (by intro u hu; rw [List.mem_singleton.1 hu]; rfl) (show 4 + 1 ≤ 40 by decide) (by rfl) ?_)
            intro y10 hg9 hb9
            have HB11 := hide (grown_below (Nat.le_refl _) HB10.out hb9)
            have HD11 := hide hg9
            clear hg9 hb9 HB10 HD10
            have k9 := HKV.out 1879048187 _ HB11.out
            go_wp2_with fail
            refine k9.mono ?_
            rintro e w9 ⟨rfl, rfl⟩
            clear k9
            go_wp2_with ((with_reducible refine at_store ?_); refine store_any rfl _ _ _ rfl x7.heap.size 5 35 _ (.bool bno) [.bool bno] #[.string ⟨#[]⟩, .string ⟨#[]⟩, .slice none 0 0, .bool bsy, .bool bgl, .bool bno, .bool b5, .int .u64 (valT E 5 : Nat), .int .u64 (valT E 10 : Nat), .int .u64 (valT E 6 : Nat), .int .u64 (valT E 4 : Nat), .int .u64 (valT E 1879047925 : Nat), .int .u64 (valT E 1879048176 : Nat), .int .u64 (valT E 1879048188 : Nat), .int .u64 (valT E 1879048190 : Nat), .int .u64 (valT E 1879048189 : Nat), .int .u64 (valT E 1879048191 : Nat), .bool b17, .int .u64 (valT E 17 : Nat), .int .u64 (valT E 18 : Nat), .bool b7, .int .u64 (valT E 7 : Nat), .int .u64 (valT E 8 : Nat), .bool b23, .int .u64 (valT E 23 : Nat), .int .u64 (valT E 2 : Nat), .bool b36, .int .u64 (valT E 36 : Nat), .int .u64 (valT E 35 : Nat), .bool q1, .int .u64 (q2 : Nat), .int .u64 (q3 : Nat), .bool b20, .bool pk, .bool b25, .int .u64 (valT E 25 : Nat), .int .u64 (valT E 27 : Nat), .bool b26, .int .u64 (valT E 26 : Nat), .int .u64 (valT E 28 : Nat)] HD11.out rfl rfl rfl bo_size (by intro u hu; rw [List.mem_singleton.1 hu]; rfl) (show 5 + 1 ≤ 40 by decide) (by rfl) ?_)
            intro y11 hg9 hb9
            have HB12 := hide (grown_below (Nat.le_refl _) HB11.out hb9)
            have HD12 := hide hg9
            clear hg9 hb9 HB11 HD11
            have HBw : Hid (Below w.heap.size w y11) := HB4.out.trans (HB12.out.mono HB4.out.size)
            have HGw := hide (block_stay HG4.out HB12.out)
            have hv5 := val_le (fun e he => (HEK.out e he).1) 5
            have hv10 := val_le (fun e he => (HEK.out e he).1) 10
            have hS := HST.out _ HBw.out #[.string ⟨#[]⟩, .string ⟨#[]⟩, .slice none 0 0, .bool bsy, .bool bgl, .bool bno, .bool b5, .int .u64 (valT E 5 : Nat), .int .u64 (valT E 10 : Nat), .int .u64 (valT E 6 : Nat), .int .u64 (valT E 4 : Nat), .int .u64 (valT E 1879047925 : Nat), .int .u64 (valT E 1879048176 : Nat), .int .u64 (valT E 1879048188 : Nat), .int .u64 (valT E 1879048190 : Nat), .int .u64 (valT E 1879048189 : Nat), .int .u64 (valT E 1879048191 : Nat), .bool b17, .int .u64 (valT E 17 : Nat), .int .u64 (valT E 18 : Nat), .bool b7, .int .u64 (valT E 7 : Nat), .int .u64 (valT E 8 : Nat), .bool b23, .int .u64 (valT E 23 : Nat), .int .u64 (valT E 2 : Nat), .bool b36, .int .u64 (valT E 36 : Nat), .int .u64 (valT E 35 : Nat), .bool q1, .int .u64 (q2 : Nat), .int .u64 (q3 : Nat), .bool b20, .bool pk, .bool b25, .int .u64 (valT E 25 : Nat), .int .u64 (valT E 27 : Nat), .bool b26, .int .u64 (valT E 26 : Nat), .int .u64 (valT E 28 : Nat)] rfl (valT E 5) (valT E 10) rfl rfl (by omega) (by omega)
            have hsl := HSL.out (valT E 5) (valT E 10)
            have hO := HO4.out
            obtain ⟨⟨S, sb⟩, hSS⟩ : ∃ S, partZ l ps (valT E 5) (valT E 10) = S := ⟨_, rfl⟩
            simp only [hSS] at hS hsl hO
            have HO5 := hide hO
            clear hSS hO HO4 hv5 hv10
            go_wp2_with (first
              | ((with_reducible refine at_load ?_); refine load_row rfl _ _ rfl w.heap.size _ (load_hd HGw.out rfl) rfl ?_)
              | ((with_reducible refine at_loadD ?_); refine load_row rfl _ _ rfl x7.heap.size _ (load_dy HD12.out rfl) rfl ?_))
            refine hS.mono ?_
            rintro e ws ⟨⟨vs, rfl, ownS⟩, hbs⟩
            have HBs : Hid (Below x7.heap.size x7 ws) := HB12.out.trans (hbs.mono HB12.out.size)
            have HDs := hide (block_stay HD12.out hbs)
            have HBws : Hid (Below w.heap.size w ws) := HBw.out.trans (hbs.mono HBw.out.size)
            have HRs := hide (block_stay HR4.out HBs.out)
            obtain ⟨sa, sc, rfl, _⟩ := (ownS.arg (by omega)).isSlice
            have HSLN : Hid (S.length ≤ 140737488351232) := by unfold Hid; omega
            generalize hsn : S.length = sn at *
            have HSN := hide hsn
            have hBS : x7.heap.size < y11.heap.size := (Array.getElem?_eq_some_iff.1 HD12.out).1
            obtain ⟨BS, hBSe⟩ : ∃ BS, y11.heap.size = BS := ⟨_, rfl⟩
            rw [hBSe] at ownS hBS
            have HSs := hide ownS
            have HBS := hide hBS
            clear hsn hBSe hBS
            clear hS hbs ownS HB12 HD12 HBw HGw hsl
            cases sb with
            | false =>
              have HF : Hid (Except.error 91 = O) := by have := HO5.out; rw [if_pos rfl] at this; exact this
              clear HO5
              go_wp2_with ((with_reducible refine at_store ?_); refine store_part rfl _ _ _ rfl (w.heap.size + 1) 0 35 _ zeroDy zeroDy.toArray HRs.out rfl rfl dy_size zeroDy_one (by decide) (by rfl) ?_)
              intro wz hgz hbz
              have HBy := hide (grown_below (Nat.le_succ _) HBws.out hbz)
              have HGy := hide hgz
              clear hgz hbz
              go_wp2
              (try simp only [Exit.inBlock, Exit.then])
              refine bodyPost_ret (results_cell2 rfl _ _ (w.heap.size + 1) _ _ _ _ rfl HGy.out Try.underlying35 rfl (by kernel_rfl)) rfl ?_
              exact ⟨by rw [← HF.out]; rfl, HBy.out⟩
            | true =>
              have hO := HO5.out
              rw [if_neg (by simp)] at hO
              have HVL := hide (fun t => val_le (fun e he => (HEK.out e he).1) t)
              clear HO5
              have kc := HKN.out 14 ws HBs.out
              have kv := HKV.out 14 ws HBs.out
              have kt := ref_Text ws _ S (HSs.out.arg (by rw [HSN.out]; exact HSLN.out)) (valT E 14) (HVL.out 14)
              have HNM : Hid (nameT S E 14 = if cntT E 14 = 1 then (if (textAt S (valT E 14)).2 = 0 then some (textAt S (valT E 14)).1 else none) else some []) := rfl
              cases hnm : nameT S E 14 with
              | none =>
                rw [hnm] at hO HNM
                have HF : Hid (Except.error 91 = O) := hO
                have hc1 : cntT E 14 = 1 := by
                  by_cases c : cntT E 14 = 1
                  · exact c
                  · have := HNM.out; rw [if_neg c] at this; cases this
                have ht1 : ¬ (textAt S (valT E 14)).2 = 0 := fun c => by have := HNM.out; rw [if_pos hc1, if_pos c] at this; cases this
                have hcb : ((cntT E 14 : Int) == 1) = true := by rw [hc1]; rfl
                have htb : ((textAt S (valT E 14)).2 != 0) = true := by simpa using ht1
                generalize (textAt S (valT E 14)) = TT at *
                clear HNM hc1 ht1 hnm hO
                go_wp2_with fail
                refine kc.mono ?_
                rintro e w9 ⟨rfl, rfl⟩
                go_wp2_with fail
                refine kv.mono ?_
                rintro e w9 ⟨rfl, rfl⟩
                go_wp2_with fail
                refine kt.mono ?_
                rintro e wt ⟨rfl, hbt⟩
                have HBt := hide (HBws.out.trans (hbt.mono HBws.out.size))
                have HRt := hide (block_stay HRs.out hbt)
                clear kc kv kt hbt
                go_wp2_with ((with_reducible refine at_store ?_); refine store_part rfl _ _ _ rfl (w.heap.size + 1) 0 35 _ zeroDy zeroDy.toArray HRt.out rfl rfl dy_size zeroDy_one (by decide) (by rfl) ?_)
                intro wz hgz hbz
                have HBy := hide (grown_below (Nat.le_succ _) HBt.out hbz)
                have HGy := hide hgz
                clear hgz hbz
                go_wp2
                (try simp only [Exit.inBlock, Exit.then])
                refine bodyPost_ret (results_cell2 rfl _ _ (w.heap.size + 1) _ _ _ _ rfl HGy.out Try.underlying35 rfl (by kernel_rfl)) rfl ?_
                exact ⟨by rw [← HF.out]; rfl, HBy.out⟩
              | some so =>
                rw [hnm] at hO HNM
                simp only at hO
                have HO6 := hide hO
                clear hO hnm
                go_wp2_with fail
                refine kc.mono ?_
                rintro e w9 ⟨rfl, rfl⟩
                clear kc
                go_upto_if 134 with fail
                go_cut [12, 13] from 19 (fun _ _ wx => Hid (Below x7.heap.size x7 wx) ∧ Hid (wx.heap[x7.heap.size]? = some (.cells #[.string ⟨so.toArray⟩, .string ⟨#[]⟩, .slice none 0 0, .bool bsy, .bool bgl, .bool bno, .bool b5, .int .u64 (valT E 5 : Nat), .int .u64 (valT E 10 : Nat), .int .u64 (valT E 6 : Nat), .int .u64 (valT E 4 : Nat), .int .u64 (valT E 1879047925 : Nat), .int .u64 (valT E 1879048176 : Nat), .int .u64 (valT E 1879048188 : Nat), .int .u64 (valT E 1879048190 : Nat), .int .u64 (valT E 1879048189 : Nat), .int .u64 (valT E 1879048191 : Nat), .bool b17, .int .u64 (valT E 17 : Nat), .int .u64 (valT E 18 : Nat), .bool b7, .int .u64 (valT E 7 : Nat), .int .u64 (valT E 8 : Nat), .bool b23, .int .u64 (valT E 23 : Nat), .int .u64 (valT E 2 : Nat), .bool b36, .int .u64 (valT E 36 : Nat), .int .u64 (valT E 35 : Nat), .bool q1, .int .u64 (q2 : Nat), .int .u64 (q3 : Nat), .bool b20, .bool pk, .bool b25, .int .u64 (valT E 25 : Nat), .int .u64 (valT E 27 : Nat), .bool b26, .int .u64 (valT E 26 : Nat), .int .u64 (valT E 28 : Nat)] 35 (0, 0))) ∧ Hid (Own wx BS (.slice sa sn sc) S))
                case first =>
                  by_cases hc1 : cntT E 14 = 1
                  · have hcb : ((cntT E 14 : Int) == 1) = true := by rw [hc1]; rfl
                    have ht1 : (textAt S (valT E 14)).2 = 0 := by
                      by_cases c : (textAt S (valT E 14)).2 = 0
                      · exact c
                      · have := HNM.out; rw [if_pos hc1, if_neg c] at this; cases this
                    have hso : (textAt S (valT E 14)).1 = so := by have := HNM.out; rw [if_pos hc1, if_pos ht1] at this; exact (Option.some.inj this).symm
                    rw [hso, ht1] at kt
                    clear HNM hc1 ht1 hso
                    go_wp2_with fail
                    refine kv.mono ?_
                    rintro e w9 ⟨rfl, rfl⟩
                    go_wp2_with fail
                    refine kt.mono ?_
                    rintro e wt ⟨rfl, hbt⟩
                    have HBt := hide (HBs.out.trans (hbt.mono HBs.out.size))
                    have HDt := hide (block_stay HDs.out hbt)
                    have HSt := hide (HSs.out.stay hbt)
                    clear kv kt hbt
                    go_wp2_with ((with_reducible refine at_store ?_); refine store_any rfl _ _ _ rfl x7.heap.size 0 35 _ (.string ⟨so.toArray⟩) [.string ⟨so.toArray⟩] #[.string ⟨so.toArray⟩, .string ⟨#[]⟩, .slice none 0 0, .bool bsy, .bool bgl, .bool bno, .bool b5, .int .u64 (valT E 5 : Nat), .int .u64 (valT E 10 : Nat), .int .u64 (valT E 6 : Nat), .int .u64 (valT E 4 : Nat), .int .u64 (valT E 1879047925 : Nat), .int .u64 (valT E 1879048176 : Nat), .int .u64 (valT E 1879048188 : Nat), .int .u64 (valT E 1879048190 : Nat), .int .u64 (valT E 1879048189 : Nat), .int .u64 (valT E 1879048191 : Nat), .bool b17, .int .u64 (valT E 17 : Nat), .int .u64 (valT E 18 : Nat), .bool b7, .int .u64 (valT E 7 : Nat), .int .u64 (valT E 8 : Nat), .bool b23, .int .u64 (valT E 23 : Nat), .int .u64 (valT E 2 : Nat), .bool b36, .int .u64 (valT E 36 : Nat), .int .u64 (valT E 35 : Nat), .bool q1, .int .u64 (q2 : Nat), .int .u64 (q3 : Nat), .bool b20, .bool pk, .bool b25, .int .u64 (valT E 25 : Nat), .int .u64 (valT E 27 : Nat), .bool b26, .int .u64 (valT E 26 : Nat), .int .u64 (valT E 28 : Nat)] HDt.out rfl rfl rfl st_size (by intro u hu; rw [List.mem_singleton.1 hu]; rfl) (show 0 + 1 ≤ 40 by decide) (by rfl) ?_)
                    intro wz hg9 hb9
                    have HZ1 := hide (grown_below (Nat.le_refl _) HBt.out hb9)
                    have HY1 := hide hg9
                    have HSz : Hid (Own wz BS (.slice sa sn sc) S) := HSt.out.apart hb9 (fun k hk e => by have := (World.ownsRow.lt HSt.out k hk).1; have := HBS.out; injection e with e; omega)
                    clear hg9 hb9
                    go_wp2
                    go_meet
                    case rel => exact ⟨HZ1, HY1, HSz⟩
                  · have hcb : ((cntT E 14 : Int) == 1) = false := by simp; omega
                    have hso : ([] : List UInt8) = so := by have := HNM.out; rw [if_neg hc1] at this; exact (Option.some.inj this).symm
                    subst hso
                    clear HNM hc1 kv kt
                    go_wp2
                    go_meet
                    case rel => exact ⟨HBs, HDs, HSs⟩
                case rest =>
                  obtain ⟨HBp, HDp, HSp⟩ := hcut
                  have HBwp : Hid (Below w.heap.size w wc) := HB4.out.trans (HBp.out.mono HB4.out.size)
                  have HRp := hide (block_stay HR4.out HBp.out)
                  have hO := HO6.out
                  clear HBs HDs HSs HRs HBws HO6 HNM kv kt
                  have kc := HKN.out 29 wc HBp.out
                  have kv := HKV.out 29 wc HBp.out
                  have kt := ref_Text wc _ S (HSp.out.arg (by rw [HSN.out]; exact HSLN.out)) (valT E 29) (HVL.out 29)
                  have HNM : Hid (nameT S E 29 = if cntT E 29 = 1 then (if (textAt S (valT E 29)).2 = 0 then some (textAt S (valT E 29)).1 else none) else some []) := rfl
                  cases hnm : nameT S E 29 with
                  | none =>
                    rw [hnm] at hO HNM
                    have HF : Hid (Except.error 91 = O) := hO
                    have hc1 : cntT E 29 = 1 := by
                      by_cases c : cntT E 29 = 1
                      · exact c
                      · have := HNM.out; rw [if_neg c] at this; cases this
                    have ht1 : ¬ (textAt S (valT E 29)).2 = 0 := fun c => by have := HNM.out; rw [if_pos hc1, if_pos c] at this; cases this
                    have hcb : ((cntT E 29 : Int) == 1) = true := by rw [hc1]; rfl
                    have htb : ((textAt S (valT E 29)).2 != 0) = true := by simpa using ht1
                    generalize (textAt S (valT E 29)) = TT at *
                    clear HNM hc1 ht1 hnm hO
                    go_wp2_with fail
                    refine kc.mono ?_
                    rintro e w9 ⟨rfl, rfl⟩
                    go_wp2_with fail
                    refine kv.mono ?_
                    rintro e w9 ⟨rfl, rfl⟩
                    go_wp2_with fail
                    refine kt.mono ?_
                    rintro e wt ⟨rfl, hbt⟩
                    have HBt := hide (HBwp.out.trans (hbt.mono HBwp.out.size))
                    have HRt := hide (block_stay HRp.out hbt)
                    clear kc kv kt hbt
                    go_wp2_with ((with_reducible refine at_store ?_); refine store_part rfl _ _ _ rfl (w.heap.size + 1) 0 35 _ zeroDy zeroDy.toArray HRt.out rfl rfl dy_size zeroDy_one (by decide) (by rfl) ?_)
                    intro wz hgz hbz
                    have HBy := hide (grown_below (Nat.le_succ _) HBt.out hbz)
                    have HGy := hide hgz
                    clear hgz hbz
                    go_wp2
                    (try simp only [Exit.inBlock, Exit.then])
                    refine bodyPost_ret (results_cell2 rfl _ _ (w.heap.size + 1) _ _ _ _ rfl HGy.out Try.underlying35 rfl (by kernel_rfl)) rfl ?_
                    exact ⟨by rw [← HF.out]; rfl, HBy.out⟩
                  | some ru =>
                    rw [hnm] at hO HNM
                    simp only at hO
                    have HO6 := hide hO
                    clear hO hnm
                    go_wp2_with fail
                    refine kc.mono ?_
                    rintro e w9 ⟨rfl, rfl⟩
                    clear kc
                    go_upto_if 149 with fail
                    go_cut [14, 15] from 19 (fun _ _ wx => Hid (Below x7.heap.size x7 wx) ∧ Hid (wx.heap[x7.heap.size]? = some (.cells #[.string ⟨so.toArray⟩, .string ⟨ru.toArray⟩, .slice none 0 0, .bool bsy, .bool bgl, .bool bno, .bool b5, .int .u64 (valT E 5 : Nat), .int .u64 (valT E 10 : Nat), .int .u64 (valT E 6 : Nat), .int .u64 (valT E 4 : Nat), .int .u64 (valT E 1879047925 : Nat), .int .u64 (valT E 1879048176 : Nat), .int .u64 (valT E 1879048188 : Nat), .int .u64 (valT E 1879048190 : Nat), .int .u64 (valT E 1879048189 : Nat), .int .u64 (valT E 1879048191 : Nat), .bool b17, .int .u64 (valT E 17 : Nat), .int .u64 (valT E 18 : Nat), .bool b7, .int .u64 (valT E 7 : Nat), .int .u64 (valT E 8 : Nat), .bool b23, .int .u64 (valT E 23 : Nat), .int .u64 (valT E 2 : Nat), .bool b36, .int .u64 (valT E 36 : Nat), .int .u64 (valT E 35 : Nat), .bool q1, .int .u64 (q2 : Nat), .int .u64 (q3 : Nat), .bool b20, .bool pk, .bool b25, .int .u64 (valT E 25 : Nat), .int .u64 (valT E 27 : Nat), .bool b26, .int .u64 (valT E 26 : Nat), .int .u64 (valT E 28 : Nat)] 35 (0, 0))) ∧ Hid (Own wx BS (.slice sa sn sc) S))
                    case first =>
                      by_cases hc1 : cntT E 29 = 1
                      · have hcb : ((cntT E 29 : Int) == 1) = true := by rw [hc1]; rfl
                        have ht1 : (textAt S (valT E 29)).2 = 0 := by
                          by_cases c : (textAt S (valT E 29)).2 = 0
                          · exact c
                          · have := HNM.out; rw [if_pos hc1, if_neg c] at this; cases this
                        have hso : (textAt S (valT E 29)).1 = ru := by have := HNM.out; rw [if_pos hc1, if_pos ht1] at this; exact (Option.some.inj this).symm
                        rw [hso, ht1] at kt
                        clear HNM hc1 ht1 hso
                        go_wp2_with fail
                        refine kv.mono ?_
                        rintro e w9 ⟨rfl, rfl⟩
                        go_wp2_with fail
                        refine kt.mono ?_
                        rintro e wt ⟨rfl, hbt⟩
                        have HBt := hide (HBp.out.trans (hbt.mono HBp.out.size))
                        have HDt := hide (block_stay HDp.out hbt)
                        have HSt := hide (HSp.out.stay hbt)
                        clear kv kt hbt
                        go_wp2_with ((with_reducible refine at_store ?_); refine store_any rfl _ _ _ rfl x7.heap.size 1 35 _ (.string ⟨ru.toArray⟩) [.string ⟨ru.toArray⟩] #[.string ⟨so.toArray⟩, .string ⟨ru.toArray⟩, .slice none 0 0, .bool bsy, .bool bgl, .bool bno, .bool b5, .int .u64 (valT E 5 : Nat), .int .u64 (valT E 10 : Nat), .int .u64 (valT E 6 : Nat), .int .u64 (valT E 4 : Nat), .int .u64 (valT E 1879047925 : Nat), .int .u64 (valT E 1879048176 : Nat), .int .u64 (valT E 1879048188 : Nat), .int .u64 (valT E 1879048190 : Nat), .int .u64 (valT E 1879048189 : Nat), .int .u64 (valT E 1879048191 : Nat), .bool b17, .int .u64 (valT E 17 : Nat), .int .u64 (valT E 18 : Nat), .bool b7, .int .u64 (valT E 7 : Nat), .int .u64 (valT E 8 : Nat), .bool b23, .int .u64 (valT E 23 : Nat), .int .u64 (valT E 2 : Nat), .bool b36, .int .u64 (valT E 36 : Nat), .int .u64 (valT E 35 : Nat), .bool q1, .int .u64 (q2 : Nat), .int .u64 (q3 : Nat), .bool b20, .bool pk, .bool b25, .int .u64 (valT E 25 : Nat), .int .u64 (valT E 27 : Nat), .bool b26, .int .u64 (valT E 26 : Nat), .int .u64 (valT E 28 : Nat)] HDt.out rfl rfl rfl st_size (by intro u hu; rw [List.mem_singleton.1 hu]; rfl) (show 1 + 1 ≤ 40 by decide) (by rfl) ?_)
                        intro wz hg9 hb9
                        have HZ1 := hide (grown_below (Nat.le_refl _) HBt.out hb9)
                        have HY1 := hide hg9
                        have HSz : Hid (Own wz BS (.slice sa sn sc) S) := HSt.out.apart hb9 (fun k hk e => by have := (World.ownsRow.lt HSt.out k hk).1; have := HBS.out; injection e with e; omega)
                        clear hg9 hb9
                        go_wp2
                        go_meet
                        case rel => exact ⟨HZ1, HY1, HSz⟩
                      · have hcb : ((cntT E 29 : Int) == 1) = false := by simp; omega
                        have hso : ([] : List UInt8) = ru := by have := HNM.out; rw [if_neg hc1] at this; exact (Option.some.inj this).symm
                        subst hso
                        clear HNM hc1 kv kt
                        go_wp2
                        go_meet
                        case rel => exact ⟨HBp, HDp, HSp⟩
                    case rest =>
                      obtain ⟨HBq, HDq, HSq⟩ := hcut
                      have HBwq : Hid (Below w.heap.size w wc) := HB4.out.trans (HBq.out.mono HB4.out.size)
                      have HRq := hide (block_stay HR4.out HBq.out)
                      have hO := HO6.out
                      clear HBp HDp HSp HRp HBwp HO6 HNM kv kt
                      have HO7 := hide hO
                      clear hO
                      have hTL : ([.bool bsy, .bool bgl, .bool bno, .bool b5, .int .u64 (valT E 5 : Nat), .int .u64 (valT E 10 : Nat), .int .u64 (valT E 6 : Nat), .int .u64 (valT E 4 : Nat), .int .u64 (valT E 1879047925 : Nat), .int .u64 (valT E 1879048176 : Nat), .int .u64 (valT E 1879048188 : Nat), .int .u64 (valT E 1879048190 : Nat), .int .u64 (valT E 1879048189 : Nat), .int .u64 (valT E 1879048191 : Nat), .bool b17, .int .u64 (valT E 17 : Nat), .int .u64 (valT E 18 : Nat), .bool b7, .int .u64 (valT E 7 : Nat), .int .u64 (valT E 8 : Nat), .bool b23, .int .u64 (valT E 23 : Nat), .int .u64 (valT E 2 : Nat), .bool b36, .int .u64 (valT E 36 : Nat), .int .u64 (valT E 35 : Nat), .bool q1, .int .u64 (q2 : Nat), .int .u64 (q3 : Nat), .bool b20, .bool pk, .bool b25, .int .u64 (valT E 25 : Nat), .int .u64 (valT E 27 : Nat), .bool b26, .int .u64 (valT E 26 : Nat), .int .u64 (valT E 28 : Nat)] : List Value).length = 37 := rfl
                      have hT1 : ∀ u ∈ (.string ⟨so.toArray⟩ :: .string ⟨ru.toArray⟩ :: [.bool bsy, .bool bgl, .bool bno, .bool b5, .int .u64 (valT E 5 : Nat), .int .u64 (valT E 10 : Nat), .int .u64 (valT E 6 : Nat), .int .u64 (valT E 4 : Nat), .int .u64 (valT E 1879047925 : Nat), .int .u64 (valT E 1879048176 : Nat), .int .u64 (valT E 1879048188 : Nat), .int .u64 (valT E 1879048190 : Nat), .int .u64 (valT E 1879048189 : Nat), .int .u64 (valT E 1879048191 : Nat), .bool b17, .int .u64 (valT E 17 : Nat), .int .u64 (valT E 18 : Nat), .bool b7, .int .u64 (valT E 7 : Nat), .int .u64 (valT E 8 : Nat), .bool b23, .int .u64 (valT E 23 : Nat), .int .u64 (valT E 2 : Nat), .bool b36, .int .u64 (valT E 36 : Nat), .int .u64 (valT E 35 : Nat), .bool q1, .int .u64 (q2 : Nat), .int .u64 (q3 : Nat), .bool b20, .bool pk, .bool b25, .int .u64 (valT E 25 : Nat), .int .u64 (valT E 27 : Nat), .bool b26, .int .u64 (valT E 26 : Nat), .int .u64 (valT E 28 : Nat)] : List Value), u.oneCell' = true := by
                        intro u hu
                        simp only [List.mem_cons, List.not_mem_nil, or_false] at hu
                        rcases hu with rfl | rfl | rfl | rfl | rfl | rfl | rfl | rfl | rfl | rfl | rfl | rfl | rfl | rfl | rfl | rfl | rfl | rfl | rfl | rfl | rfl | rfl | rfl | rfl | rfl | rfl | rfl | rfl | rfl | rfl | rfl | rfl | rfl | rfl | rfl | rfl | rfl | rfl | rfl <;> rfl
                      have hC : ∀ vn, dyCells so ru vn E = .string ⟨so.toArray⟩ :: .string ⟨ru.toArray⟩ :: vn :: [.bool bsy, .bool bgl, .bool bno, .bool b5, .int .u64 (valT E 5 : Nat), .int .u64 (valT E 10 : Nat), .int .u64 (valT E 6 : Nat), .int .u64 (valT E 4 : Nat), .int .u64 (valT E 1879047925 : Nat), .int .u64 (valT E 1879048176 : Nat), .int .u64 (valT E 1879048188 : Nat), .int .u64 (valT E 1879048190 : Nat), .int .u64 (valT E 1879048189 : Nat), .int .u64 (valT E 1879048191 : Nat), .bool b17, .int .u64 (valT E 17 : Nat), .int .u64 (valT E 18 : Nat), .bool b7, .int .u64 (valT E 7 : Nat), .int .u64 (valT E 8 : Nat), .bool b23, .int .u64 (valT E 23 : Nat), .int .u64 (valT E 2 : Nat), .bool b36, .int .u64 (valT E 36 : Nat), .int .u64 (valT E 35 : Nat), .bool q1, .int .u64 (q2 : Nat), .int .u64 (q3 : Nat), .bool b20, .bool pk, .bool b25, .int .u64 (valT E 25 : Nat), .int .u64 (valT E 27 : Nat), .bool b26, .int .u64 (valT E 26 : Nat), .int .u64 (valT E 28 : Nat)] := by
                        intro vn
                        unfold dyCells dyTail
                        rw [HAb5.out, HAb17.out, HAb7.out, HAb23.out, HAb36.out, HAb25.out, HAb26.out, HSY.out, HGL.out, HNO.out, HPK.out, HQ.out, HB20.out]
                        rfl
                      have HGE := hide (ArgD.below3 HE4.out)
                      have HWG : Hid (w.heap.size + 1 < x7.heap.size) := HL4.out
                      have HEw := hide (HE4.out.below HBq.out)
                      refine (‹∀ (a : Act) (w : World), Code.wp Try.prog _ _ a w → _›) _ _ ?_
                      exact ref9_tail w wc HBwq HRq x7.heap.size HWG (.string ⟨so.toArray⟩) (.string ⟨ru.toArray⟩) [.bool bsy, .bool bgl, .bool bno, .bool b5, .int .u64 (valT E 5 : Nat), .int .u64 (valT E 10 : Nat), .int .u64 (valT E 6 : Nat), .int .u64 (valT E 4 : Nat), .int .u64 (valT E 1879047925 : Nat), .int .u64 (valT E 1879048176 : Nat), .int .u64 (valT E 1879048188 : Nat), .int .u64 (valT E 1879048190 : Nat), .int .u64 (valT E 1879048189 : Nat), .int .u64 (valT E 1879048191 : Nat), .bool b17, .int .u64 (valT E 17 : Nat), .int .u64 (valT E 18 : Nat), .bool b7, .int .u64 (valT E 7 : Nat), .int .u64 (valT E 8 : Nat), .bool b23, .int .u64 (valT E 23 : Nat), .int .u64 (valT E 2 : Nat), .bool b36, .int .u64 (valT E 36 : Nat), .int .u64 (valT E 35 : Nat), .bool q1, .int .u64 (q2 : Nat), .int .u64 (q3 : Nat), .bool b20, .bool pk, .bool b25, .int .u64 (valT E 25 : Nat), .int .u64 (valT E 27 : Nat), .bool b26, .int .u64 (valT E 26 : Nat), .int .u64 (valT E 28 : Nat)] HDq (hide hTL) (hide hT1) BS HBS sa sn sc S HSq (by rw [Hid, HSN.out]; exact HSLN.out) ae en ce E HEw HEN HEK HEL.out HGE so ru (hide hC) O HO7 _ _ _ _ _ _ _ _ _ _ _ _ _ _ _ _ _ _ _ _ _ _ _ _ _ _ _ _ _ _ _ _ _ _ _ _ _ _ _ _ _ _ _ _ _ _ _ _ _ _ _ _ _ _ _ _ _ _ _ _ _ _ _ _ _ _ _ _ _ _ _ _ _ _ _ _ _ _ _ _ _ _ _ _ _ _ _ _ _ _ _ _ _ _ _ _ _ _ _ _ _ _ _ _ _ _ _ _ _ _ _ _ _ _ _ _ _ _ _ _ _ _ _ _ _ _ _ _ _ _ _ _ _ _ _ _ _ _ _ _ _ _ _ _ _ _ _ _ _ _ _ _ _ _ _ _ _ _ _ _ _ _ _ _ _ _ _ _ _ _ _ _ _ _ _ _ _ _ _ _ _ _ _ _ _ _ _ _ _ _ _ _ _ _ _ _ _
end Go.Proofs.Ytdclofiifcpkkaa
