
/-
  Layer 9's reference: what the dynamic section of a library says.
-/
import Derived.Test.YtndlfgjkfbdikaaDyJ
import Derived.Deep.Cut
import Derived.OwnWalk
set_option linter.unusedVariables false
namespace Go.Proofs.Ytndlfgjkfbdikaa
open Go.RowKit Go.PlainAid Go.Sort
theorem ArgD.form3 {w : World} {v : Value} {l : List De} (h : ArgD w v l) : ∃ a n cap, v = .slice a n cap ∧ l.length = n := by
  obtain ⟨a, cap, rfl⟩ := h.form
  exact ⟨a, _, cap, rfl, rfl⟩
theorem part_len (l : List UInt8) (ps : List Ph) (x s : Nat) : (partZ l ps x s).1.length ≤ l.length := by
  unfold partZ
  split
  · unfold win; rw [List.length_take, List.length_drop]; omega
  · simp
theorem ar_size : ∀ w, (Go.sizeOf 60).run Try.prog w = .ok 3 w := Try.sizeOf60
theorem bo_size : ∀ w, (Go.sizeOf 4).run Try.prog w = .ok 1 w := Try.sizeOf4
theorem u6_size : ∀ w, (Go.sizeOf 35).run Try.prog w = .ok 1 w := Try.sizeOf35
theorem st_size : ∀ w, (Go.sizeOf 9).run Try.prog w = .ok 1 w := Try.sizeOf9
theorem eq1_dec (n k : Nat) : ((n : Int) == (k : Int)) = decide (n = k) := by
  by_cases c : n = k
  · rw [decide_eq_true c]; simp; omega
  · rw [decide_eq_false c]; simp; omega
theorem alloc_dy (w : World) : (Instr.alloc 62 true (.tuple #[])).run Try.prog w = .ok (.pointer (some ⟨w.heap.size, 0, none⟩)) (w.alloc (.cells zeroDy.toArray 62)) := by kernel_rfl
theorem alloc_op {ops : Array Oper} {rest : List Oper} {o : Oper} {a : Act} {Q : Exit → Act → World → Prop} {w : World} {T : TypeId} (hgd : o.guard = none) (ho : o.op = .alloc T) (v : Value) (w0 : World)
    (hr : (Instr.alloc T true (.tuple #[])).run Try.prog w = .ok v w0) (h : ∀ W, Hid (W = w0) → wpList Try.prog ops Q rest (a.put o.dst v) W) : wpList Try.prog ops Q (o :: rest) a w := by
  refine wpList_plain hgd fun _ hK => ?_
  unfold Oper.wp execOp
  simp only [ho, Sem.run_bind, hr, Result.andThen_ok]
  exact hK _ _ (h _ rfl)
theorem bit2 (n : Nat) (h : (n : Int) ≤ 18446744073709551615) : ((IntKind.u64.wrap ((n : Int) / 2)).tmod 2 == 1) = bitB n 2 := by
  have e : IntKind.u64.wrap ((n : Int) / 2) = (n : Int) / 2 := by rw [IntKind.wrap_u64]; omega
  rw [e, Int.tmod_eq_emod_of_nonneg (by omega)]
  unfold bitB
  by_cases c : n / 2 % 2 = 1
  · rw [decide_eq_true c]; simp; omega
  · rw [decide_eq_false c]; simp; omega
theorem bit8 (n : Nat) (h : (n : Int) ≤ 18446744073709551615) : ((IntKind.u64.wrap ((n : Int) / 8)).tmod 2 == 1) = bitB n 8 := by
  have e : IntKind.u64.wrap ((n : Int) / 8) = (n : Int) / 8 := by rw [IntKind.wrap_u64]; omega
  rw [e, Int.tmod_eq_emod_of_nonneg (by omega)]
  unfold bitB
  by_cases c : n / 8 % 2 = 1
  · rw [decide_eq_true c]; simp; omega
  · rw [decide_eq_false c]; simp; omega
def needY (s : List UInt8) (acc : List (List UInt8)) (L : List De) : Except Nat (List (List UInt8)) := (needL s L).map (acc ++ ·)
theorem needY_start (s : List UInt8) (L : List De) : needY s [] L = needL s L := by unfold needY; cases needL s L <;> simp [Except.map]
theorem needY_skip (s : List UInt8) (acc : List (List UInt8)) (e : De) (r : List De) (h : ¬ e.tag = 1) : needY s acc (e :: r) = needY s acc r := by unfold needY; rw [needL, if_neg h]
theorem needY_91 (s : List UInt8) (acc : List (List UInt8)) (e : De) (r : List De) (h : e.tag = 1) (h1 : ¬ (textAt s e.val).2 = 0) : needY s acc (e :: r) = .error 91 := by unfold needY; rw [needL, if_pos h, if_pos h1]; rfl
theorem needY_92 (s : List UInt8) (acc : List (List UInt8)) (e : De) (r : List De) (h : e.tag = 1) (h1 : (textAt s e.val).2 = 0) (h2 : (textAt s e.val).1 = []) : needY s acc (e :: r) = .error 92 := by unfold needY; rw [needL, if_pos h, if_neg (fun c => c h1), if_pos h2]; rfl
theorem needY_next (s : List UInt8) (acc : List (List UInt8)) (e : De) (r : List De) (h : e.tag = 1) (h1 : (textAt s e.val).2 = 0) (h2 : ¬ (textAt s e.val).1 = []) : needY s acc (e :: r) = needY s (acc ++ [(textAt s e.val).1]) r := by
  unfold needY
  rw [needL, if_pos h, if_neg (fun c => c h1), if_neg h2]
  cases needL s r <;> simp [Except.map]
theorem own_keep {w w' : World} {B C : Nat} {v : Value} {l : List UInt8} (h : Own w B v l) (hb : Below C w w') (hk : ∀ k, v.ownBlock = some k → k < C) : Own w' B v l := by
  obtain ⟨h1, h2⟩ := h
  refine ⟨h1, ?_⟩
  rcases h2 with h2 | ⟨g, cap, cur, rfl, hB, hg, rest⟩
  · exact .inl h2
  · refine .inr ⟨g, cap, cur, rfl, hB, ?_, rest⟩
    rw [hb.block g (hk g rfl)]; exact hg
theorem ts_size : ∀ w, (Go.sizeOf 58).run Try.prog w = .ok 1 w := Try.sizeOf58
theorem build_dy (w : World) (b5 b17 b7 b23 b36 bp b25 b26 : Bool) (xb5 yb5 xb17 yb17 xb7 yb7 xb23 yb23 xb36 yb36 xbp ybp xb25 yb25 xb26 yb26 : Nat) : (Instr.build 62 #[(6, .agg #[.bool b5, .int .u64 (xb5 : Nat), .int .u64 (yb5 : Nat)]), (15, .agg #[.bool b17, .int .u64 (xb17 : Nat), .int .u64 (yb17 : Nat)]), (16, .agg #[.bool b7, .int .u64 (xb7 : Nat), .int .u64 (yb7 : Nat)]), (17, .agg #[.bool b23, .int .u64 (xb23 : Nat), .int .u64 (yb23 : Nat)]), (18, .agg #[.bool b36, .int .u64 (xb36 : Nat), .int .u64 (yb36 : Nat)]), (19, .agg #[.bool bp, .int .u64 (xbp : Nat), .int .u64 (ybp : Nat)]), (22, .agg #[.bool b25, .int .u64 (xb25 : Nat), .int .u64 (yb25 : Nat)]), (23, .agg #[.bool b26, .int .u64 (xb26 : Nat), .int .u64 (yb26 : Nat)])]).run Try.prog w = .ok (.agg #[.string ⟨#[]⟩, .string ⟨#[]⟩, .slice none 0 0, .bool false, .bool false, .bool false, .bool b5, .int .u64 (xb5 : Nat), .int .u64 (yb5 : Nat), .int .u64 0, .int .u64 0, .int .u64 0, .int .u64 0, .int .u64 0, .int .u64 0, .int .u64 0, .int .u64 0, .bool b17, .int .u64 (xb17 : Nat), .int .u64 (yb17 : Nat), .bool b7, .int .u64 (xb7 : Nat), .int .u64 (yb7 : Nat), .bool b23, .int .u64 (xb23 : Nat), .int .u64 (yb23 : Nat), .bool b36, .int .u64 (xb36 : Nat), .int .u64 (yb36 : Nat), .bool bp, .int .u64 (xbp : Nat), .int .u64 (ybp : Nat), .bool false, .bool false, .bool b25, .int .u64 (xb25 : Nat), .int .u64 (yb25 : Nat), .bool b26, .int .u64 (xb26 : Nat), .int .u64 (yb26 : Nat)]) w := by kernel_rfl
theorem argD_keep {w w' : World} {a : Option Addr} {n c C : Nat} {ps : List De} (h : ArgD w (.slice a n c) ps) (hb : Below C w w') (hk : ∀ g, a = some ⟨g, 0, none⟩ → g < C) : ArgD w' (.slice a n c) ps := by
  refine ⟨h.1, ?_⟩
  rcases h.2 with h2 | ⟨g, cap, e, h1, h2, h3, h4⟩
  · exact .inl h2
  · have hg := hk g (by injection e)
    refine .inr ⟨g, cap, e, h1, h2, Nat.lt_of_lt_of_le h3 hb.size, fun j hj k hk' => ?_⟩
    rw [← h4 j hj k hk']
    exact hb.cell (p := ⟨g, j * 2 + k, none⟩) hg
theorem argD_grown {w w' : World} {a : Option Addr} {n c G : Nat} {ps : List De} (h : ArgD w (.slice a n c) ps) (hb : w.grownBy w' (some G)) (hk : ∀ g, a = some ⟨g, 0, none⟩ → g < G) : ArgD w' (.slice a n c) ps := by
  refine ⟨h.1, ?_⟩
  rcases h.2 with h2 | ⟨g, cap, e, h1, h2, h3, h4⟩
  · exact .inl h2
  · have hg := hk g (by injection e)
    refine .inr ⟨g, cap, e, h1, h2, Nat.lt_of_lt_of_le h3 hb.size, fun j hj k hk' => ?_⟩
    rw [← h4 j hj k hk']
    exact World.cell?_of_block (w := w) (hb.block g h3 (by intro e; injection e with e; omega))

def cdrC : Nat → Code → Code
  | 0, c => c
  | k + 1, .seq _ b => cdrC k b
  | _ + 1, c => c
noncomputable def tailP9 : Code := cdrC 18 (Try.f17.body.getD .skip)
set_option maxHeartbeats 8000000 in
set_option maxRecDepth 1000000 in
theorem ref9_tail (w wc : World) (HBw : Hid (Below w.heap.size w wc)) (HR : Hid (wc.heap[w.heap.size + 1]? = some (.cells zeroDy.toArray 62 (0, 0)))) (G : Nat) (HWG : Hid (w.heap.size + 1 < G)) (k0 k1 : Value) (tl : List Value)
    (HD : Hid (wc.heap[G]? = some (.cells (k0 :: k1 :: .slice none 0 0 :: tl).toArray 62 (0, 0)))) (HTL : Hid (tl.length = 37)) (HT1 : Hid (∀ u ∈ k0 :: k1 :: tl, u.oneCell' = true))
    (BS : Nat) (HBS : Hid (G < BS)) (sa : Option Addr) (sn sc : Nat) (S : List UInt8) (HS : Hid (Own wc BS (.slice sa sn sc) S)) (HSL : Hid (S.length ≤ 1000000000000))
    (ae : Option Addr) (en ce : Nat) (E : List De) (HE : Hid (ArgD wc (.slice ae en ce) E)) (HEN : Hid (E.length = en)) (HEK : Hid (∀ e ∈ E, e.ok ∧ e.tag ≠ 0)) (hen : en ≤ 65536) (HGE : Hid (∀ g, ae = some ⟨g, 0, none⟩ → g < G))
    (so ru : List UInt8) (HC : Hid (∀ vn, dyCells so ru vn E = k0 :: k1 :: vn :: tl)) (O : Except Nat Dd)
    (HO : Hid ((if 16 < cntT E 1 then Except.error 92 else match needL S E with | .error n => .error n | .ok ns => .ok ⟨E, so, ru, ns⟩) = O)) (c0 c1 c2 c3 c5 c6 c7 c9 c12 c13 c14 c15 c16 c17 c18 c19 c20 c21 c22 c23 c24 c25 c26 c27 c28 c29 c30 c31 c32 c33 c34 c35 c36 c37 c38 c39 c40 c41 c42 c43 c44 c45 c46 c47 c48 c49 c50 c51 c52 c53 c54 c55 c56 c57 c58 c59 c60 c61 c62 c63 c64 c65 c66 c67 c68 c69 c70 c71 c72 c73 c74 c75 c76 c77 c78 c79 c80 c81 c82 c83 c84 c85 c86 c87 c88 c89 c90 c91 c92 c93 c94 c95 c96 c97 c98 c99 c100 c101 c102 c103 c104 c105 c106 c107 c108 c109 c110 c111 c112 c113 c114 c115 c116 c117 c118 c119 c120 c121 c122 c123 c124 c125 c126 c127 c128 c129 c130 c131 c132 c133 c134 c135 c136 c137 c138 c139 c140 c141 c142 c143 c144 c145 c146 c147 c148 c149 c150 c151 c152 c153 c154 c155 c156 c157 c158 c159 c160 c161 c162 c163 c164 c165 c166 c167 c168 c169 c170 c171 c172 c173 c174 c175 c176 c177 c178 c179 c180 c181 c182 c183 c184 c185 c186 c187 c188 c189 c190 c191 c192 c193 c194 c195 c196 c197 c198 c199 c200 : Value) :
    Code.wp Try.prog tailP9 (bodyPost Try.prog Try.f17 (fun e w' => DynIs w' w.heap.size O e ∧ Below w.heap.size w w')) ⟨#[c0, c1, c2, c3, .pointer (some ⟨w.heap.size + 1, 0, none⟩), c5, c6, c7, .slice ae en ce, c9, .pointer (some ⟨G, 0, none⟩), .slice sa sn sc, c12, c13, c14, c15, c16, c17, c18, c19, c20, c21, c22, c23, c24, c25, c26, c27, c28, c29, c30, c31, c32, c33, c34, c35, c36, c37, c38, c39, c40, c41, c42, c43, c44, c45, c46, c47, c48, c49, c50, c51, c52, c53, c54, c55, c56, c57, c58, c59, c60, c61, c62, c63, c64, c65, c66, c67, c68, c69, c70, c71, c72, c73, c74, c75, c76, c77, c78, c79, c80, c81, c82, c83, c84, c85, c86, c87, c88, c89, c90, c91, c92, c93, c94, c95, c96, c97, c98, c99, c100, c101, c102, c103, c104, c105, c106, c107, c108, c109, c110, c111, c112, c113, c114, c115, c116, c117, c118, c119, c120, c121, c122, c123, c124, c125, c126, c127, c128, c129, c130, c131, c132, c133, c134, c135, c136, c137, c138, c139, c140, c141, c142, c143, c144, c145, c146, c147, c148, c149, c150, c151, c152, c153, c154, c155, c156, c157, c158, c159, c160, c161, c162, c163, c164, c165, c166, c167, c168, c169, c170, c171, c172, c173, c174, c175, c176, c177, c178, c179, c180, c181, c182, c183, c184, c185, c186, c187, c188, c189, c190, c191, c192, c193, c194, c195, c196, c197, c198, c199, c200], []⟩ wc := by
  have k1c := ref9_count wc _ E HE.out 1
  unfold tailP9
  conv => arg 2; whnf
  by_cases h16 : 16 < cntT E 1
  · have hI : (16 : Int) < (cntT E 1 : Int) := by omega
    have HF : Hid (Except.error 92 = O) := by have := HO.out; rw [if_pos h16] at this; exact this
    clear h16
    go_wp2_with fail
    refine k1c.mono ?_
    rintro e w9 ⟨rfl, rfl⟩
    clear k1c
    go_wp2_with ((with_reducible refine at_store ?_); refine store_part rfl _ _ _ rfl (w.heap.size + 1) 0 62 _ zeroDy zeroDy.toArray HR.out rfl rfl dy_size zeroDy_one (by decide) (by rfl) ?_)
    intro wz hgz hbz
    have HBy := hide (grown_below (Nat.le_succ _) HBw.out hbz)
    have HGy := hide hgz
    clear hgz hbz
    go_wp2
    (try simp only [Exit.inBlock, Exit.then])
    refine bodyPost_ret (results_cell2 rfl _ _ (w.heap.size + 1) _ _ _ _ rfl HGy.out Try.underlying62 rfl (by kernel_rfl)) rfl ?_
    exact ⟨by rw [← HF.out]; rfl, HBy.out⟩
  · have hI : ¬ (16 : Int) < (cntT E 1 : Int) := by omega
    have hO := HO.out
    rw [if_neg h16] at hO
    have HON := hide hO
    have HNS : Hid (needY S [] (E.drop 0) = needL S E) := needY_start S E
    obtain ⟨ON, hON⟩ : ∃ ON, needL S E = ON := ⟨_, rfl⟩
    rw [hON] at HON HNS
    have hxl : G < wc.heap.size := (Array.getElem?_eq_some_iff.1 HD.out).1
    have HKS : Hid (∀ k, (Value.slice sa sn sc).ownBlock = some k → k < wc.heap.size) := fun k hk => (World.ownsRow.lt HS.out k hk).2
    have HXL := hide hxl
    clear HO hO h16 hON hxl
    generalize cntT E 1 = cc at *
    go_wp2_with fail
    refine k1c.mono ?_
    rintro e w9 ⟨rfl, rfl⟩
    clear k1c
    go_wp2
    go_loopw [16] (fun vi wr => ∃ (i : Nat) (acc : List (List UInt8)) (va : Option Addr) (vk vc : Nat), vi = .int .i64 i ∧ i ≤ en ∧ Hid (Below wc.heap.size wc wr ∨ True) ∧ Hid (Below w.heap.size w wr) ∧ Hid (wr.heap[w.heap.size + 1]? = some (.cells zeroDy.toArray 62 (0, 0))) ∧ Hid (ArgD wr (.slice ae en ce) E) ∧ Hid (wr.heap[G]? = some (.cells (k0 :: k1 :: .slice va vk vc :: tl).toArray 62 (0, 0))) ∧ Hid (Own wr BS (.slice sa sn sc) S) ∧ Hid (OwnT wr wc.heap.size (.slice va vk vc) acc) ∧ Hid (acc.length ≤ i) ∧ Hid (wc.heap.size ≤ wr.heap.size) ∧ Hid (needY S acc (E.drop i) = ON))
      (fun vi _ => en - (intOf vi).toNat)
    case atStart => exact ⟨0, [], none, 0, 0, rfl, by omega, Or.inr trivial, HBw, HR, HE, HD, HS, OwnT.nil _ _, Nat.le_refl _, Nat.le_refl _, HNS⟩
    case round =>
      obtain ⟨i, acc, va, vk, vc, rfl, hi, _, HBx, HRx, HEx, HDx, HSx, HTx, HAL, HLx, HN⟩ := hrel
      clear HBw HR HE HD HS HNS
      by_cases hlt : i < en
      · have hltI : (i : Int) < (en : Int) := by omega
        have hil : i < E.length := by rw [HEN.out]; exact hlt
        obtain ⟨g, rfl, p1, p2, _, y0, y1⟩ := HEx.out.at i hil
        have hvl := (HEK.out _ (List.getElem_mem hil)).1.val
        have hR := HN.out
        rw [List.drop_eq_getElem_cons hil] at hR
        obtain ⟨ee, hee⟩ : ∃ ee, E[i] = ee := ⟨_, rfl⟩
        rw [hee] at y0 y1 hvl hR
        rw [HEN.out] at p1
        clear hee HN hil
        by_cases htag : ee.tag = 1
        · have htb : ((ee.tag : Int) != 1) = false := by rw [htag]; rfl
          have kt := ref_Text wr _ S (HSx.out.arg HSL.out) ee.val hvl
          by_cases ht1 : (textAt S ee.val).2 = 0
          · by_cases hne : (textAt S ee.val).1 = []
            · rw [needY_92 S acc ee _ htag ht1 hne] at hR
              have HF : Hid (Except.error 92 = O) := by have := HON.out; rw [← hR] at this; exact this
              rw [ht1, hne] at kt
              clear hR htag ht1 hne
              go_wp2_with fail
              refine kt.mono ?_
              rintro e wt ⟨rfl, hbt⟩
              have HBt := hide (HBx.out.trans (hbt.mono HBx.out.size))
              have HRt := hide (block_stay HRx.out hbt)
              clear kt hbt
              go_wp2_with ((with_reducible refine at_store ?_); refine store_part rfl _ _ _ rfl (w.heap.size + 1) 0 62 _ zeroDy zeroDy.toArray HRt.out rfl rfl dy_size zeroDy_one (by decide) (by rfl) ?_)
              intro wz hgz hbz
              have HBy := hide (grown_below (Nat.le_succ _) HBt.out hbz)
              have HGy := hide hgz
              clear hgz hbz
              go_wp2
              (try simp only [Exit.inBlock, Exit.then])
              refine bodyPost_ret (results_cell2 rfl _ _ (w.heap.size + 1) _ _ _ _ rfl HGy.out Try.underlying62 rfl (by kernel_rfl)) rfl ?_
              exact ⟨by rw [← HF.out]; rfl, HBy.out⟩
            · rw [needY_next S acc ee _ htag ht1 hne] at hR
              have HR1 := hide hR
              obtain ⟨x, hx⟩ : ∃ x, (textAt S ee.val).1 = x := ⟨_, rfl⟩
              rw [hx] at kt HR1 hne
              rw [ht1] at kt
              have hxe : x.isEmpty = false := by cases x with
                | nil => exact absurd rfl hne
                | cons a b => rfl
              have hxb : (x == []) = false := by cases x with
                | nil => exact absurd rfl hne
                | cons a b => rfl
              clear hR htag ht1 hne hx
              go_wp2_with fail
              refine kt.mono ?_
              rintro e wt ⟨rfl, hbt⟩
              have HBt := hide (HBx.out.trans (hbt.mono HBx.out.size))
              have HRt := hide (block_stay HRx.out hbt)
              have HEt := hide (HEx.out.below hbt)
              have HDt := hide (block_stay HDx.out hbt)
              have HSt := hide (HSx.out.stay hbt)
              have HTt := hide (HTx.out.stay hbt)
              have HLt : Hid (wc.heap.size ≤ wt.heap.size) := Nat.le_trans HLx.out hbt.size
              have c2 := cells_of_block HDt.out 2 (.slice va vk vc) rfl
              have HWL : Hid (w.heap.size ≤ wc.heap.size) := by have := HWG.out; have := HXL.out; unfold Hid; omega
              clear kt hbt
              go_wp2_with (at_builtin; refine append_t rfl _ _ rfl wc.heap.size wt _ acc x HTt.out rfl rfl (by have := HAL.out; omega) HLt.out ?_)
              intro v' wu hownu hbu
              obtain ⟨ua, uk, uc, hvu⟩ : ∃ ua uk uc, v' = .slice ua uk uc := by obtain ⟨ua, uc, h⟩ := hownu.form; exact ⟨_, _, _, h⟩
              subst hvu
              have HBu : Hid (Below w.heap.size w wu) := HBt.out.trans (hbu.mono HWL.out)
              have HRu : Hid (wu.heap[w.heap.size + 1]? = some (.cells zeroDy.toArray 62 (0, 0))) := (hbu.block _ (by have := HWG.out; have := HXL.out; omega)).trans HRt.out
              have HDu : Hid (wu.heap[G]? = some (.cells (k0 :: k1 :: .slice va vk vc :: tl).toArray 62 (0, 0))) := (hbu.block _ HXL.out).trans HDt.out
              have HSu := hide (own_keep HSt.out hbu HKS.out)
              have HEu := hide (argD_keep HEt.out hbu (fun q hq => Nat.lt_trans (HGE.out q hq) HXL.out))
              have HTu := hide hownu
              have HLu : Hid (wc.heap.size ≤ wu.heap.size) := Nat.le_trans HLt.out hbu.size
              clear hownu hbu c2
              go_wp2_with ((with_reducible refine at_store ?_); refine store_any rfl _ _ _ rfl G 2 62 _ (.slice ua uk uc) [.slice ua uk uc] (k0 :: k1 :: .slice ua uk uc :: tl).toArray HDu.out rfl rfl rfl ts_size (by intro u hu; rw [List.mem_singleton.1 hu]; rfl) (by simp) (by rfl) ?_)
              intro wz hg9 hb9
              have HBz := hide (grown_below (by have := HWG.out; omega) HBu.out hb9)
              have HRz : Hid (wz.heap[w.heap.size + 1]? = some (.cells zeroDy.toArray 62 (0, 0))) := (hb9.block _ (Array.getElem?_eq_some_iff.1 HRu.out).1 (by have := HWG.out; intro e; injection e with e; omega)).trans HRu.out
              have HDz := hide hg9
              have HSz := hide (HSu.out.apart hb9 (fun k hk e => by have := (World.ownsRow.lt HSu.out k hk).1; have := HBS.out; injection e with e; omega))
              have HTz := hide (HTu.out.apart hb9 (fun k hk e => by have := (World.ownsRow.lt HTu.out k hk).1; have := HXL.out; injection e with e; omega))
              have HEz := hide (argD_grown HEu.out hb9 HGE.out)
              have HLz : Hid (wc.heap.size ≤ wz.heap.size) := Nat.le_trans HLu.out hb9.size
              clear hg9 hb9
              go_wp2
              go_roundw
              case rel => exact ⟨i + 1, acc ++ [x], ua, uk, uc, by go_num, by omega, Or.inr trivial, HBz, HRz, HEz, HDz, HSz, HTz, by have := HAL.out; unfold Hid; simp; omega, HLz, HR1⟩
              case measure => simp [intOf]; omega
          · rw [needY_91 S acc ee _ htag ht1] at hR
            have HF : Hid (Except.error 91 = O) := by have := HON.out; rw [← hR] at this; exact this
            have htc : ((textAt S ee.val).2 != 0) = true := by simpa using ht1
            generalize textAt S ee.val = TT at *
            clear hR htag ht1
            go_wp2_with fail
            refine kt.mono ?_
            rintro e wt ⟨rfl, hbt⟩
            have HBt := hide (HBx.out.trans (hbt.mono HBx.out.size))
            have HRt := hide (block_stay HRx.out hbt)
            clear kt hbt
            go_wp2_with ((with_reducible refine at_store ?_); refine store_part rfl _ _ _ rfl (w.heap.size + 1) 0 62 _ zeroDy zeroDy.toArray HRt.out rfl rfl dy_size zeroDy_one (by decide) (by rfl) ?_)
            intro wz hgz hbz
            have HBy := hide (grown_below (Nat.le_succ _) HBt.out hbz)
            have HGy := hide hgz
            clear hgz hbz
            go_wp2
            (try simp only [Exit.inBlock, Exit.then])
            refine bodyPost_ret (results_cell2 rfl _ _ (w.heap.size + 1) _ _ _ _ rfl HGy.out Try.underlying62 rfl (by kernel_rfl)) rfl ?_
            exact ⟨by rw [← HF.out]; rfl, HBy.out⟩
        · have htb : ((ee.tag : Int) != 1) = true := by simp; omega
          rw [needY_skip S acc ee _ htag] at hR
          have HR1 := hide hR
          clear hR htag
          go_wp2
          go_roundw
          case rel => exact ⟨i + 1, acc, va, vk, vc, by go_num, by omega, Or.inr trivial, HBx, HRx, HEx, HDx, HSx, HTx, by have := HAL.out; unfold Hid; omega, HLx, HR1⟩
          case measure => simp [intOf]; omega
      · have hltI : ¬ (i : Int) < (en : Int) := by omega
        have hR := HN.out
        rw [List.drop_eq_nil_of_le (by have := HEN.out; omega)] at hR
        have hON : Except.ok acc = ON := by rw [← hR]; unfold needY needL; simp [Except.map]
        have hOO := HON.out
        rw [← hON] at hOO
        have HOO : Hid (Except.ok ⟨E, so, ru, acc⟩ = O) := hOO
        clear hR HN hON hOO
        have hone : ∀ u ∈ (k0 :: k1 :: .slice va vk vc :: tl : List Value), u.oneCell' = true := by
          intro u hu
          simp only [List.mem_cons] at hu
          rcases hu with rfl | rfl | rfl | hu
          · exact HT1.out _ (by simp)
          · exact HT1.out _ (by simp)
          · rfl
          · exact HT1.out _ (by simp [hu])
        have HON2 := hide hone
        have h40 : (k0 :: k1 :: .slice va vk vc :: tl : List Value).length = 40 := by have := HTL.out; simp [this]
        have H40 := hide h40
        have hsz : ∀ w, (Go.sizeOf 62).run Try.prog w = .ok (k0 :: k1 :: .slice va vk vc :: tl : List Value).length w := by rw [h40]; exact dy_size
        have HSZ := hide hsz
        have hnew : (zeroDy.toArray.toList.take 0 ++ (k0 :: k1 :: .slice va vk vc :: tl : List Value) ++ zeroDy.toArray.toList.drop (0 + (k0 :: k1 :: .slice va vk vc :: tl : List Value).length)).toArray = (k0 :: k1 :: .slice va vk vc :: tl).toArray := by
          have e : List.drop (0 + 40) zeroDy.toArray.toList = [] := rfl
          rw [h40, e, List.append_nil]; rfl
        have HNEW := hide hnew
        clear hone h40 hsz hnew
        go_wp2_with (first
          | ((with_reducible refine at_loadD ?_); refine load_row rfl _ _ rfl G _ (load_dy HDx.out (by rw [List.size_toArray]; exact H40.out)) rfl ?_)
          | ((with_reducible refine at_store ?_); refine store_part rfl _ _ _ rfl (w.heap.size + 1) 0 62 _ (k0 :: k1 :: .slice va vk vc :: tl : List Value) (k0 :: k1 :: .slice va vk vc :: tl).toArray HRx.out rfl rfl HSZ.out HON2.out (by rw [H40.out]; decide) HNEW.out ?_))
        intro wz hgz hbz
        have HBy := hide (grown_below (Nat.le_succ _) HBx.out hbz)
        have HGy := hide hgz
        have HTz := hide (HTx.out.apart hbz (fun k hk e => by have := (World.ownsRow.lt HTx.out k hk).1; have := HWG.out; have := HXL.out; injection e with e; omega))
        clear hgz hbz
        go_wp2
        (try simp only [Exit.inBlock, Exit.then])
        refine bodyPost_ret (results_cell2 rfl _ _ (w.heap.size + 1) _ _ _ _ rfl HGy.out Try.underlying62 rfl (by rw [List.size_toArray, H40.out]; kernel_rfl)) rfl ?_
        refine ⟨?_, HBy.out⟩
        rw [← HOO.out]
        refine ⟨.slice va vk vc, ?_, HTz.out.low (by have := HWG.out; have := HXL.out; omega)⟩
        rw [HC.out]
        rfl
end Go.Proofs.Ytndlfgjkfbdikaa
