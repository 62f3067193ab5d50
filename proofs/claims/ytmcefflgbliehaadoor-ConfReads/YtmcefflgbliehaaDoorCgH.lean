
/-
  Layer 18 (conf): the reference's line: the last part is told a property.
-/
import Derived.Test.YtmcefflgbliehaaDoorCgG
import Derived.Test.YtmcefflgbliehaaDoorCfEa
set_option linter.unusedVariables false
namespace Go.Proofs.YtmcefflgbliehaaDoor
open Go.RowKit Go.PlainAid Go.Sort
/-- What set does is what tell does, where each name is told once. -/
theorem set_tell {l : List Pr} (hn : Nd l) (t : Td) (n : Int) : ∃ (k : Nat) (NP : Pr), (∀ j (hj : j < l.length), j = k ↔ l[j].name = t.name) ∧ (∀ (hj : k < l.length), NP = ⟨t.name, newV l[k].value t, n⟩) ∧ NP.name = t.name ∧ (if k < l.length then l.set k NP else l ++ [⟨t.name, t.value, n⟩]) = tellC l t n := by
  rcases tell_set (l := l) (t := t) (n := n) with ⟨h1, h2⟩ | ⟨k, hk, h1, hnm, h5, h2⟩
  · refine ⟨l.length, ⟨t.name, t.value, n⟩, fun j hj => ⟨fun e => by omega, fun e => ?_⟩, fun hj => by omega, rfl, ?_⟩
    · have := List.find?_eq_none.1 h1 l[j] (List.getElem_mem hj)
      unfold isP at this
      exact absurd e (by simpa using this)
    · rw [if_neg (Nat.lt_irrefl _), h2]
  · refine ⟨k, ⟨t.name, newV l[k].value t, n⟩, fun j hj => ⟨fun e => by subst e; exact hnm, fun e => ?_⟩, fun _ => rfl, rfl, ?_⟩
    · unfold Nd at hn
      have hp := List.pairwise_iff_getElem.1 hn
      rcases Nat.lt_trichotomy j k with h | h | h
      · have := h5 j h
        unfold isP at this
        exact absurd e (by simpa using this)
      · exact h
      · have := hp k j (by simpa using hk) (by simpa using hj) h
        simp only [List.getElem_map] at this
        exact absurd (hnm.trans e.symm) this
    · rw [if_pos hk, h2]
theorem ref18_setT (w : World) (nm0 : List UInt8) (pv : Value) (l : List Pr) (h : ArgP w pv l) (hl9 : l.length ≤ 90000) (hn : Nd l) (nm va : List UInt8) (n : Int) (ad : Bool) (hv : ∀ q ∈ l, q.value.length ≤ 1000000000000) (hpv : va.length ≤ 1000000) (hpn : nm.length ≤ 1000000) :
    Calls Tryd.prog 47 #[.agg #[.string (tx nm0), pv], .agg #[.string (tx nm), .string (tx va), .int .i64 n], .bool ad] w fun e w' => (∃ pv', e = .returned (.agg #[.string (tx nm0), pv']) ∧ OwnP 73 w' w.heap.size pv' (tellC l ⟨nm, va, ad⟩ n)) ∧ Below w.heap.size w w' := by
  obtain ⟨k, NP, h1, h2, h3, h4⟩ := set_tell hn ⟨nm, va, ad⟩ n
  rw [← h4]
  exact ref18_set w nm0 pv l h hl9 ⟨nm, va, n⟩ ad k NP h1 h2 h3 hv hpv hpn
theorem flatX_one (l : List Sx) (h : ∀ s ∈ l, ∃ a n c, s.pv = .slice a n c) : ∀ u ∈ flatX l, u.oneCell' = true := by
  intro u hu
  obtain ⟨s, hs, hu⟩ := List.mem_flatMap.1 hu
  exact sc_one _ _ (h s hs) u hu
theorem flatX_last2 (A : List Sx) (x : Sx) (pv : Value) (ps : List Pr) : ((flatX (A ++ [x])).set (A.length * 2) (.string (tx x.name))).set (A.length * 2 + 1) pv = flatX (A ++ [⟨x.name, pv, ps⟩]) := by
  have e : (flatX (A ++ [x])).set (A.length * 2) (.string (tx x.name)) = flatX (A ++ [x]) := by
    rw [flatX_app, List.set_append_right _ _ (by rw [flatX_len]; omega), flatX_len, Nat.sub_self]
    rfl
  rw [e, flatX_last A x pv ps]
/-- A row of parts is put behind an empty one. -/
theorem append_ss {ops : Array Oper} {rest : List Oper} {o : Oper} {a : Act} {Q : Exit → Act → World → Prop} (hgd : o.guard = none) (s x : Operand)
    (ho : o.op = .call { callee := .builtin .append, args := #[s, x], argTypes := #[30, 30] })
    (B C : Nat) (W : World) (q : Nat) (hown : W.ownsRow B 40 2 (.slice (some ⟨q, 0, none⟩) 0 0) 0 []) (hs : a.eval s = .slice (some ⟨q, 0, none⟩) 0 0) (v : Value) (l : List Sx) (hl : OwnX 40 W C v l) (hx : a.eval x = v) (hpos : 0 < l.length)
    (hone : ∀ u ∈ flatX l, u.oneCell' = true) (hlen : l.length ≤ 100000) (hB : B ≤ W.heap.size)
    (h : ∀ v' w', OwnX 40 w' B v' l → W.grownBy w' (some q) → wpList Tryd.prog ops Q rest (a.put o.dst v') w') :
    wpList Tryd.prog ops Q (o :: rest) a W := by
  obtain ⟨i, hi, hz0, hz1, hz2⟩ := info_parts infoY
  obtain ⟨b, c, rfl, _, _⟩ := row_pos hl hpos
  obtain ⟨v', w', hr, h2, h3, h4, h5⟩ := run_append_own_at (P := Tryd.prog) W B 30 o.type 40 i _ 2 40 Tryd.underlying30 hi hz0 hz1 hz2 rfl (by decide) _ 0 [] hown ⟨b, 0, none⟩ l.length c (flatX l) (flatX_len l)
    (fun j u hj => World.ownsRow.cells hl rfl j u hj) hone (by unfold maxLen; omega) (by omega) hB
  refine wpList_plain hgd fun _ hK => ?_
  unfold Oper.wp execOp
  simp only [ho, resolve, invoke, builtin, Sem.run_bind, Sem.run_pure, Result.andThen_ok, List.map_toArray, List.map_cons, List.map_nil, hs, hx, hr]
  refine hK _ _ (h v' w' ?_ h3)
  unfold OwnX
  simpa using h2
set_option maxHeartbeats 4000000 in
set_option maxRecDepth 20000 in
theorem line_tell (W : World) (B N : Nat) (dv sv : Value) (F : Cf) (ss : List Sx) (h : RfAt W B dv sv F.dirs ss N) (hF : ss.map Sx.sc = F.secs) (hN : N ≤ 50000) (hB : B ≤ W.heap.size) (z : ByteArray) (hz : z.size ≤ 100000) (n : Int) (hn : z.data.toList ≠ []) (hp : Lib.hasPrefix z.data.toList [91] = false) (k : Nat) (hk : k < z.size) (hix : Lib.index z.data.toList [61] = (k : Int)) (nm va : List UInt8) (ad : Bool) (ht : readT z.data.toList = ⟨nm, va, ad⟩) (hb : nameC nm = true) (A : List Sx) (x : Sx) (hss : ss = A ++ [x]) (hnd : Nd x.props) :
    Calls Tryd.prog 27 #[.agg #[dv, sv], .string z, .int .i64 n] W fun e w' => LineTo W B N dv sv (⟨F.dirs, tellS F.secs ⟨nm, va, ad⟩ n⟩, 0) e w' := by
  have HLN := hide (LnAt.new W dv sv)
  have H := hide h
  have HF := hide hF
  obtain ⟨da, dc, rfl⟩ := row_form h.dirs
  obtain ⟨sa, sc, rfl⟩ := row_form h.secs
  obtain ⟨c, h0, hc, hc1, hc2⟩ := not_open hn hp
  have hi : (0 : Int) < (z.size : Int) := by omega
  have hFd : ∀ w, Calls Tryd.prog 25 #[.string z, .int .u8 61] w fun e w' => e = .returned (.int .i64 (k : Int)) ∧ w = w' := fun w => by
    have := ref18_find z 61 w (by omega)
    rw [hix] at this
    exact this
  obtain ⟨hxa, hxb, hla⟩ := sign_text z k hk
  have hcut := cut_at 61 z.data.toList k hix
  unfold readT at ht
  rw [hcut] at ht
  simp only [] at ht
  injection ht with ht1 ht2 ht3
  have hlb : (z.data.toList.drop (k + 1)).length ≤ z.size := by rw [List.length_drop, ← size_list]; omega
  generalize z.data.toList.take k = a at *
  generalize z.data.toList.drop (k + 1) = b at *
  obtain ⟨k1, hk1⟩ : ∃ k1, k + 1 = k1 := ⟨_, rfl⟩
  rw [hk1] at hxb
  have hk0 : ¬ (k : Int) < 0 := by omega
  have hk0' : (0 : Int) ≤ (k : Int) := by omega
  have hkz : (k : Int) ≤ (z.size : Int) := by omega
  have hwk : IntKind.i64.wrap ((k : Int) + 1) = (k1 : Int) := by rw [wrap_i64_is]; omega
  have hk1z : (k1 : Int) ≤ (z.size : Int) := by omega
  have hk10 : (0 : Int) ≤ (k1 : Int) := by omega
  have hE := fun w => ref18_Ends ⟨a.toArray⟩ ⟨#[43]⟩ w (by rw [show (⟨a.toArray⟩ : ByteArray) = tx a from rfl, tx_size]; omega) (by decide)
  simp only [ht3] at hE
  have hsl := suff_len a [43]
  have HT2 : Hid (TrimIs ⟨b.toArray⟩ ⟨va.toArray⟩) := ⟨by rw [show (⟨b.toArray⟩ : ByteArray) = tx b from rfl, tx_size]; omega, by rw [← ht2]; rfl⟩
  have HT1 : Hid (TrimIs ⟨(Lib.trimSuffix a [43]).toArray⟩ ⟨nm.toArray⟩) := ⟨by rw [show (⟨(Lib.trimSuffix a [43]).toArray⟩ : ByteArray) = tx (Lib.trimSuffix a [43]) from rfl, tx_size]; omega, by rw [← ht1]; rfl⟩
  have HNL : Hid (nm.length ≤ 100000) := by have := trim_len (Lib.trimSuffix a [43]); rw [ht1] at this; rw [Hid]; omega
  have HVL : Hid (va.length ≤ 100000) := by have := trim_len b; rw [ht2] at this; rw [Hid]; omega
  have hNm := fun w => ref18_Name ⟨nm.toArray⟩ w (by rw [show (⟨nm.toArray⟩ : ByteArray) = tx nm from rfl, tx_size]; have := HNL.out; omega)
  simp only [hb] at hNm
  have hmx : x ∈ ss := by rw [hss]; exact List.mem_append.2 (.inr (List.mem_singleton.2 rfl))
  have HSET := hide (fun (w' : World) (hw : Below W.heap.size W w') => ref18_setT w' x.name x.pv x.props (((H.out.stay hw).prs x hmx).arg (by have := h.sm.2.2 x hmx; omega)) (by have := h.sm.2.2 x hmx; omega) hnd nm va n ad (fun q hq => by have h1 := h.vl x hmx q hq; have h2 := Nat.mul_le_mul_right 100002 hN; omega) (by have := HVL.out; omega) (by have := HNL.out; omega))
  have HTL : Hid ((tellC x.props ⟨nm, va, ad⟩ n).length ≤ N + 1) := by
    have h1 := h.sm.2.2 x hmx
    unfold Hid
    rcases tell_set (l := x.props) (t := ⟨nm, va, ad⟩) (n := n) with ⟨_, h2⟩ | ⟨k, hk, _, _, _, h2⟩
    · rw [h2]; simp; omega
    · rw [h2, List.length_set]; omega
  have HTV : Hid (∀ p ∈ tellC x.props ⟨nm, va, ad⟩ n, p.value.length ≤ (N + 1) * 100002) := fun p hp => by
    have := LConfLast.tell_vl (l := x.props) (t := ⟨nm, va, ad⟩) (n := n) (fun q hq => h.vl x hmx q hq) HVL.out p hp
    omega
  have HSS := hide hss
  have hsl : ss.length = A.length + 1 := by rw [hss]; simp
  have HSL := hide hsl
  have hs0 : (0 : Int) < (ss.length : Int) := by omega
  have HSB : Hid (ss.length ≤ 50000) := Nat.le_trans h.sm.2.1 hN
  have hwA : IntKind.i64.wrap ((ss.length : Int) - 1) = (A.length : Int) := by rw [wrap_i64_is, hsl]; have := HSB.out; omega
  have hwA2 : (A.length : Int) < (ss.length : Int) := by omega
  have hwA3 : (0 : Int) ≤ (A.length : Int) := by omega
  have HPS := hide (fun s hs => row_form (h.prs s hs))
  have HTS : Hid (∀ pv', (A ++ [(⟨x.name, pv', tellC x.props ⟨nm, va, ad⟩ n⟩ : Sx)]).map Sx.sc = tellS F.secs ⟨nm, va, ad⟩ n) := fun pv' => by rw [tellS_last, ← hss, hF]
  obtain ⟨pa, pn, pc, hpf⟩ : ∃ a n c, x.pv = .slice a n c := by obtain ⟨a, c, e⟩ := row_form (h.prs x hmx); exact ⟨_, _, _, e⟩
  rw [hpf] at HSET
  have HPF := hide hpf
  clear hsl hss hpf hmx hnd
  generalize tellC x.props ⟨nm, va, ad⟩ n = ps at *
  unfold tx at HSET
  clear h hF hn hp hix hcut hk1 hk hlb
  cases ad with
  | true =>
    obtain ⟨K2, hK2, hxc⟩ := plus_text ht3
    have hw2 : IntKind.i64.wrap ((a.length : Int) - 1) = (K2 : Int) := by rw [wrap_i64_is]; omega
    have hK2a : (K2 : Int) ≤ (a.length : Int) := by omega
    have hK20 : (0 : Int) ≤ (K2 : Int) := by omega
    generalize Lib.trimSuffix a [43] = a' at *
    clear hK2 hla ht1 ht2 ht3 hsl
    unfold zFl at HLN
    go_enter Tryd.func27, Tryd.ntmps27
    go_wp2_with fail
    generalize (W.alloc (.cells #[.slice da F.dirs.length dc, .slice sa ss.length sc] 32)).alloc (.cells #[.slice none 0 0, .slice none 0 0] 32) = W2 at *
    go_wp2_with (first
      | (go_at_call 25; refine (hFd _).mono ?_; rintro e w1 ⟨rfl, rfl⟩)
      | (go_at_call 20; refine (hE _).mono ?_; rintro e w1 ⟨rfl, rfl⟩))
    go_region_law (go_simp; refine (call_trim (by first | exact HT1.out | exact HT2.out) _).mono ?_; rintro e w5 ⟨rfl, rfl⟩)
    all_goals
      have HLN3 := hide (HLN.out.stay ((below_box W2 (.cells #[.string ⟨nm.toArray⟩, .string ⟨va.toArray⟩, .int .i64 n] 73)).drew))
      have HP3 : Hid ((W2.alloc (.cells #[.string ⟨nm.toArray⟩, .string ⟨va.toArray⟩, .int .i64 n] 73)).drew.heap[W2.heap.size]? = some (.cells #[.string ⟨nm.toArray⟩, .string ⟨va.toArray⟩, .int .i64 n] 73 (0, 0))) := block_new W2 _
      have HW2 : Hid (W.heap.size + 2 ≤ W2.heap.size) := HLN.out.lt
      generalize (W2.alloc (.cells #[.string ⟨nm.toArray⟩, .string ⟨va.toArray⟩, .int .i64 n] 73)).drew = W3 at *
      have y0 := cells_of_block HP3.out 0 _ rfl
      have y1 := cells_of_block HP3.out 1 _ rfl
      have y2 := cells_of_block HP3.out 2 _ rfl
      clear HLN
      have HLN := HLN3
      clear HLN3
      have c0 := cells_of_block HLN.out.s3 0 _ rfl
      have c1 := cells_of_block HLN.out.s3 1 _ rfl
      have b1 : ∀ o, (W3.alloc o).cell? ⟨W.heap.size, 1, none⟩ = some (.slice sa ss.length sc) := fun o => cells_of_block (HLN.out.stay (below_box W3 o)).s3 1 _ rfl
      have HR3 := hide (fun o => H.out.stay (HLN.out.stay (below_box W3 o)).bw)
      have HMD : Hid ((W3.alloc (.cells #[] 40)).ownsRow W3.heap.size 40 2 (.slice (some ⟨W3.heap.size, 0, none⟩) 0 0) 0 []) := World.ownsRow_made W3 #[] 0 (Nat.le_refl _) (by simp) (by simp)
      go_wp2_with (first
        | (go_at_call 19; refine (hNm _).mono ?_; rintro e w1 ⟨rfl, rfl⟩)
        | (refine append_ss rfl (.tmp 105) (.tmp 107) rfl W3.heap.size B (W3.alloc (.cells #[] 40)) W3.heap.size HMD.out rfl _ ss (HR3.out _).secs rfl (by have := HSL.out; omega) (flatX_one ss (fun s hs => by obtain ⟨a, c, e⟩ := HPS.out s hs; exact ⟨_, _, _, e⟩)) (by have := HSB.out; omega) (below_box W3 _).size ?_; intro v' W4 r4 g4; have HR4 := hide r4; have HG4 := hide ((below_box W3 _).grown g4 (below_box W3 _).size (fun k hk => by injection hk with hk; omega)); clear r4 g4))
      obtain ⟨bb, cc, hv4, hcc1, hcc2⟩ := row_pos HR4.out (by have := HSL.out; omega)
      subst hv4
      have hccI : cc ≤ 9223372036854775807 := by unfold maxLen at hcc2; omega
      have HL4 := hide (HLN.out.stay HG4.out)
      have HP4 := hide (block_stay HP3.out HG4.out)
      have HBB : Hid (W3.heap.size ≤ bb ∧ bb < W4.heap.size) := World.ownsRow.lt HR4.out bb rfl
      have HROW : Hid (∀ W5, Below W4.heap.size W4 W5 → OwnX 40 W5 W3.heap.size (.slice (some ⟨bb, 0, none⟩) ss.length cc) ss) := fun W5 hb => row_keep HR4.out (fun g hg => hb.block g (World.ownsRow.lt HR4.out g hg).2)
      have HC : Hid (∀ W5, Below W4.heap.size W4 W5 → (W5.cell? ⟨bb, A.length * 2, none⟩ = some (.string ⟨x.name.toArray⟩) ∧ W5.cell? ⟨bb, A.length * 2 + 1, none⟩ = some (.slice pa pn pc)) ∧ W5.frozen? ⟨bb, A.length * 2, none⟩ = false ∧ W5.frozen? ⟨bb, A.length * 2 + 1, none⟩ = false) := fun W5 hb => by
        have hr := HROW.out W5 hb
        obtain ⟨cur, hcur⟩ := row_type hr (g := bb) rfl
        have hlen : A.length < ss.length := by have := HSL.out; omega
        have hx9 : ss[A.length] = x := by
          have := HSS.out
          subst this
          simp
        have h0 := World.ownsRow.cells hr (g := bb) rfl (A.length * 2 + 0) (.string (tx x.name)) (by rw [flatX_get ss A.length hlen 0 (by omega), hx9]; rfl)
        have h1 := World.ownsRow.cells hr (g := bb) rfl (A.length * 2 + 1) x.pv (by rw [flatX_get ss A.length hlen 1 (by omega), hx9]; rfl)
        rw [add_at, Nat.zero_add] at h0 h1
        rw [HPF.out] at h1
        exact ⟨⟨h0, h1⟩, block_soft hcur _, block_soft hcur _⟩
      have HD4 : Hid (Below W4.heap.size W4 W4.drew) := (Below.refl _ W4).drew
      have HBD : Hid (Below W.heap.size W W4.drew) := HL4.out.bw.drew
      have e0 := (HC.out _ HD4.out).1.1
      have e1 := (HC.out _ HD4.out).1.2
      have z0 : W4.drew.cell? ⟨W2.heap.size, 0, none⟩ = some (.string ⟨nm.toArray⟩) := cells_of_block (w := W4.drew) HP4.out 0 _ rfl
      have z1 : W4.drew.cell? ⟨W2.heap.size, 1, none⟩ = some (.string ⟨va.toArray⟩) := cells_of_block (w := W4.drew) HP4.out 1 _ rfl
      have z2 : W4.drew.cell? ⟨W2.heap.size, 2, none⟩ = some (.int .i64 n) := cells_of_block (w := W4.drew) HP4.out 2 _ rfl
      clear y0 y1 y2 c0 c1 b1
      go_region_law (go_simp; refine (HSET.out _ HBD.out).mono ?_; rintro e w5 ⟨⟨pv5, rfl, hown⟩, hb5⟩; have HO5 := hide hown; have HB5 := hide (HD4.out.trans hb5); have m0 := (HC.out w5 HB5.out).1.1; have m1 := (HC.out w5 HB5.out).1.2; have f0 := (HC.out w5 HB5.out).2.1; have f1 := (HC.out w5 HB5.out).2.2; obtain ⟨a5, c5, hv5⟩ := row_form hown; subst hv5; clear hown hb5)
      all_goals
        have HB36 := hide ((((HG4.out.trans (HB5.out.mono HG4.out.size)).setCell (p := ⟨bb, A.length * 2, none⟩) HBB.out.1 (.string ⟨x.name.toArray⟩))).setCell (p := ⟨bb, A.length * 2 + 1, none⟩) HBB.out.1 (.slice a5 ps.length c5))
        have HX6 : Hid (OwnX 40 ((w5.setCell ⟨bb, A.length * 2, none⟩ (.string ⟨x.name.toArray⟩)).setCell ⟨bb, A.length * 2 + 1, none⟩ (.slice a5 ps.length c5)) B (.slice (some ⟨bb, 0, none⟩) ss.length cc) (A ++ [⟨x.name, .slice a5 ps.length c5, ps⟩])) := by
          have hr := HROW.out w5 HB5.out
          have hss := HSS.out
          have hr2 := row_set (row_set hr (A.length * 2) (.string ⟨x.name.toArray⟩)) (A.length * 2 + 1) (.slice a5 ps.length c5)
          rw [hss] at hr2
          have hf := flatX_last2 A x (.slice a5 ps.length c5) ps
          unfold tx at hf
          rw [hf] at hr2
          unfold Hid OwnX
          rw [hss]
          rw [List.length_append, List.length_singleton] at hr2 ⊢
          rw [List.length_append, List.length_singleton]
          exact row_low hr2 (Nat.le_trans hB HLN.out.bw.size)
        have HP6 : Hid (OwnP 73 ((w5.setCell ⟨bb, A.length * 2, none⟩ (.string ⟨x.name.toArray⟩)).setCell ⟨bb, A.length * 2 + 1, none⟩ (.slice a5 ps.length c5)) B (.slice a5 ps.length c5) ps) := by
          refine row_low (row_keep HO5.out (fun j hj => ?_)) (Nat.le_trans hB HBD.out.size)
          have hne : j ≠ bb := fun e => by have h1 := (World.ownsRow.lt HO5.out j hj).1; have h2 := HBB.out.2; have h3 : W4.drew.heap.size = W4.heap.size := rfl; omega
          rw [Below.heap_setCell _ _ _ _ hne, Below.heap_setCell _ _ _ _ hne]
        have HL6 := hide (HLN.out.stay HB36.out)
        have HR6 : Hid (RfAt ((w5.setCell ⟨bb, A.length * 2, none⟩ (.string ⟨x.name.toArray⟩)).setCell ⟨bb, A.length * 2 + 1, none⟩ (.slice a5 ps.length c5)) B (.slice da F.dirs.length dc) (.slice (some ⟨bb, 0, none⟩) ss.length cc) F.dirs (A ++ [⟨x.name, .slice a5 ps.length c5, ps⟩]) (N + 1)) := by
          have h := H.out
          have hss := HSS.out
          rw [hss] at h
          exact h.tell (x := x) HL6.out.bw HX6.out HP6.out HTL.out HTV.out
        clear HC HROW e0 e1 z0 z1 z2 m0 m1 f0 f1 HSET HO5 HB5
        generalize (w5.setCell ⟨bb, A.length * 2, none⟩ (.string ⟨x.name.toArray⟩)).setCell ⟨bb, A.length * 2 + 1, none⟩ (.slice a5 ps.length c5) = W6 at *
        have c1 := cells_of_block HL6.out.s3 1 _ rfl
        have f1 := block_soft HL6.out.s3 1
        have h7 := block_set W6 W.heap.size 1 (.slice (some ⟨bb, 0, none⟩) ss.length cc) _ _ _ HL6.out.s3
        have HE7 : Hid ((W6.setCell ⟨W.heap.size, 1, none⟩ (.slice (some ⟨bb, 0, none⟩) ss.length cc)).heap[W.heap.size + 1]? = some (.cells zFl.toArray 32 (0, 0))) := (Below.heap_setCell _ _ _ _ (show W.heap.size + 1 ≠ W.heap.size by omega)).trans HL6.out.s6
        have HR7 := hide (HR6.out.cell (j := 1) (u := .slice (some ⟨bb, 0, none⟩) ss.length cc) HL6.out.s3)
        have HT7 := hide ((Turn.of_below HL6.out.bw).trans (far_cell (W := W) (dv := .slice da F.dirs.length dc) (sv := .slice sa ss.length sc) W.heap.size 1 (.slice (some ⟨bb, 0, none⟩) ss.length cc) (Nat.le_refl _)))
        have y0 := cells_of_block h7 0 _ rfl
        have y1 := cells_of_block h7 1 _ rfl
        clear h7
        go_wp2_with ((with_reducible refine at_storeQ (T := 32) ?_); refine store_part rfl _ _ _ rfl (W.heap.size + 1) 0 32 _ [.slice da F.dirs.length dc, .slice (some ⟨bb, 0, none⟩) ss.length cc] [.slice da F.dirs.length dc, .slice (some ⟨bb, 0, none⟩) ss.length cc].toArray HE7.out rfl rfl rf_size (fl_one _ _ ⟨_, _, _, rfl⟩ ⟨_, _, _, rfl⟩) (Nat.le_refl 2) (by rfl) ?_; intro w4 hg4 hb4; have HG9 := hide hg4; have HR9 := hide (HR7.out.store HE7.out hb4); have HT9 := hide (HT7.out.trans (far_store (W := W) hb4 (by omega))); clear hg4 hb4)
        refine bodyPost_ret (results_cell2 rfl _ _ (W.heap.size + 1) _ _ _ _ rfl HG9.out Tryd.underlying32 rfl (by kernel_rfl)) rfl ?_
        exact ⟨_, _, A ++ [⟨x.name, .slice a5 ps.length c5, ps⟩], rfl, HTS.out _, HR9.out, far_end HT9.out⟩
  | false =>
    have hta : Lib.trimSuffix a [43] = a := by unfold Lib.trimSuffix; rw [if_neg (by rw [ht3]; simp)]
    rw [hta] at HT1
    clear hta hla ht1 ht2 ht3 hsl
    unfold zFl at HLN
    go_enter Tryd.func27, Tryd.ntmps27
    go_wp2_with fail
    generalize (W.alloc (.cells #[.slice da F.dirs.length dc, .slice sa ss.length sc] 32)).alloc (.cells #[.slice none 0 0, .slice none 0 0] 32) = W2 at *
    go_wp2_with (first
      | (go_at_call 25; refine (hFd _).mono ?_; rintro e w1 ⟨rfl, rfl⟩)
      | (go_at_call 20; refine (hE _).mono ?_; rintro e w1 ⟨rfl, rfl⟩))
    go_region_law (go_simp; refine (call_trim (by first | exact HT1.out | exact HT2.out) _).mono ?_; rintro e w5 ⟨rfl, rfl⟩)
    all_goals
      have HLN3 := hide (HLN.out.stay ((below_box W2 (.cells #[.string ⟨nm.toArray⟩, .string ⟨va.toArray⟩, .int .i64 n] 73)).drew))
      have HP3 : Hid ((W2.alloc (.cells #[.string ⟨nm.toArray⟩, .string ⟨va.toArray⟩, .int .i64 n] 73)).drew.heap[W2.heap.size]? = some (.cells #[.string ⟨nm.toArray⟩, .string ⟨va.toArray⟩, .int .i64 n] 73 (0, 0))) := block_new W2 _
      have HW2 : Hid (W.heap.size + 2 ≤ W2.heap.size) := HLN.out.lt
      generalize (W2.alloc (.cells #[.string ⟨nm.toArray⟩, .string ⟨va.toArray⟩, .int .i64 n] 73)).drew = W3 at *
      have y0 := cells_of_block HP3.out 0 _ rfl
      have y1 := cells_of_block HP3.out 1 _ rfl
      have y2 := cells_of_block HP3.out 2 _ rfl
      clear HLN
      have HLN := HLN3
      clear HLN3
      have c0 := cells_of_block HLN.out.s3 0 _ rfl
      have c1 := cells_of_block HLN.out.s3 1 _ rfl
      have b1 : ∀ o, (W3.alloc o).cell? ⟨W.heap.size, 1, none⟩ = some (.slice sa ss.length sc) := fun o => cells_of_block (HLN.out.stay (below_box W3 o)).s3 1 _ rfl
      have HR3 := hide (fun o => H.out.stay (HLN.out.stay (below_box W3 o)).bw)
      have HMD : Hid ((W3.alloc (.cells #[] 40)).ownsRow W3.heap.size 40 2 (.slice (some ⟨W3.heap.size, 0, none⟩) 0 0) 0 []) := World.ownsRow_made W3 #[] 0 (Nat.le_refl _) (by simp) (by simp)
      go_wp2_with (first
        | (go_at_call 19; refine (hNm _).mono ?_; rintro e w1 ⟨rfl, rfl⟩)
        | (refine append_ss rfl (.tmp 105) (.tmp 107) rfl W3.heap.size B (W3.alloc (.cells #[] 40)) W3.heap.size HMD.out rfl _ ss (HR3.out _).secs rfl (by have := HSL.out; omega) (flatX_one ss (fun s hs => by obtain ⟨a, c, e⟩ := HPS.out s hs; exact ⟨_, _, _, e⟩)) (by have := HSB.out; omega) (below_box W3 _).size ?_; intro v' W4 r4 g4; have HR4 := hide r4; have HG4 := hide ((below_box W3 _).grown g4 (below_box W3 _).size (fun k hk => by injection hk with hk; omega)); clear r4 g4))
      obtain ⟨bb, cc, hv4, hcc1, hcc2⟩ := row_pos HR4.out (by have := HSL.out; omega)
      subst hv4
      have hccI : cc ≤ 9223372036854775807 := by unfold maxLen at hcc2; omega
      have HL4 := hide (HLN.out.stay HG4.out)
      have HP4 := hide (block_stay HP3.out HG4.out)
      have HBB : Hid (W3.heap.size ≤ bb ∧ bb < W4.heap.size) := World.ownsRow.lt HR4.out bb rfl
      have HROW : Hid (∀ W5, Below W4.heap.size W4 W5 → OwnX 40 W5 W3.heap.size (.slice (some ⟨bb, 0, none⟩) ss.length cc) ss) := fun W5 hb => row_keep HR4.out (fun g hg => hb.block g (World.ownsRow.lt HR4.out g hg).2)
      have HC : Hid (∀ W5, Below W4.heap.size W4 W5 → (W5.cell? ⟨bb, A.length * 2, none⟩ = some (.string ⟨x.name.toArray⟩) ∧ W5.cell? ⟨bb, A.length * 2 + 1, none⟩ = some (.slice pa pn pc)) ∧ W5.frozen? ⟨bb, A.length * 2, none⟩ = false ∧ W5.frozen? ⟨bb, A.length * 2 + 1, none⟩ = false) := fun W5 hb => by
        have hr := HROW.out W5 hb
        obtain ⟨cur, hcur⟩ := row_type hr (g := bb) rfl
        have hlen : A.length < ss.length := by have := HSL.out; omega
        have hx9 : ss[A.length] = x := by
          have := HSS.out
          subst this
          simp
        have h0 := World.ownsRow.cells hr (g := bb) rfl (A.length * 2 + 0) (.string (tx x.name)) (by rw [flatX_get ss A.length hlen 0 (by omega), hx9]; rfl)
        have h1 := World.ownsRow.cells hr (g := bb) rfl (A.length * 2 + 1) x.pv (by rw [flatX_get ss A.length hlen 1 (by omega), hx9]; rfl)
        rw [add_at, Nat.zero_add] at h0 h1
        rw [HPF.out] at h1
        exact ⟨⟨h0, h1⟩, block_soft hcur _, block_soft hcur _⟩
      have HD4 : Hid (Below W4.heap.size W4 W4.drew) := (Below.refl _ W4).drew
      have HBD : Hid (Below W.heap.size W W4.drew) := HL4.out.bw.drew
      have e0 := (HC.out _ HD4.out).1.1
      have e1 := (HC.out _ HD4.out).1.2
      have z0 : W4.drew.cell? ⟨W2.heap.size, 0, none⟩ = some (.string ⟨nm.toArray⟩) := cells_of_block (w := W4.drew) HP4.out 0 _ rfl
      have z1 : W4.drew.cell? ⟨W2.heap.size, 1, none⟩ = some (.string ⟨va.toArray⟩) := cells_of_block (w := W4.drew) HP4.out 1 _ rfl
      have z2 : W4.drew.cell? ⟨W2.heap.size, 2, none⟩ = some (.int .i64 n) := cells_of_block (w := W4.drew) HP4.out 2 _ rfl
      clear y0 y1 y2 c0 c1 b1
      go_region_law (go_simp; refine (HSET.out _ HBD.out).mono ?_; rintro e w5 ⟨⟨pv5, rfl, hown⟩, hb5⟩; have HO5 := hide hown; have HB5 := hide (HD4.out.trans hb5); have m0 := (HC.out w5 HB5.out).1.1; have m1 := (HC.out w5 HB5.out).1.2; have f0 := (HC.out w5 HB5.out).2.1; have f1 := (HC.out w5 HB5.out).2.2; obtain ⟨a5, c5, hv5⟩ := row_form hown; subst hv5; clear hown hb5)
      all_goals
        have HB36 := hide ((((HG4.out.trans (HB5.out.mono HG4.out.size)).setCell (p := ⟨bb, A.length * 2, none⟩) HBB.out.1 (.string ⟨x.name.toArray⟩))).setCell (p := ⟨bb, A.length * 2 + 1, none⟩) HBB.out.1 (.slice a5 ps.length c5))
        have HX6 : Hid (OwnX 40 ((w5.setCell ⟨bb, A.length * 2, none⟩ (.string ⟨x.name.toArray⟩)).setCell ⟨bb, A.length * 2 + 1, none⟩ (.slice a5 ps.length c5)) B (.slice (some ⟨bb, 0, none⟩) ss.length cc) (A ++ [⟨x.name, .slice a5 ps.length c5, ps⟩])) := by
          have hr := HROW.out w5 HB5.out
          have hss := HSS.out
          have hr2 := row_set (row_set hr (A.length * 2) (.string ⟨x.name.toArray⟩)) (A.length * 2 + 1) (.slice a5 ps.length c5)
          rw [hss] at hr2
          have hf := flatX_last2 A x (.slice a5 ps.length c5) ps
          unfold tx at hf
          rw [hf] at hr2
          unfold Hid OwnX
          rw [hss]
          rw [List.length_append, List.length_singleton] at hr2 ⊢
          rw [List.length_append, List.length_singleton]
          exact row_low hr2 (Nat.le_trans hB HLN.out.bw.size)
        have HP6 : Hid (OwnP 73 ((w5.setCell ⟨bb, A.length * 2, none⟩ (.string ⟨x.name.toArray⟩)).setCell ⟨bb, A.length * 2 + 1, none⟩ (.slice a5 ps.length c5)) B (.slice a5 ps.length c5) ps) := by
          refine row_low (row_keep HO5.out (fun j hj => ?_)) (Nat.le_trans hB HBD.out.size)
          have hne : j ≠ bb := fun e => by have h1 := (World.ownsRow.lt HO5.out j hj).1; have h2 := HBB.out.2; have h3 : W4.drew.heap.size = W4.heap.size := rfl; omega
          rw [Below.heap_setCell _ _ _ _ hne, Below.heap_setCell _ _ _ _ hne]
        have HL6 := hide (HLN.out.stay HB36.out)
        have HR6 : Hid (RfAt ((w5.setCell ⟨bb, A.length * 2, none⟩ (.string ⟨x.name.toArray⟩)).setCell ⟨bb, A.length * 2 + 1, none⟩ (.slice a5 ps.length c5)) B (.slice da F.dirs.length dc) (.slice (some ⟨bb, 0, none⟩) ss.length cc) F.dirs (A ++ [⟨x.name, .slice a5 ps.length c5, ps⟩]) (N + 1)) := by
          have h := H.out
          have hss := HSS.out
          rw [hss] at h
          exact h.tell (x := x) HL6.out.bw HX6.out HP6.out HTL.out HTV.out
        clear HC HROW e0 e1 z0 z1 z2 m0 m1 f0 f1 HSET HO5 HB5
        generalize (w5.setCell ⟨bb, A.length * 2, none⟩ (.string ⟨x.name.toArray⟩)).setCell ⟨bb, A.length * 2 + 1, none⟩ (.slice a5 ps.length c5) = W6 at *
        have c1 := cells_of_block HL6.out.s3 1 _ rfl
        have f1 := block_soft HL6.out.s3 1
        have h7 := block_set W6 W.heap.size 1 (.slice (some ⟨bb, 0, none⟩) ss.length cc) _ _ _ HL6.out.s3
        have HE7 : Hid ((W6.setCell ⟨W.heap.size, 1, none⟩ (.slice (some ⟨bb, 0, none⟩) ss.length cc)).heap[W.heap.size + 1]? = some (.cells zFl.toArray 32 (0, 0))) := (Below.heap_setCell _ _ _ _ (show W.heap.size + 1 ≠ W.heap.size by omega)).trans HL6.out.s6
        have HR7 := hide (HR6.out.cell (j := 1) (u := .slice (some ⟨bb, 0, none⟩) ss.length cc) HL6.out.s3)
        have HT7 := hide ((Turn.of_below HL6.out.bw).trans (far_cell (W := W) (dv := .slice da F.dirs.length dc) (sv := .slice sa ss.length sc) W.heap.size 1 (.slice (some ⟨bb, 0, none⟩) ss.length cc) (Nat.le_refl _)))
        have y0 := cells_of_block h7 0 _ rfl
        have y1 := cells_of_block h7 1 _ rfl
        clear h7
        go_wp2_with ((with_reducible refine at_storeQ (T := 32) ?_); refine store_part rfl _ _ _ rfl (W.heap.size + 1) 0 32 _ [.slice da F.dirs.length dc, .slice (some ⟨bb, 0, none⟩) ss.length cc] [.slice da F.dirs.length dc, .slice (some ⟨bb, 0, none⟩) ss.length cc].toArray HE7.out rfl rfl rf_size (fl_one _ _ ⟨_, _, _, rfl⟩ ⟨_, _, _, rfl⟩) (Nat.le_refl 2) (by rfl) ?_; intro w4 hg4 hb4; have HG9 := hide hg4; have HR9 := hide (HR7.out.store HE7.out hb4); have HT9 := hide (HT7.out.trans (far_store (W := W) hb4 (by omega))); clear hg4 hb4)
        refine bodyPost_ret (results_cell2 rfl _ _ (W.heap.size + 1) _ _ _ _ rfl HG9.out Tryd.underlying32 rfl (by kernel_rfl)) rfl ?_
        exact ⟨_, _, A ++ [⟨x.name, .slice a5 ps.length c5, ps⟩], rfl, HTS.out _, HR9.out, far_end HT9.out⟩
end Go.Proofs.YtmcefflgbliehaaDoor
