
/-
  Layer 14 (aps), the reference: numbers keeps its contract (all numbers of some bytes, up to the first that can't be read).
-/
import Derived.Test.YthbikbeedopbcaaApQ
set_option linter.unusedVariables false
namespace Go.Proofs.Ythbikbeedopbcaa
open Go.RowKit Go.PlainAid
theorem Arg.rs {w : World} {v : Value} {l : List UInt8} (h : Arg w v l) : Rs w v l := by
  by_cases hl : l = []
  · subst hl
    obtain ⟨a, cap, rfl, h1, h2, _⟩ := h
    exact ⟨a, cap, rfl, h1, h2, .inl rfl⟩
  · obtain ⟨g, o, cap, rfl, h1, h2, h3⟩ := h.cells (List.length_pos_iff.2 hl)
    exact ⟨_, cap, rfl, h1, h2, .inr ⟨g, o, rfl, World.block_lt_of_cell? _ _ (h3 0 (List.length_pos_iff.2 hl)), h3⟩⟩
theorem stepS_ok {l : List UInt8} (h : okS l) : stepS l 0 = (dropS l, 0, valS l) := by
  unfold stepS; rw [if_pos h.1, if_neg h.2]; rfl
theorem stepS_no {l : List UInt8} (h : ¬ okS l) : ((stepS l 0).2.1 == 0) = false := by
  unfold stepS
  by_cases h1 : hiN 10 l < 10 ∧ hiN 10 l < l.length
  · rw [if_pos h1, if_pos (Classical.byContradiction fun h2 => h ⟨h1, h2⟩), first_zero]; rfl
  · rw [if_neg h1, first_zero]; exact noErr_ne l
theorem Twin.form {w : World} {v0 sl : Value} {l0 l : List UInt8} (h : Twin v0 l0 sl l 0) (h0 : Rs w v0 l0) : ∃ a cap, sl = .slice a l.length cap ∧ l.length ≤ cap ∧ cap ≤ maxLen := by
  rcases h with ⟨_, n, rfl, hc⟩ | ⟨he, _⟩
  · obtain ⟨a, cap, e, h1, h2, _⟩ := hc.2 w h0
    exact ⟨a, cap, e, h1, h2⟩
  · cases he
theorem NL.set {w wr w2 : World} {v0 sl vo : Value} {l0 l : List UInt8} {acc : List Int} (h : NL w wr v0 l0 sl l acc vo) (hb2 : Below wr.heap.size wr w2) (sl2 x : Value) (o : Obj) :
    let W4 := ((w2.setCell ⟨w.heap.size, 0, none⟩ sl2).setCell ⟨w.heap.size, 1, none⟩ x).alloc o
    W4.heap[w.heap.size]? = some (.cells #[sl2, x] 80 (0, 0)) ∧ OwnI W4 (w.heap.size + 1) vo acc ∧ Below w.heap.size w W4 ∧ w.heap.size + 1 ≤ W4.heap.size := by
  intro W4
  have hc := block_stay h.c hb2
  have h1 := set_bk w2 w.heap.size 0 sl2 _ _ _ hc
  have h2 := set_bk _ w.heap.size 1 x _ _ _ h1
  have hB : Below ((w2.setCell ⟨w.heap.size, 0, none⟩ sl2).setCell ⟨w.heap.size, 1, none⟩ x).heap.size ((w2.setCell ⟨w.heap.size, 0, none⟩ sl2).setCell ⟨w.heap.size, 1, none⟩ x) W4 := below1 _ _
  have ho : ∀ k, k ≠ w.heap.size → ((w2.setCell ⟨w.heap.size, 0, none⟩ sl2).setCell ⟨w.heap.size, 1, none⟩ x).heap[k]? = w2.heap[k]? := fun k hk => by rw [set_bother _ _ _ _ _ hk, set_bother _ _ _ _ _ hk]
  have hs := bk_lt hc
  have hb := h.bel.trans (hb2.mono h.bel.size)
  refine ⟨block_stay h2 hB, OwnI.below ((h.own.below hb2).move (fun k hk => ho k (by have := (h.own.base k hk).1; omega))) hB, ?_, ?_⟩
  · exact ((hb.setCell (Nat.le_refl _) _).setCell (Nat.le_refl _) _).trans (hB.mono (by simpa using hb.size))
  · have := hB.size
    simp at this
    omega
theorem NL.next {w wr W4 w5 : World} {v0 sl sl2 vo v5 : Value} {l0 l : List UInt8} {acc : List Int} (h : NL w wr v0 l0 sl l acc vo) (hk : okS l) (ht : Twin v0 l0 sl2 (dropS l) 0) (hc : W4.heap[w.heap.size]? = some (.cells #[sl2, .int .i64 0] 80 (0, 0))) (hb : Below w.heap.size w W4)
    (ho4 : OwnI W4 (w.heap.size + 1) vo acc) (o5 : OwnI w5 (w.heap.size + 1) v5 (acc ++ [valS l])) (g5 : W4.grownBy w5 vo.ownBlock) : NL w w5 v0 l0 sl2 (dropS l) (acc ++ [valS l]) v5 := by
  have hne : ∀ k, k ≤ w.heap.size → some k ≠ vo.ownBlock := fun k hk e => by have := (ho4.base k e.symm).1; omega
  have hz := numsZ_ok hk
  refine ⟨by rw [g5.block _ (bk_lt hc) (hne _ (Nat.le_refl _))]; exact hc, ht, o5, hb.trans ⟨g5.os, g5.tape, g5.output, g5.size, fun k hk => g5.block k (Nat.lt_of_lt_of_le hk hb.size) (hne k (by omega))⟩, ?_, ?_, ?_⟩
  · rw [h.a1, hz, List.append_assoc]; rfl
  · rw [h.a2, hz]
  · have := h.len; have := dropS_len hk; rw [List.length_append, List.length_singleton]; omega
set_option maxHeartbeats 2000000 in
set_option maxRecDepth 20000 in
theorem ref14_numbers (w : World) (v : Value) (l0 : List UInt8) (h : Arg w v l0) (hl : l0.length ≤ 100000) :
    Calls Try.prog 18 #[v] w fun e w' => NumsIs w l0 e w' ∧ Below w.heap.size w w' := by
  have hrs := h.rs
  have HRS := hide (fun W (hW : Below w.heap.size w W) => hrs.stay hW)
  have HIS : Hid (IsSl v) := by obtain ⟨a, cap, e, _⟩ := hrs; exact ⟨_, _, _, e⟩
  have HS := hide (fun W (hW : Below w.heap.size w W) sl l e ht => ref_S_all W v l0 (hrs.stay hW) hl sl l e ht)
  have HST : Hid (NL w (w.alloc (.cells #[v, .int .i64 0] 80)) v l0 v l0 [] (.slice none 0 0)) :=
    ⟨heap_alloc_new _ _, .inl ⟨rfl, 0, by simp, Cut.refl l0 HIS.out⟩, OwnI.nil _ _, below1 _ _, by simp, rfl, by simp⟩
  have HFN : Hid (∀ w' v' acc, OwnI w' (w.heap.size + 1) v' acc → (numsZ l0).1 = acc → (numsZ l0).2 = true → NumsIs w l0 (.returned (.tuple #[v', .bool true])) w') := fun w' v' acc h1 h2 h3 => ⟨v', by rw [h3], by rw [h2]; exact h1.low (by omega)⟩
  have HFF : Hid (∀ w' v' acc, OwnI w' (w.heap.size + 1) v' acc → (numsZ l0).1 = acc → (numsZ l0).2 = false → NumsIs w l0 (.returned (.tuple #[v', .bool false])) w') := fun w' v' acc h1 h2 h3 => ⟨v', by rw [h3], by rw [h2]; exact h1.low (by omega)⟩
  obtain ⟨a, n, cap, hv⟩ := HIS.out
  have HV := hide hv
  have HLL := hide hl
  obtain ⟨N0, hN0⟩ : ∃ N0, l0.length = N0 := ⟨_, rfl⟩
  have HN0 := hide hN0
  subst hv
  clear h hrs hN0 hl
  go_enter Try.func18, Try.ntmps18
  go_wp2_with fail
  go_loopw [4, 6] (fun v4 _ wr => ∃ (sl : Value) (l : List UInt8) (acc : List Int), Hid (NL w wr (.slice a n cap) l0 sl l acc v4)) (fun v4 _ _ => N0 - slenR v4)
  case atStart => exact ⟨_, l0, [], HST⟩
  case round =>
    rename_i v4 _ wr
    obtain ⟨sl, l, acc, HN⟩ := hrel
    obtain ⟨b, bc, hsl, _⟩ := HN.out.tw.form (HRS.out _ HN.out.bel)
    have c0 := cells_of_block HN.out.c 0 sl rfl
    have c1 := cells_of_block HN.out.c 1 (.int .i64 0) rfl
    have f0 := frozen_bk HN.out.c 0
    have f1 := frozen_bk HN.out.c 1
    obtain ⟨oa, oc, hvo⟩ := HN.out.own.form
    obtain ⟨nl, hnl⟩ : ∃ nl, l.length = nl := ⟨_, rfl⟩
    obtain ⟨na, hna⟩ : ∃ na, acc.length = na := ⟨_, rfl⟩
    have HNA := hide hna
    have HNL := hide hnl
    rw [hnl] at hsl
    rw [hna] at hvo
    subst hsl
    subst hvo
    clear hnl hna HST
    by_cases hl0 : l = []
    · have h0 : nl = 0 := by have := HNL.out; rw [hl0] at this; simpa using this.symm
      have HE := hide (HFN.out _ _ acc HN.out.own (by have := HN.out.a1; rw [hl0] at this; simpa [numsZ_nil] using this) (by have := HN.out.a2; rw [hl0] at this; exact this))
      have HBE := hide HN.out.bel
      subst h0
      clear hl0 HN HNL
      go_wp2
      go_ret2
      exact ⟨HE.out, HBE.out⟩
    · have hpos : 0 < nl := by rw [← HNL.out]; exact List.length_pos_iff.2 hl0
      have hposI : (0 : Int) < (nl : Int) := by omega
      have hS := HS.out _ HN.out.bel _ l 0 HN.out.tw
      have HL0 := hide hl0
      by_cases hk : okS l
      · rw [stepS_ok hk] at hS
        have HK := hide hk
        clear hl0 hk
        go_wp2_with fail
        refine hS.mono ?_
        rintro e w2 ⟨sl2, rfl, ht2, hb2⟩
        have hb2X := hide hb2
        have HC2 := hide (block_stay HN.out.c hb2)
        have HB2 := hide (HN.out.bel.trans (hb2.mono HN.out.bel.size))
        have HO2 := hide (HN.out.own.below hb2)
        have HT2 : Hid (Twin (.slice a n cap) l0 sl2 (dropS l) 0) := ht2
        obtain ⟨b2, bc2, hsl2, _⟩ := HT2.out.form (HRS.out _ HB2.out)
        clear hS c0 c1 f0 f1 ht2 hb2
        have c0 := cells_of_block HC2.out 0 (.slice b nl bc) rfl
        have c1 := cells_of_block HC2.out 1 (.int .i64 0) rfl
        have f0 := frozen_bk HC2.out 0
        have f1 := frozen_bk HC2.out 1
        have HSET := hide (HN.out.set hb2X.out (.slice b2 (dropS l).length bc2) (.int .i64 0) (.cells #[.int .i64 (valS l)] 2))
        have hI := ints1 ((w2.setCell ⟨w.heap.size, 0, none⟩ (.slice b2 (dropS l).length bc2)).setCell ⟨w.heap.size, 1, none⟩ (.int .i64 0)) (valS l)
        have hsz : ((w2.setCell ⟨w.heap.size, 0, none⟩ (.slice b2 (dropS l).length bc2)).setCell ⟨w.heap.size, 1, none⟩ (.int .i64 0)).heap.size = w2.heap.size := by simp
        rw [hsz] at hI
        have HI := hide hI
        subst hsl2
        clear hI hsz
        have HLA : Hid (acc.length + 1 ≤ 1000000) := by have := HN.out.len; have := HLL.out; unfold Hid; omega
        obtain ⟨nd, hnd⟩ : ∃ nd, (dropS l).length = nd := ⟨_, rfl⟩
        rw [hnd] at HSET HI HT2
        rw [hnd]
        clear hnd
        go_wp2_with (at_builtin; refine append_is rfl _ _ rfl (w.heap.size + 1) _ _ acc HSET.out.2.1 HSET.out.2.2.2 w2.heap.size 1 1 [valS l] rfl HI.out HLA.out rfl rfl ?_)
        intro v5 w5 o5 g5 _
        have HNX := hide (NL.next HN.out HK.out HT2.out HSET.out.1 HSET.out.2.2.1 HSET.out.2.1 o5 g5)
        obtain ⟨a5, c5, hv5⟩ := o5.form
        have HLN : Hid ((acc ++ [valS l]).length = na + 1) := by rw [Hid, List.length_append, HNA.out]; rfl
        rw [HLN.out] at hv5
        subst hv5
        have hlt : na < N0 := by have := HN.out.len; have := HNL.out; have := HNA.out; have := HN0.out; omega
        clear o5 g5
        go_wp2
        go_roundw
        case rel => exact ⟨_, dropS l, acc ++ [valS l], HNX⟩
        case measure => simp [slenR]; omega
      · have hne := stepS_no hk
        obtain ⟨e2, he2⟩ : ∃ e2, (stepS l 0).2.1 = e2 := ⟨_, rfl⟩
        obtain ⟨n2, hn2⟩ : ∃ n2, (stepS l 0).2.2 = n2 := ⟨_, rfl⟩
        rw [he2] at hne
        have hne2 : (e2 != 0) = true := by simp [bne, hne]
        have HZN := hide (numsZ_no hl0 hk)
        have hS2 : Calls Try.prog 32 #[.agg #[.slice b nl bc, .int .i64 0]] wr fun x w' => (∃ sl', x = .returned (.tuple #[.agg #[sl', .int .i64 e2], .int .i64 n2]) ∧ IsSl sl') ∧ Below wr.heap.size wr w' := by
          refine hS.mono ?_
          rintro x w' ⟨sl', rfl, ht, hb⟩
          exact ⟨⟨sl', by rw [he2, hn2], ht.isSl⟩, hb⟩
        clear hS hl0 hk he2 hn2
        go_wp2_with fail
        refine hS2.mono ?_
        rintro e w2 ⟨⟨sl2, rfl, b2, n3, bc2, rfl⟩, hb2⟩
        have HC2 := hide (block_stay HN.out.c hb2)
        have hset := HN.out.set hb2 (.slice b2 n3 bc2) (.int .i64 e2) (.cells #[] 2)
        have HEND := hide (HFF.out ((w2.setCell ⟨w.heap.size, 0, none⟩ (.slice b2 n3 bc2)).setCell ⟨w.heap.size, 1, none⟩ (.int .i64 e2)) _ acc ((HN.out.own.below hb2).move (fun k hk => by
          have := (HN.out.own.base k hk).1
          rw [set_bother _ _ _ _ _ (show k ≠ w.heap.size by omega), set_bother _ _ _ _ _ (show k ≠ w.heap.size by omega)])) (by have := HN.out.a1; rw [HZN.out] at this; simpa using this) (by rw [HN.out.a2, HZN.out]))
        have HBE : Hid (Below w.heap.size w ((w2.setCell ⟨w.heap.size, 0, none⟩ (.slice b2 n3 bc2)).setCell ⟨w.heap.size, 1, none⟩ (.int .i64 e2))) := ((HN.out.bel.trans (hb2.mono HN.out.bel.size)).setCell (Nat.le_refl _) _).setCell (Nat.le_refl _) _
        clear hS2 hset hb2 c0 c1 f0 f1
        have c0 := cells_of_block HC2.out 0 (.slice b nl bc) rfl
        have c1 := cells_of_block HC2.out 1 (.int .i64 0) rfl
        have f0 := frozen_bk HC2.out 0
        have f1 := frozen_bk HC2.out 1
        go_wp2
        go_ret2
        exact ⟨HEND.out, HBE.out⟩
end Go.Proofs.Ythbikbeedopbcaa
