
/-
  New rows of noughts; bytes are read out of sheets: Read keeps its contract.
-/
import Derived.Test.YtdecbnmibjcnaaaVmN
set_option linter.unusedVariables false
namespace Go.Proofs.Ytdecbnmibjcnaaa
open Go.RowKit Go.PlainAid
theorem Holds.of_own {w : World} {B g n cap : Nat} {t : TypeId} {k : Nat} {xs : List Value} (h : w.ownsRow B t k (.slice (some ⟨g, 0, none⟩) n cap) n xs) : Holds w g t xs := by
  obtain ⟨hl, h⟩ := h
  rcases h with ⟨e, _⟩ | ⟨g', cap', cur, e, _, hg, _, _, _, ht⟩
  · cases e
  · injection e with e1 e2 e3
    injection e1 with e1
    injection e1 with e1
    subst e1
    exact ⟨cur, hg, ht ▸ List.take_prefix _ _⟩
theorem made_list (zc : Array Value) (N : Nat) : (madeCells zc N).toList = (List.range N).map (fun i => zc[i % zc.size]!) := by
  unfold madeCells; simp
theorem make_bytes {ops : Array Oper} {rest : List Oper} {o : Oper} {a : Act} {Q : Exit → Act → World → Prop} {w : World} (hgd : o.guard = none) (l c : Operand) (ho : o.op = Op.makeSlice 44 l c)
    (n : Nat) (hn : n ≤ 1000000) (hl : a.eval l = .int .u64 (n : Int)) (hc : a.eval c = .int .u64 (n : Int))
    (hK : ∀ w', Holds w' w.heap.size 5 (List.replicate n (.int .u8 0)) → Below w.heap.size w w' → wpList Try.prog ops Q rest (a.put o.dst (.slice (some ⟨w.heap.size, 0, none⟩) n n)) w') : wpList Try.prog ops Q (o :: rest) a w := by
  obtain ⟨i, hi, hz0, hz1, hz2⟩ := info_parts Try.info8
  refine wpList_make_full (P := Try.prog) w hgd l c 44 ho w.heap.size 5 i (.int .u8 0) 1 Try.underlying44 hi hz0 hz1 .u64 .u64 n n n hl hc rfl rfl (by rw [hz2]; omega) (by unfold maxLen; omega) (Nat.le_refl _) ?_
  intro w' h1 h2
  refine hK w' ?_ ((Below.refl _ w).grown h2 (Nat.le_refl _) (by simp))
  have h3 := Holds.of_own h1
  rw [made_list] at h3
  have : (List.range (n * 1)).map (fun i => (Value.int .u8 0).cells[i % (Value.int .u8 0).cells.size]!) = List.replicate n (.int .u8 0) := by
    apply List.ext_getElem
    · simp
    · intro j h1 h2
      simp [Value.cells, Nat.mod_one]
  rw [this] at h3
  exact h3
/-- The bytes of sheets one behind the other. -/
def dat (l : List Sh) : List UInt8 := l.flatMap Sh.data
theorem dat_len {l : List Sh} (h : ∀ s ∈ l, s.data.length = 256) : (dat l).length = l.length * 256 := by
  induction l with
  | nil => rfl
  | cons s l ih =>
    have h1 := ih fun x hx => h x (List.mem_cons_of_mem _ hx)
    have h2 := h s List.mem_cons_self
    have e : dat (s :: l) = s.data ++ dat l := rfl
    rw [e, List.length_append, h1, h2, List.length_cons]; omega
/-- What holds between two rounds of Read. -/
structure RdAt (w wr : World) (B g : Nat) (zs : List Sh) (n i f k k' m : Nat) (tgt : List UInt8) (R : List Sh) (D T : List UInt8) : Prop where
  all : zs.length = i + R.length
  rest : R = zs.drop i
  fle : f ≤ 255
  cov : R ≠ [] → 256 * R.length < m + f + 256 ∧ 0 < m ∧ k' = k
  fit : m + f ≤ 256 * R.length ∨ R = []
  tl : T.length = m
  te : T = ((dat R).drop f).take m
  dl : D.length = k
  eq : D ++ T = tgt
  km : k + m = n
  holds : Holds wr B 5 (bv D ++ List.replicate m (.int .u8 0))
  turn : Turn (· = B) w wr
theorem RdAt.step {w wr w1 : World} {B g : Nat} {zs : List Sh} {n i f k k' m : Nat} {tgt : List UInt8} {s : Sh} {R : List Sh} {D T : List UInt8} (h : RdAt w wr B g zs n i f k k' m tgt (s :: R) D T) (hs : s.data.length = 256)
    (h1 : Holds w1 B 5 ((bv D ++ List.replicate m (Value.int .u8 0)).take k' ++ ((s.data.drop f).take m).map (fun b => Value.int .u8 (b.toNat : Int)) ++ (bv D ++ List.replicate m (Value.int .u8 0)).drop (k' + min (256 - f) m)))
    (h2 : wr.grownBy w1 (some B)) : ∀ k2, (¬ m = min (256 - f) m → k2 = k + min (256 - f) m) → RdAt w w1 B g zs n (i + 1) 0 (k + min (256 - f) m) k2 (m - min (256 - f) m) tgt R (D ++ T.take (min (256 - f) m)) (T.drop (min (256 - f) m)) := by
  intro k2 hk2
  obtain ⟨a1, a2, a3, a4, a5, a6, a7, a8, a9, a10, a11, a12⟩ := h
  obtain ⟨c1, c2, c3⟩ := a4 (by simp)
  rw [List.length_cons] at c1 a1
  have hfit : m + f ≤ 256 * (R.length + 1) := by
    rcases a5 with a5 | a5
    · simpa using a5
    · cases a5
  have hT : T.take (min (256 - f) m) = (s.data.drop f).take m := by
    rw [a7, List.take_take]
    have e : (dat (s :: R)).drop f = s.data.drop f ++ dat R := by
      show (s.data ++ dat R).drop f = _
      rw [List.drop_append_of_le_length (by omega)]
    rw [e, List.take_append_of_le_length (by rw [List.length_drop]; omega)]
    by_cases hm : m ≤ 256 - f
    · rw [show min (min (256 - f) m) m = m by omega]
    · rw [show min (min (256 - f) m) m = 256 - f by omega, List.take_of_length_le (by rw [List.length_drop]; omega), List.take_of_length_le (by rw [List.length_drop]; omega)]
  have hTl : (T.take (min (256 - f) m)).length = min (256 - f) m := by rw [List.length_take, a6]; omega
  refine ⟨by omega, ?_, by omega, ?_, ?_, by rw [List.length_drop, a6], ?_, by rw [List.length_append, a8, hTl], by rw [List.append_assoc, List.take_append_drop]; exact a9, by omega, ?_, a12.trans (Turn.of_grown h2 rfl)⟩
  · rw [← List.drop_drop, ← a2]; rfl
  · intro hne
    have : 1 ≤ R.length := List.length_pos_iff.2 hne
    refine ⟨by omega, by omega, hk2 (by omega)⟩
  · by_cases hR : R = []
    · exact .inr hR
    · have : 1 ≤ R.length := List.length_pos_iff.2 hR
      left; omega
  · rw [a7, List.drop_take, List.drop_drop, List.drop_zero]
    by_cases hm : m ≤ 256 - f
    · rw [show m - min (256 - f) m = 0 by omega, List.take_zero, List.take_zero]
    · congr 1
      show (s.data ++ dat R).drop (f + min (256 - f) m) = _
      rw [show f + min (256 - f) m = s.data.length by omega, List.drop_left]
  · subst c3
    have hbl : (bv D).length = k' := by unfold bv; rw [List.length_map, a8]
    have e1 : (bv D ++ List.replicate m (Value.int .u8 0)).take k' = bv D := by rw [← hbl, List.take_left]
    have e2 : (bv D ++ List.replicate m (Value.int .u8 0)).drop (k' + min (256 - f) m) = List.replicate (m - min (256 - f) m) (.int .u8 0) := by
      rw [← hbl, List.drop_length_add_append, List.drop_replicate]
    rw [e1, e2] at h1
    rw [bv_append, hT]
    exact h1
/-- What Read answers. -/
def rdE (sp : Sp) (a n : Nat) : Nat := match got sp.rooms a n (some 4) with
  | .error e => e
  | .ok _ => 0
def rdB (sp : Sp) (a n : Nat) : List UInt8 := match got sp.rooms a n (some 4) with
  | .ok (some r) => ((dat (r.cut a n)).drop (a % 256)).take n
  | _ => []
def RdI (w wr : World) (B g : Nat) (zs : List Sh) (n i f m k' : Nat) (tgt : List UInt8) : Prop := ∃ k R D T, RdAt w wr B g zs n i f k k' m tgt R D T
theorem Src.page {wr : World} {B g o f : Nat} {s : Sh} (hr : wr.rangeAt g o s.cells) (hs : s.data.length = 256) (hf : f ≤ 255) (hg : g ≠ B) : Src wr (· = B) (.slice (some ⟨g, o + 2 + f, none⟩) (256 - f) (256 - f)) (s.data.drop f) := by
  refine ⟨_, _, by rw [List.length_drop, hs], by rw [List.length_drop]; omega, by unfold maxLen; omega, .inr ⟨_, rfl, .inr hg, fun j hj => ?_⟩⟩
  rw [List.length_drop] at hj
  rw [Addr.add_mid]
  have := hr (2 + f + j) (.int .u8 ((s.data.drop f)[j].toNat : Int)) (by
    unfold Sh.cells
    rw [show 2 + f + j = f + j + 1 + 1 by omega]
    simp [List.getElem?_eq_getElem (show f + j < s.data.length by omega)])
  rw [show o + (2 + f + j) = o + 2 + f + j by omega] at this
  exact this
theorem Src.mono {w : World} {F G : Nat → Prop} {v : Value} {l : List UInt8} (h : Src w F v l) (hG : ∀ k, k < w.heap.size → G k → F k) : Src w G v l := by
  obtain ⟨a, cap, rfl, h1, h2, h3⟩ := h
  refine ⟨a, cap, rfl, h1, h2, ?_⟩
  rcases h3 with h3 | ⟨x, rfl, hx, hc⟩
  · exact .inl h3
  · refine .inr ⟨x, rfl, ?_, hc⟩
    by_cases hd : l = []
    · exact .inl hd
    · have hl : 0 < l.length := List.length_pos_iff.2 hd
      have := World.block_lt_of_cell? _ _ (hc 0 hl)
      rw [add_block] at this
      exact .inr (fun e => hx.elim hd (fun h => h (hG _ this e)))
set_option maxHeartbeats 4000000 in
set_option maxRecDepth 20000 in
theorem vm_Read_some (w : World) (S a n g o N cp f : Nat) (zs : List Sh) (hn : (n : Int) ≤ 18446744073709551615) (hn1 : n ≤ 16384) (hz : n ≠ 0) (HAM : Hid ((a : Int) % 256 = (f : Int))) (hfl : f ≤ 255) (hN : N ≤ 64) (hcapN : N ≤ cp) (hcap2 : cp ≤ 9223372036854775807)
    (HLEN : Hid (zs.length = N)) (HBL : Hid (g < w.heap.size)) (HZ : Hid (∀ s ∈ zs, s.data.length = 256)) (HR : Hid (∀ i (hi : i < zs.length), w.rangeAt g (o + i * 258) zs[i].cells)) (HCOV : Hid (256 * zs.length < n + f + 256 ∧ n + f ≤ 256 * zs.length))
    (hA : Calls Try.prog 38 #[.pointer (some ⟨S, 0, none⟩), .int .u64 a, .int .u64 n, .int .i64 4] w fun e w' => e = .returned (.tuple #[.slice (some ⟨g, o, none⟩) N cp, .int .i64 0]) ∧ Below w.heap.size w w') :
    Calls Try.prog 25 #[.pointer (some ⟨S, 0, none⟩), .int .u64 a, .int .u64 n] w fun e w' => (∃ vb, e = .returned (.tuple #[vb, .int .i64 0]) ∧ Src w' (· < w.heap.size) vb (((dat zs).drop f).take n)) ∧ Below w.heap.size w w' := by
  go_enter Try.func25, Try.ntmps25
  go_wp2_with (first | (go_at_call 38; refine hA.mono ?_; rintro e w1 ⟨rfl, hb⟩; clear hA) | (refine make_bytes rfl _ _ rfl n (by omega) rfl rfl ?_; intro w2 h1 h2; have H1 : Hid (Holds w2 w1.heap.size 5 (List.replicate n (.int .u8 0))) := h1; have H2 : Hid (Below w1.heap.size w1 w2) := h2; clear h1 h2))
  go_loopw [11, 12, 13, 31] (fun vr vf _ vi wr => ∃ i f' m k' : Nat, i ≤ N ∧ vi = .int .i64 i ∧ vf = .int .u64 f' ∧ f' ≤ 255 ∧ vr = .slice (some ⟨w1.heap.size, k', none⟩) m m ∧ m ≤ n ∧ Hid (RdI w2 wr w1.heap.size g zs n i f' m k' (((dat zs).drop f).take n))) (fun _ _ _ vi _ => N - (intOf vi).toNat)
  case atStart =>
    refine ⟨0, f, n, 0, by omega, rfl, ?_, hfl, rfl, by omega, 0, zs, [], ((dat zs).drop f).take n, by omega, rfl, hfl, fun hne => ⟨HCOV.out.1, by omega, rfl⟩, .inl HCOV.out.2, ?_, rfl, rfl, rfl, by omega, by simpa [bv] using H1.out, Turn.refl _ _⟩
    · rw [HAM.out]
    · rw [List.length_take, List.length_drop, dat_len HZ.out]; have := HCOV.out.2; omega
  case round =>
    obtain ⟨i, f', m, k', hi, rfl, rfl, hf', rfl, hm, k, R, D, T, hL⟩ := hrel
    by_cases hlt : i < N
    · have hltI : (i : Int) < (N : Int) := by omega
      have hzl : i < zs.length := by have := HLEN.out; omega
      have hR0 := hL.rest
      rw [List.drop_eq_getElem_cons hzl] at hR0
      subst hR0
      have hs := HZ.out _ (List.getElem_mem hzl)
      have hgB : g ≠ w1.heap.size := by have := HBL.out; have := hb.size; omega
      have hBel : Below w.heap.size w w2 := hb.trans (H2.out.mono hb.size)
      have hrg : wr.rangeAt g (o + i * 258) zs[i].cells := fun j v hv => by
        have e1 := HR.out i hzl j v hv
        refine hL.turn.cell (p := ⟨g, o + i * 258 + j, none⟩) hgB ?_
        rw [hBel.cell (p := ⟨g, o + i * 258 + j, none⟩) HBL.out]; exact e1
      have hsrc : Src wr (· = w1.heap.size) (.slice (some ⟨g, o + i * 258 + 2 + f', none⟩) (256 - f') (256 - f')) (zs[i].data.drop f') := Src.page hrg hs hf' hgB
      have hdl : (zs[i].data.drop f').length = 256 - f' := by simp only [List.length_drop, hs]
      obtain ⟨c1, c2, rfl⟩ := hL.cov (List.cons_ne_nil _ _)
      have hbl : (bv D).length = k' := by unfold bv; rw [List.length_map, hL.dl]
      have hfit : k' + min (zs[i].data.drop f').length m ≤ (bv D ++ List.replicate m (Value.int .u8 0)).length := by
        rw [List.length_append, hbl, List.length_replicate]; omega
      have hsl := slice_arr g (o + i * 258 + 2) f' (by omega)
      have HH : Hid (Holds wr w1.heap.size 5 (bv D ++ List.replicate m (.int .u8 0))) := hL.holds
      have HS : Hid (Src wr (· = w1.heap.size) (.slice (some ⟨g, o + i * 258 + 2 + f', none⟩) (256 - f') (256 - f')) (zs[i].data.drop f')) := hsrc
      have HF : Hid _ := hfit
      obtain ⟨q, hq⟩ : ∃ q, 256 - f' = q := ⟨_, rfl⟩
      obtain ⟨c, hc⟩ : ∃ c, min q m = c := ⟨_, rfl⟩
      have hcm : c ≤ m := by omega
      have HC : Hid (min (zs[i].data.drop f').length m = c) := by rw [Hid, hdl, hq, hc]
      have HC2 : Hid (min (256 - f') m = c) := by rw [Hid, hq, hc]
      have HL : Hid (RdAt w2 wr w1.heap.size g zs n i f' k' k' m (((dat zs).drop f).take n) (zs[i] :: zs.drop (i + 1)) D T) := hL
      have HSL : Hid (zs[i].data.length = 256) := hs
      rw [hq] at hsl HS
      have hkm := hL.km
      clear hL hrg hsrc hdl hbl hfit hs hBel hq hc c1
      by_cases hcut : m = c
      · subst hcut
        go_wp2_with (refine copy_row rfl _ _ rfl w1.heap.size k' m m 5 _ _ (· = w1.heap.size) (zs[i].data.drop f') HH.out HS.out HF.out rfl rfl ?_; rw [HC.out]; intro w3 h1 h2; have H3 : Hid _ := h1; have H4 : Hid (wr.grownBy w3 (some w1.heap.size)) := h2; clear h1 h2)
        go_roundw
        case rel =>
          refine ⟨i + 1, 0, 0, k', by omega, by go_num, rfl, by omega, rfl, by omega, ?_⟩
          have := HL.out.step HSL.out (by rw [HC2.out]; exact H3.out) H4.out k' (fun h => absurd HC2.out.symm h)
          rw [HC2.out, Nat.sub_self] at this
          exact ⟨_, _, _, _, this⟩
        case measure => simp [intOf]; omega
      · go_wp2_with (refine copy_row rfl _ _ rfl w1.heap.size k' m m 5 _ _ (· = w1.heap.size) (zs[i].data.drop f') HH.out HS.out HF.out rfl rfl ?_; rw [HC.out]; intro w3 h1 h2; have H3 : Hid _ := h1; have H4 : Hid (wr.grownBy w3 (some w1.heap.size)) := h2; clear h1 h2)
        go_roundw
        case rel =>
          refine ⟨i + 1, 0, m - c, k' + c, by omega, by go_num, rfl, by omega, rfl, by omega, ?_⟩
          have := HL.out.step HSL.out (by rw [HC2.out]; exact H3.out) H4.out (k' + c) (fun _ => by rw [HC2.out])
          rw [HC2.out] at this
          exact ⟨_, _, _, _, this⟩
        case measure => simp [intOf]; omega
    · have hltI : ¬ (i : Int) < (N : Int) := by omega
      have hiN : i = N := by omega
      have hR : R = [] := List.eq_nil_of_length_eq_zero (by have := hL.all; have := HLEN.out; omega)
      subst hR
      have hT : T = [] := by rw [hL.te]; simp [dat]
      subst hT
      have HT : Hid (D = ((dat zs).drop f).take n) := by have := hL.eq; rwa [List.append_nil] at this
      have HH : Hid (Holds wr w1.heap.size 5 (bv D ++ List.replicate m (.int .u8 0))) := hL.holds
      have HTU : Hid (Turn (· = w1.heap.size) w2 wr) := hL.turn
      have HDL : Hid (D.length = n) := by have h1 := hL.km; have h2 := hL.tl; have h3 := hL.dl; simp at h2; unfold Hid; omega
      clear hL
      go_wp2
      go_ret2
      have hBel : Below w.heap.size w w2 := hb.trans (H2.out.mono hb.size)
      refine ⟨⟨_, rfl, ?_⟩, hBel.trans (HTU.out.below hBel.size (fun k hk => by subst hk; exact hb.size))⟩
      rw [← HT.out]
      refine ⟨some ⟨w1.heap.size, 0, none⟩, n, by rw [HDL.out]; rfl, by rw [HDL.out]; omega, by unfold maxLen; omega, .inr ⟨_, rfl, .inr (Nat.not_lt.2 hb.size), fun j hj => ?_⟩⟩
      rw [add_lit]
      refine HH.out.cell j _ ?_
      rw [List.getElem?_append_left (by simpa [bv] using hj)]
      simp [bv, List.getElem?_eq_getElem hj]
set_option maxHeartbeats 4000000 in
set_option maxRecDepth 20000 in
theorem vm_Read (w : World) (S : Nat) (v : Value) (sp : Sp) (h : SpAt w S v sp) (hk : sp.ok) (a n : Nat) (ha : (a : Int) ≤ 18446744073709551615) (hn : (n : Int) ≤ 18446744073709551615) :
    Calls Try.prog 25 #[.pointer (some ⟨S, 0, none⟩), .int .u64 a, .int .u64 n] w fun e w' => (∃ vb, e = .returned (.tuple #[vb, .int .i64 (rdE sp a n)]) ∧ Src w' (· < w.heap.size) vb (rdB sp a n)) ∧ Below w.heap.size w w' := by
  have hA := vm_allowed w S v sp h hk a n 4 ha hn (.inl rfl)
  cases hg : got sp.rooms a n (some 4) with
  | error e0 =>
    have he : e0 = 52 ∨ e0 = 54 := by
      unfold got at hg
      cases hh : hit sp.rooms a n with
      | none => rw [hh] at hg; simp at hg; omega
      | some r =>
        rw [hh] at hg
        by_cases hz : n = 0
        · simp [hz] at hg
        · simp only [if_neg hz] at hg
          split at hg
          · simp at hg; omega
          · split at hg
            · simp at hg; omega
            · cases hg
    have HE : Hid (rdE sp a n = e0 ∧ rdB sp a n = []) := by unfold Hid rdE rdB; rw [hg]; exact ⟨rfl, rfl⟩
    rw [hg] at hA
    unfold gotV at hA
    clear hg h
    have hne : ((e0 : Int) == 0) = false := by rw [beq_eq_false_iff_ne]; omega
    go_enter Try.func25, Try.ntmps25
    go_wp2_with (go_at_call 38; refine hA.mono ?_; rintro e w1 ⟨rfl, hb⟩)
    go_ret2
    exact ⟨⟨.slice none 0 0, by rw [HE.out.1]; rfl, by rw [HE.out.2]; exact ⟨none, 0, rfl, by simp, by simp, .inl ⟨rfl, rfl, rfl⟩⟩⟩, hb⟩
  | ok o =>
    cases o with
    | none =>
      have hz : n = 0 := by
        unfold got at hg
        cases hh : hit sp.rooms a n with
        | none => rw [hh] at hg; simp at hg
        | some r =>
          rw [hh] at hg
          by_cases hz : n = 0
          · exact hz
          · simp only [if_neg hz] at hg
            split at hg
            · cases hg
            · split at hg <;> cases hg
      have HE : Hid (rdE sp a n = 0 ∧ rdB sp a n = []) := by unfold Hid rdE rdB; rw [hg]; exact ⟨rfl, rfl⟩
      rw [hg] at hA
      unfold gotV at hA
      subst hz
      clear hg h
      go_enter Try.func25, Try.ntmps25
      go_wp2_with (first | (go_at_call 38; refine hA.mono ?_; rintro e w1 ⟨rfl, hb⟩; clear hA) | (refine make_bytes rfl _ _ rfl 0 (by omega) rfl rfl ?_; intro w2 h1 h2; have H1 : Hid (Holds w2 w1.heap.size 5 (List.replicate 0 (.int .u8 0))) := h1; have H2 : Hid (Below w1.heap.size w1 w2) := h2; clear h1 h2))
      go_loopw [11, 12, 13, 31] (fun _ _ _ vi wr => vi = .int .i64 0 ∧ wr = w2) (fun _ _ _ _ _ => 0)
      case atStart => exact ⟨rfl, rfl⟩
      case round =>
        obtain ⟨rfl, rfl⟩ := hrel
        go_wp2
        go_ret2
        exact ⟨⟨_, by rw [HE.out.1]; rfl, by rw [HE.out.2]; exact ⟨_, 0, rfl, by simp, by simp, .inr ⟨_, rfl, .inl rfl, fun j hj => absurd hj (by simp)⟩⟩⟩, hb.trans (H2.out.mono hb.size)⟩
    | some r =>
      obtain ⟨hh, hz⟩ := got_some hg
      obtain ⟨b, hi⟩ := hit_is hh
      have hr := hi.mem
      have hlen := Rm.cut_len hi.low hi.top hz
      have hlh := Rm.lo_hi hi.low hi.top hz
      have hro := hk.each r hr
      have hmost := hro.most
      have hpg := hro.page
      have hcp0 := hro.cap0
      have hcp1 := hro.cap1
      have hn1 : n ≤ 16384 := by have := hi.top; have := hi.low; unfold Rm.fin Rm.size at *; omega
      have HE : Hid (rdE sp a n = 0 ∧ rdB sp a n = ((dat (r.cut a n)).drop (a % 256)).take n) := by unfold Hid rdE rdB; rw [hg]; exact ⟨rfl, rfl⟩
      have hcov : 256 * (r.cut a n).length < n + a % 256 + 256 ∧ n + a % 256 ≤ 256 * (r.cut a n).length := by
        rw [hlen]
        have := hi.low
        have := hro.low
        unfold Rm.lo Rm.hi
        obtain ⟨p, hp⟩ : ∃ p, r.pos = 256 * p := ⟨r.pos / 256, by omega⟩
        omega
      have HZ : Hid (∀ s ∈ r.cut a n, s.data.length = 256) := fun s hs => (hro.each s (Rm.cut_mem hs)).len
      have HR : Hid (∀ i (hi : i < (r.cut a n).length), w.rangeAt r.blk (r.lo a * 258 + i * 258) (r.cut a n)[i].cells) := h.cutRange hk hr hi.low hi.top hz
      have HBL : Hid (r.blk < w.heap.size) := (h.pgs r hr).lt
      have HCOV : Hid _ := hcov
      have hN : r.hi a n - r.lo a ≤ 64 := by omega
      have hcapN : r.hi a n - r.lo a ≤ r.cap - r.lo a := by omega
      have hcap2 : r.cap - r.lo a ≤ 9223372036854775807 := by unfold maxLen at hcp1; omega
      have HLEN : Hid ((r.cut a n).length = r.hi a n - r.lo a) := hlen
      rw [hg] at hA
      refine (vm_Read_some w S a n r.blk (r.lo a * 258) (r.hi a n - r.lo a) (r.cap - r.lo a) (a % 256) (r.cut a n) hn hn1 hz (show (a : Int) % 256 = ((a % 256 : Nat) : Int) by omega) (by omega) hN hcapN hcap2 HLEN HBL HZ HR HCOV hA).mono ?_
      rintro e w' ⟨⟨vb, rfl, h1⟩, h2⟩
      exact ⟨⟨vb, by rw [HE.out.1]; rfl, by rw [HE.out.2]; exact h1⟩, h2⟩
end Go.Proofs.Ytdecbnmibjcnaaa
