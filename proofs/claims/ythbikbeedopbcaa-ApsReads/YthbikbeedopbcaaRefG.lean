
/-
  The reference of layer 3: the walk of groups.
-/
import Derived.Test.YthbikbeedopbcaaRefF
set_option linter.unusedVariables false
namespace Go.Proofs.Ythbikbeedopbcaa
open Go.RowKit Go.PlainAid
theorem append_byteH {ops : Array Oper} {rest : List Oper} {o : Oper} {a : Act} {Q : Exit → Act → World → Prop} (hgd : o.guard = none) (s x : Operand)
    (ho : o.op = .call { callee := .builtin .append, args := #[s, x], argTypes := #[22, 22] })
    (B : Nat) (wr : World) (v : Value) (acc : List UInt8) (n : Int) (hown : Own wr B v acc) (c : UInt8) (hn : n = (c.toNat : Int)) (hs : a.eval s = v) (H : Nat) (hH : wr.heap.size = H)
    (hx : a.eval x = .slice (some ⟨H, 0, none⟩) 1 1) (hlen : acc.length ≤ 1000000000000) (hB : B ≤ wr.heap.size)
    (h : ∀ v' w', Own w' B v' (acc ++ [c]) → Below B wr w' → wpList Try.prog ops Q rest (a.put o.dst v') w') :
    wpList Try.prog ops Q (o :: rest) a (wr.alloc (.cells #[.int .u8 n] 5)) :=
  append_byte hgd s x ho B wr v acc n hown c hn hs (by rw [hx, hH]) hlen hB h
theorem Own.lowR {w : World} {B C : Nat} {v : Value} {l : List UInt8} (h : Own w B v l) (hc : C ≤ B) : Own w C v l := by
  unfold Own at h ⊢
  refine ⟨h.1, ?_⟩
  rcases h.2 with hn | ⟨g, cap, cur, rfl, hB, rest⟩
  · exact .inl hn
  · exact .inr ⟨g, cap, cur, rfl, by omega, rest⟩
set_option maxHeartbeats 4000000 in
set_option maxRecDepth 20000 in
theorem ref_groups_ok (w : World) (sl : Value) (l : List UInt8) (h : Rs w sl l) (hlen : l.length ≤ 100000) :
    Calls Try.prog 35 #[.agg #[sl, .int .i64 0]] w fun e w' => ∃ v, e = .returned v ∧ Grp w w' sl l v ∧ Below w.heap.size w w' := by
  obtain ⟨a, cap, rfl, h2, h3, h4⟩ := h
  obtain ⟨g, o, hga, hgc⟩ : ∃ g o, (0 < l.length → a = some ⟨g, o, none⟩ ∧ g < w.heap.size) ∧ ∀ j, j < l.length → w.cell? ⟨g, o + j, none⟩ = some (.int .u8 ((l.getD j 0).toNat : Int)) := by
    rcases h4 with rfl | ⟨g, o, h4, h5, h6⟩
    · exact ⟨0, 0, fun h => absurd h (by simp), fun j hj => absurd hj (by simp)⟩
    · exact ⟨g, o, fun _ => ⟨h4, h5⟩, h6⟩
  have hcap : cap ≤ 9223372036854775807 := by unfold maxLen at h3; omega
  have HST : Hid (GS w ((w.alloc (.cells #[.slice a l.length cap, .int .i64 0] 80)).alloc (.cells #[.slice none 0 0, .int .i64 0] 80)) g o cap l 0) := GS.start w a g o cap l (fun h => (hga h).1)
  have HGA : Hid (0 < l.length → a = some ⟨g, o, none⟩ ∧ g < w.heap.size) := hga
  have HGC : Hid (∀ j, j < l.length → w.cell? ⟨g, o + j, none⟩ = some (.int .u8 ((l.getD j 0).toNat : Int))) := hgc
  clear hga hgc h4
  go_enter Try.func35, Try.ntmps35
  go_wp2
  go_loopw [4, 5] (fun vo _ wr => ∃ k : Nat, k < 10 ∧ k ≤ l.length ∧ Hid (k ≤ hiN 10 l) ∧ Own wr (w.heap.size + 2) vo ((l.take k).map low7) ∧ GS w wr g o cap l k) (fun vo _ _ => 10 - slenR vo)
  case atStart => exact ⟨0, by omega, by omega, Nat.zero_le _, Own.nil _ _, HST.out⟩
  case round =>
    obtain ⟨k, hk10, hkl, HK, hown, G⟩ := hrel
    obtain ⟨a5, cap5, hv5, _⟩ := hown.slice
    rw [show ((l.take k).map low7).length = k by simp; omega] at hv5
    subst hv5
    have HG : Hid (GS w wr g o cap l k) := G
    obtain ⟨⟨a0, c0, ca⟩, c1, d0, d1, e0, e1, f0, f1, b, s⟩ := G
    have HBB : Hid (Below w.heap.size w wr) := b
    have HCA : Hid (k < l.length → a0 = some ⟨g, o + k, none⟩) := ca
    clear b ca
    by_cases hend : k = l.length
    · have hz2 : l.length - k = 0 := by omega
      rw [hz2] at c0
      have HN : Hid (¬ whole l ∧ noErr l = 20) := by
        refine ⟨fun hw => ?_, by unfold noErr; rw [if_neg (by omega)]⟩
        have h1 := hw.2
        have h2 := HK.out
        omega
      clear hz2 hend
      go_wp2
      refine bodyPost_ret (v := .tuple #[.agg #[.slice a0 0 (cap - k), .int .i64 20], .slice none 0 0]) (by simp [results, Try.results35, go_sem, d0, d1]) rfl
        ⟨_, rfl, .inr ⟨HN.out.1, _, by rw [HN.out.2], _, _, _, rfl⟩, ?_⟩
      exact ((HBB.out.setCell (by simp) _).setCell (by simp) _).setCell (by simp) _
    · have hlt : k < l.length := by omega
      have ha0 := HCA.out hlt
      subst ha0
      have hg := (HGA.out (by omega)).2
      obtain ⟨c, hcc⟩ : ∃ c, l.getD k 0 = c := ⟨_, rfl⟩
      have hcb : wr.cell? ⟨g, o + k, none⟩ = some (.int .u8 (c.toNat : Int)) := by
        rw [HBB.out.cell (p := ⟨g, o + k, none⟩) hg, HGC.out k hlt, hcc]
      obtain ⟨m, hm⟩ : ∃ m, l.length - k = m := ⟨_, rfl⟩
      obtain ⟨q, hq⟩ : ∃ q, cap - k = q := ⟨_, rfl⟩
      have hm1 : 1 ≤ m := by omega
      have hmq : m ≤ q := by omega
      have hqc : q ≤ 9223372036854775807 := by omega
      rw [hm, hq] at c0
      have HMQ : Hid (l.length - (k + 1) = m - 1 ∧ cap - (k + 1) = q - 1) := ⟨by omega, by omega⟩
      have hmz : ((m : Int) == 0) = false := by rw [beq_eq_false_iff_ne]; omega
      have HCC : Hid (l.getD k 0 = c) := hcc
      have HL7 : Hid ((l.take (k + 1)).map low7 = (l.take k).map low7 ++ [low7 c]) := map_low_snoc l k c hlt hcc
      have HL : Hid (k < l.length) := hlt
      have hcl := c.toNat_lt
      have hlow := low7_nat c
      have hal : ((l.take k).map low7).length = k := by simp; omega
      have hq1 : (q = 1 ∧ m = 1) ∨ ¬ q = 1 := by omega
      have HQC : Hid (k + 1 < l.length → ¬ q = 1) := by intro h1 h2; omega
      clear hm hq hcc hend hlt
      generalize (l.take k).map low7 = acc at *
      rcases hq1 with ⟨rfl, rfl⟩ | hq1
      · go_wp2_with (at_builtin; refine append_byteH rfl _ _ rfl (w.heap.size + 2) (wr.setCell ⟨w.heap.size, 0, none⟩ (.slice (some ⟨g, o + k, none⟩) 0 0)) _ acc _ (hown.off _ _ _ (by omega)) (low7 c) hlow.symm rfl wr.heap.size (by simp) rfl (by omega) (by simp; exact s) ?_)
        intro v' w2 k1 k2
        have HG2 : Hid (GS w w2 g o cap l (k + 1)) := HG.out.step (some ⟨g, o + k, none⟩) (fun h => absurd (by trivial) (HQC.out h)) (by rw [HMQ.out.1, HMQ.out.2]; exact k2)
        rw [← HL7.out] at k1
        obtain ⟨a7, cap7, hv7, _⟩ := k1.slice
        have hsl : v' = .slice a7 (k + 1) cap7 := by rw [hv7]; congr 1; simp; have := HL.out; omega
        subst hsl
        have HK1 : Hid (Own w2 (w.heap.size + 2) (.slice a7 (k + 1) cap7) ((l.take (k + 1)).map low7)) := k1
        clear hv7 k1 k2 HG HMQ HL7 hcb c0 c1 d0 d1 e0 e1 f0 f1 s HBB hown
        obtain ⟨⟨a2, c02, ca2⟩, c12, d02, d12, e02, e12, f02, f12, b2, s2⟩ := HG2.out
        have HB2 : Hid (Below w.heap.size w w2) := b2
        have HCA2 : Hid (k + 1 < l.length → a2 = some ⟨g, o + (k + 1), none⟩) := ca2
        clear b2 ca2
        by_cases hc128 : c.toNat < 128
        · have hc128I : (c.toNat : Int) < 128 := by omega
          have HE : Hid (hiN 10 l = k) := hiN_stop l k HK.out (by rw [HCC.out]; exact hc128)
          go_wp2
          refine bodyPost_ret (v := .tuple #[.agg #[.slice a2 (l.length - (k + 1)) (cap - (k + 1)), .int .i64 0], .slice a7 (k + 1) cap7]) (by simp [results, Try.results35, go_sem, d02, d12]) rfl
            ⟨_, rfl, .inl ⟨⟨by rw [HE.out]; exact hk10, by rw [HE.out]; exact HL.out⟩, _, _, rfl, ?_, ?_⟩, ?_⟩
          · rw [HE.out]
            exact cut_mk a a2 g o cap l (k + 1) (fun h => (HGA.out h).1) HCA2.out h2 h3
          · rw [HE.out]
            exact ((HK1.out.off _ _ _ (by omega)).off _ _ _ (by omega)).lowR (by omega)
          · exact (HB2.out.setCell (by simp) _).setCell (by simp) _
        · have hc128I : ¬ (c.toNat : Int) < 128 := by omega
          have HS : Hid (k + 1 ≤ hiN 10 l) := hiN_step l k HK.out hk10 HL.out (by rw [HCC.out]; omega)
          by_cases h9 : k = 9
          · subst h9
            have HN : Hid (¬ whole l ∧ noErr l = 30) := by
              refine ⟨fun hw => ?_, by unfold noErr; rw [if_pos (by have := HL.out; omega)]⟩
              have h1 := hw.1
              have h2 := HS.out
              omega
            go_wp2
            refine bodyPost_ret (v := .tuple #[.agg #[.slice a2 (l.length - (9 + 1)) (cap - (9 + 1)), .int .i64 30], .slice none 0 0]) (by simp [results, Try.results35, go_sem, d02, d12]) rfl
              ⟨_, rfl, .inr ⟨HN.out.1, _, by rw [HN.out.2], _, _, _, rfl⟩, ?_⟩
            exact ((HB2.out.setCell (by simp) _).setCell (by simp) _).setCell (by simp) _
          · have h9I : ((k : Int) + 1 == 10) = false := by rw [beq_eq_false_iff_ne]; omega
            go_wp2
            go_roundw
            case rel => exact ⟨k + 1, by omega, by have := HL.out; omega, HS, HK1.out, HG2.out⟩
            case measure => (simp [slenR] <;> omega)
      · go_wp2_with (at_builtin; refine append_byteH rfl _ _ rfl (w.heap.size + 2) (wr.setCell ⟨w.heap.size, 0, none⟩ (.slice (some ⟨g, o + k + 1, none⟩) (m - 1) (q - 1))) _ acc _ (hown.off _ _ _ (by omega)) (low7 c) hlow.symm rfl wr.heap.size (by simp) rfl (by omega) (by simp; exact s) ?_)
        intro v' w2 k1 k2
        have HG2 : Hid (GS w w2 g o cap l (k + 1)) := HG.out.step (some ⟨g, o + k + 1, none⟩) (fun _ => rfl) (by rw [HMQ.out.1, HMQ.out.2]; exact k2)
        rw [← HL7.out] at k1
        obtain ⟨a7, cap7, hv7, _⟩ := k1.slice
        have hsl : v' = .slice a7 (k + 1) cap7 := by rw [hv7]; congr 1; simp; have := HL.out; omega
        subst hsl
        have HK1 : Hid (Own w2 (w.heap.size + 2) (.slice a7 (k + 1) cap7) ((l.take (k + 1)).map low7)) := k1
        clear hv7 k1 k2 HG HMQ HL7 hcb c0 c1 d0 d1 e0 e1 f0 f1 s HBB hown
        obtain ⟨⟨a2, c02, ca2⟩, c12, d02, d12, e02, e12, f02, f12, b2, s2⟩ := HG2.out
        have HB2 : Hid (Below w.heap.size w w2) := b2
        have HCA2 : Hid (k + 1 < l.length → a2 = some ⟨g, o + (k + 1), none⟩) := ca2
        clear b2 ca2
        by_cases hc128 : c.toNat < 128
        · have hc128I : (c.toNat : Int) < 128 := by omega
          have HE : Hid (hiN 10 l = k) := hiN_stop l k HK.out (by rw [HCC.out]; exact hc128)
          go_wp2
          refine bodyPost_ret (v := .tuple #[.agg #[.slice a2 (l.length - (k + 1)) (cap - (k + 1)), .int .i64 0], .slice a7 (k + 1) cap7]) (by simp [results, Try.results35, go_sem, d02, d12]) rfl
            ⟨_, rfl, .inl ⟨⟨by rw [HE.out]; exact hk10, by rw [HE.out]; exact HL.out⟩, _, _, rfl, ?_, ?_⟩, ?_⟩
          · rw [HE.out]
            exact cut_mk a a2 g o cap l (k + 1) (fun h => (HGA.out h).1) HCA2.out h2 h3
          · rw [HE.out]
            exact ((HK1.out.off _ _ _ (by omega)).off _ _ _ (by omega)).lowR (by omega)
          · exact (HB2.out.setCell (by simp) _).setCell (by simp) _
        · have hc128I : ¬ (c.toNat : Int) < 128 := by omega
          have HS : Hid (k + 1 ≤ hiN 10 l) := hiN_step l k HK.out hk10 HL.out (by rw [HCC.out]; omega)
          by_cases h9 : k = 9
          · subst h9
            have HN : Hid (¬ whole l ∧ noErr l = 30) := by
              refine ⟨fun hw => ?_, by unfold noErr; rw [if_pos (by have := HL.out; omega)]⟩
              have h1 := hw.1
              have h2 := HS.out
              omega
            go_wp2
            refine bodyPost_ret (v := .tuple #[.agg #[.slice a2 (l.length - (9 + 1)) (cap - (9 + 1)), .int .i64 30], .slice none 0 0]) (by simp [results, Try.results35, go_sem, d02, d12]) rfl
              ⟨_, rfl, .inr ⟨HN.out.1, _, by rw [HN.out.2], _, _, _, rfl⟩, ?_⟩
            exact ((HB2.out.setCell (by simp) _).setCell (by simp) _).setCell (by simp) _
          · have h9I : ((k : Int) + 1 == 10) = false := by rw [beq_eq_false_iff_ne]; omega
            go_wp2
            go_roundw
            case rel => exact ⟨k + 1, by omega, by have := HL.out; omega, HS, HK1.out, HG2.out⟩
            case measure => (simp [slenR] <;> omega)
end Go.Proofs.Ythbikbeedopbcaa
