
/-
  Layer 14 (aps), the program: Encode keeps its contract (the groups that tell a list of relocations, or that they can't).
-/
import Derived.Test.YtiicmakeoidiaaaApI
import Derived.Test.YtiicmakeoidiaaaApO
set_option linter.unusedVariables false
namespace Go.Proofs.Ytiicmakeoidiaaa
open Go.RowKit Go.PlainAid
/-- What Encode answers. -/
def EncIs (w : World) (o : Option (List UInt8)) (e : Ending) (w' : World) : Prop :=
  match o with
  | none => e = .returned (.tuple #[.slice none 0 0, .int .i64 140])
  | some L => ∃ v, e = .returned (.tuple #[v, .int .i64 0]) ∧ Own w' w.heap.size v L
theorem ArgR.take {w : World} {a : Option Addr} {n cap : Nat} {ps : List Rl} (h : ArgR w (.slice a n cap) ps) (k : Nat) (hk : k ≤ ps.length) (h0 : 0 < k) : ArgR w (.slice a k cap) (ps.take k) := by
  obtain ⟨hok, a', cap', e, h1, h2, h3⟩ := h
  injection e with e1 e2 e3
  subst e1 e2 e3
  have hl : (ps.take k).length = k := by rw [List.length_take]; omega
  refine ⟨fun r hr => hok r (List.mem_of_mem_take hr), a, cap, by rw [hl], by omega, h2, ?_⟩
  rcases h3 with ⟨rfl, _⟩ | ⟨g, o, rfl, h3, h4⟩
  · simp at hk; omega
  · refine .inr ⟨g, o, rfl, h3, fun j hj q hq => ?_⟩
    rw [h4 j (by omega) q hq, List.getElem_take]
theorem ArgR.drop {w : World} {g o n cap : Nat} {ps : List Rl} (h : ArgR w (.slice (some ⟨g, o, none⟩) n cap) ps) (k : Nat) (hk : k ≤ ps.length) (h0 : 0 < ps.length) : ArgR w (.slice (some ⟨g, o + k * 5, none⟩) (n - k) (cap - k)) (ps.drop k) := by
  obtain ⟨hok, a', cap', e, h1, h2, h3⟩ := h
  injection e with e1 e2 e3
  subst e1 e2 e3
  refine ⟨fun r hr => hok r (List.mem_of_mem_drop hr), _, cap - k, by rw [List.length_drop], by rw [List.length_drop]; omega, by omega, ?_⟩
  rcases h3 with ⟨rfl, _⟩ | ⟨g', o', e, h3, h4⟩
  · simp at h0
  · injection e with e
    injection e with e1 e2
    subst e1 e2
    refine .inr ⟨g, o + k * 5, rfl, h3, fun j hj q hq => ?_⟩
    have := h4 (k + j) (by rw [List.length_drop] at hj; omega) q hq
    rw [List.getElem_drop, ← this]
    congr 2
    omega
theorem ArgR.none {w : World} {a : Option Addr} (ha : a ≠ none) : ArgR w (.slice a 0 0) [] := ⟨fun r hr => by simp at hr, a, 0, rfl, by simp, by simp, .inl ⟨rfl, fun e => absurd e ha⟩⟩
/-- How the loop over the groups goes on. -/
structure EL (w wr : World) (T : Nat) (v vr : Value) (b : List UInt8) (rela : Bool) (pl : Nat) (ad : Int) (l : List Rl) (k n : Nat) (O : Option (List UInt8)) : Prop where
  wt : Wt wr w.heap.size T v b rela pl ad
  bel : Below w.heap.size w wr
  arg : ∀ W, Below w.heap.size w W → ArgR W vr l
  len : l.length = n
  fuel : n ≤ k
  n5 : n ≤ 512
  size : b.length + 100 * n ≤ 60000
  big : 4 < b.length
  hpl : pl < 18446744073709551616
  had : i64r ad
  ans : O = some (b ++ lebs (encG rela k pl ad l))
theorem last_in : ∀ (l : List Rl) (pl : Nat) (ad : Int), (∀ r ∈ l, r.ok) → pl < 18446744073709551616 → i64r ad → lastP pl l < 18446744073709551616 ∧ i64r (lastA ad l)
  | [], pl, ad, _, h1, h2 => ⟨h1, h2⟩
  | r :: l, pl, ad, h, _, _ => by
    have hr := h r (by simp)
    exact last_in l r.pl r.add (fun x hx => h x (by simp [hx])) (by have := hr.pl; omega) ⟨hr.lo, hr.hi⟩
theorem EL.next {w wr w6 : World} {T : Nat} {v v6 vr vr6 : Value} {b : List UInt8} {rela : Bool} {pl : Nat} {ad : Int} {r : Rl} {t : List Rl} {k n m : Nat} {O : Option (List UInt8)} (h : EL w wr T v vr b rela pl ad (r :: t) (k + 1) n O) (hm : alikeN r (r :: t) = m)
    (h6 : Wt w6 w.heap.size T v6 (b ++ lebs (headN rela ((r :: t).take m).length r ++ rowE rela pl ad ((r :: t).take m))) rela (lastP pl ((r :: t).take m)) (lastA ad ((r :: t).take m))) (hb : Below w.heap.size w w6) (harg : ∀ W, Below w.heap.size w W → ArgR W vr6 ((r :: t).drop m)) :
    EL w w6 T v6 vr6 (b ++ lebs (headN rela ((r :: t).take m).length r ++ rowE rela pl ad ((r :: t).take m))) rela (lastP pl ((r :: t).take m)) (lastA ad ((r :: t).take m)) ((r :: t).drop m) k (n - m) O := by
  have hok := (h.arg w (Below.refl _ _)).1
  have hle := alike_le r (r :: t)
  have hpos := alike_pos r t
  rw [hm] at hle hpos
  have hln := h.len
  have hlt : ((r :: t).take m).length = m := by rw [List.length_take]; omega
  obtain ⟨q1, q2⟩ := last_in ((r :: t).take m) pl ad (fun x hx => hok x (List.mem_of_mem_take hx)) h.hpl h.had
  refine ⟨h6, hb, harg, by rw [List.length_drop, hln], by have := h.fuel; omega, by have := h.n5; omega, ?_, by have := h.big; rw [List.length_append]; omega, q1, q2, ?_⟩
  · have h1 := lebs_len (headN rela ((r :: t).take m).length r ++ rowE rela pl ad ((r :: t).take m))
    have h2 := rowE_len rela ((r :: t).take m) pl ad
    rw [List.length_append] at h1
    have h3 : (headN rela ((r :: t).take m).length r).length = 3 := rfl
    have h4 := h.size
    rw [List.length_append]
    omega
  · rw [h.ans, encG, hm, hlt, lebs_app, lebs_app, lebs_app]
    simp only [List.append_assoc]
set_option maxHeartbeats 800000 in
set_option maxRecDepth 20000 in
theorem aps_Encode (w : World) (v : Value) (l : List Rl) (rela : Bool) (h : ArgR w v l) (hl : l.length ≤ 1000) :
    Calls Try.prog 16 #[v, .bool rela] w fun e w' => EncIs w (encA l rela) e w' ∧ Below w.heap.size w w' := by
  have HA := hide (fun W (hW : Below w.heap.size w W) => h.below hW)
  have hF := ap_fit w v l rela h hl
  have HOK := hide h.1
  have HZ : Hid (encA l rela = if l.length ≤ 512 ∧ l.all (rlGood rela) = true then some ([65, 80, 83, 50] ++ lebs ((l.length : Int) :: 0 :: encG rela l.length 0 0 l)) else none) := rfl
  obtain ⟨O, hO⟩ : ∃ O, encA l rela = O := ⟨_, rfl⟩
  rw [hO] at HZ ⊢
  obtain ⟨a, cap, rfl, p1, p2⟩ := h.form
  obtain ⟨n, hn⟩ : ∃ n, l.length = n := ⟨_, rfl⟩
  have HN := hide hn
  have HNO : Hid (∀ w', O = none → EncIs w O (.returned (.tuple #[.slice none 0 0, .int .i64 140])) w') := fun w' e => by rw [e]; rfl
  rw [hn] at hF hl p1 HZ HA ⊢
  clear hO hn h
  by_cases c1 : 512 < n
  · have d1 : decide ((512 : Int) < (n : Int)) = true := decide_eq_true (by omega)
    have d2 : decide (512 < n) = true := decide_eq_true c1
    have d3 : (512 : Int) < (n : Int) := by omega
    have HFF := hide (HNO.out w (by rw [HZ.out, if_neg (by omega)]))
    have HBR : Hid (Below w.heap.size w w) := Below.refl _ _
    go_enter Try.func16, Try.ntmps16
    go_wp2
    go_ret2
    exact ⟨HFF.out, HBR.out⟩
  · have d1 : decide ((512 : Int) < (n : Int)) = false := decide_eq_false (by omega)
    have d2 : decide (512 < n) = false := decide_eq_false c1
    have HC1 := hide c1
    clear c1
    obtain ⟨b, hb⟩ : ∃ b, l.all (rlGood rela) = b := ⟨_, rfl⟩
    rw [hb] at hF HZ
    clear hb
    go_enter Try.func16, Try.ntmps16
    go_wp2_with fail
    refine hF.mono ?_
    rintro e w1 ⟨rfl, hb1⟩
    have HB1 := hide hb1
    clear hF hb1
    cases b with
    | false =>
      have HFF := hide (HNO.out w1 (by rw [HZ.out, if_neg (by simp)]))
      go_wp2
      go_ret2
      exact ⟨HFF.out, HB1.out⟩
    | true =>
      have hZ := HZ.out
      rw [if_pos ⟨by have := HC1.out; omega, rfl⟩] at hZ
      have HZ2 := hide hZ
      have hcv := conv_magic w1
      clear hZ HZ HNO d1 d2
      have hs0 : ((w1.alloc magicO).alloc (.cells #[.slice (some ⟨w1.heap.size, 0, none⟩) 4 4, .bool rela, .int .u64 0, .int .i64 0] 53)).heap.size = w1.heap.size + 1 + 1 := by simp
      have HW0 : Hid (Wt ((w1.alloc magicO).alloc (.cells #[.slice (some ⟨w1.heap.size, 0, none⟩) 4 4, .bool rela, .int .u64 0, .int .i64 0] 53)) w.heap.size (w1.heap.size + 1) (.slice (some ⟨w1.heap.size, 0, none⟩) 4 4) [65, 80, 83, 50] rela 0 0) := by
        refine ⟨?_, .inr ⟨w1.heap.size, rfl, rfl, HB1.out.size, ?_⟩, by have := HB1.out.size; omega, by simp [Value.ownBlock]⟩
        · have := heap_alloc_new (w1.alloc magicO) (.cells #[.slice (some ⟨w1.heap.size, 0, none⟩) 4 4, .bool rela, .int .u64 0, .int .i64 0] 53)
          rw [World.size_alloc] at this
          exact this
        · exact block_stay (heap_alloc_new w1 magicO) (below1 _ _)
      have HBW : Hid (Below w.heap.size w ((w1.alloc magicO).alloc (.cells #[.slice (some ⟨w1.heap.size, 0, none⟩) 4 4, .bool rela, .int .u64 0, .int .i64 0] 53))) := HB1.out.trans (((below1 w1 magicO).trans ((below1 _ _).mono (below1 w1 magicO).size)).mono HB1.out.size)
      have hP := put_new _ w.heap.size (w1.heap.size + 1) _ _ rela 0 0 HW0.out (.cells #[.int .i64 (n : Nat), .int .i64 0] 2) [(n : Int), 0] 2 rfl (ints2 _ _ _) (by omega) (fun x hx => by simp at hx; rcases hx with rfl | rfl <;> (unfold i64r; have := HC1.out; omega)) (by simp)
      rw [hs0] at hP
      have HFU := hide (fun W v' (hf : Fp ((w1.alloc magicO).alloc (.cells #[.slice (some ⟨w1.heap.size, 0, none⟩) 4 4, .bool rela, .int .u64 0, .int .i64 0] 53)) W (w1.heap.size + 1) (w1.heap.size + 1) (.slice (some ⟨w1.heap.size, 0, none⟩) 4 4) v') => HBW.out.trans (Fp.lowW HW0.out hf))
      clear hs0
      go_wp2_with fail
      refine hP.mono ?_
      rintro e w2 ⟨rfl, v2, hT2, hF2⟩
      have hB2 := HFU.out w2 v2 hF2
      have HEL : Hid (EL w w2 (w1.heap.size + 1) v2 (.slice a n cap) ([65, 80, 83, 50] ++ lebs [(n : Int), 0]) rela 0 0 l n n O) := by
        refine ⟨hT2, hB2, HA.out, HN.out, Nat.le_refl _, by have := HC1.out; omega, ?_, ?_, by omega, ⟨by decide, by decide⟩, ?_⟩
        · have h1 := lebs_len [(n : Int), 0]
          simp only [List.length_append, List.length_cons, List.length_nil] at h1 ⊢
          have := HC1.out
          omega
        · have h1 := List.length_pos_iff.2 (lebS_ne (n : Int))
          have e : lebs [(n : Int), 0] = lebS 10 (n : Int) ++ lebs [0] := by simp [lebs]
          rw [e]
          simp only [List.length_append, List.length_cons, List.length_nil]
          omega
        · rw [HZ2.out, List.append_assoc, ← lebs_app]; rfl
      generalize w1.heap.size + 1 = T at *
      clear hP hT2 hF2 hB2 HFU HBW HW0 HZ2 HA HN HC1 HOK hcv HB1
      go_wp2_with fail
      go_loopw [0, 7] (fun v0 _ wr => ∃ (a' : Option Addr) (n' c' : Nat) (v' : Value) (b : List UInt8) (pl : Nat) (ad : Int) (l' : List Rl) (k : Nat), v0 = .slice a' n' c' ∧ Hid (EL w wr T v' (.slice a' n' c') b rela pl ad l' k n' O)) (fun v0 _ _ => slenR v0)
      case atStart => exact ⟨a, n, cap, v2, _, 0, 0, l, n, rfl, HEL⟩
      case round =>
        obtain ⟨a', n', c', v', b, pl, ad, l', k, rfl, HE⟩ := hrel
        cases l' with
        | nil =>
          have hn0 : n' = 0 := by have := HE.out.len; simpa using this.symm
          subst hn0
          have hans : O = some b := by
            have := HE.out.ans
            have e : encG rela k pl ad [] = [] := by cases k <;> rfl
            rw [e] at this; simpa [lebs] using this
          have hown : Own wr w.heap.size v' b := by
            rcases HE.out.wt.row with h | ⟨g, _, hb, _⟩
            · exact h
            · have := HE.out.big; rw [hb] at this; simp at this
          have HFF : Hid (EncIs w O (.returned (.tuple #[v', .int .i64 0])) wr) := by rw [hans]; exact ⟨v', rfl, hown⟩
          have HBF := hide HE.out.bel
          have t0 := cells_of_block HE.out.wt.block 0 v' rfl
          obtain ⟨a6, c6, hv6, _⟩ := hown.slice
          obtain ⟨n6, hn6⟩ : ∃ n6, b.length = n6 := ⟨_, rfl⟩
          rw [hn6] at hv6
          subst hv6
          clear hn6 hans hown HE
          go_wp2
          go_ret2
          exact ⟨HFF.out, HBF.out⟩
        | cons r t =>
          have hlen := HE.out.len
          have hn5 := HE.out.n5
          have hpos : 0 < n' := by rw [← hlen]; simp
          have hposI : (0 : Int) < (n' : Int) := by omega
          obtain ⟨k', hk'⟩ : ∃ k', k = k' + 1 := ⟨k - 1, by have := HE.out.fuel; omega⟩
          subst hk'
          have hAl := ap_alike wr (.slice a' n' c') r t (HE.out.arg wr HE.out.bel) (by omega)
          obtain ⟨g, o, hga, _⟩ := (HE.out.arg wr HE.out.bel).at 0 (by simp)
          subst hga
          obtain ⟨_, _, hsl, hc1, hc2⟩ := (HE.out.arg wr HE.out.bel).form
          injection hsl with hx1 hx2 hc'
          subst hc'
          clear hx1 hx2
          rw [hlen] at hc1
          have hle := alike_le r (r :: t)
          have hap := alike_pos r t
          obtain ⟨m, hm⟩ : ∃ m, alikeN r (r :: t) = m := ⟨_, rfl⟩
          rw [hm] at hAl hle hap
          rw [hlen] at hle
          have hm1 : 1 ≤ m := by omega
          have HM := hide hm
          have HLN := hide hlen
          have htk : (r :: t).take m = r :: t.take (m - 1) := by
            obtain ⟨q, rfl⟩ : ∃ q, m = q + 1 := ⟨m - 1, by omega⟩
            rfl
          have HTK := hide htk
          have hlt : ((r :: t).take m).length = m := by rw [List.length_take]; omega
          have HLT := hide hlt
          have HPG := hide (fun W (hb : Below wr.heap.size wr W) => ap_putGroup W w.heap.size T v' b rela pl ad (HE.out.wt.below hb) (.slice (some ⟨g, o, none⟩) m c') r (t.take (m - 1)) (fun W2 hW2 => by
            rw [← htk]; exact (HE.out.arg W2 ((HE.out.bel.trans (hb.mono HE.out.bel.size)).trans hW2)).take m (by omega) (by omega)) (by rw [← htk, hlt]; omega) (by rw [← htk, hlt]; have := HE.out.size; omega) HE.out.hpl HE.out.had)
          have HNX := hide (fun w6 v6 vr6 => EL.next (w6 := w6) (v6 := v6) (vr6 := vr6) HE.out hm)
          have HBE := hide HE.out.bel
          have HDR : Hid (m < c' → ∀ W, Below w.heap.size w W → ArgR W (.slice (some ⟨g, o + m * 5, none⟩) (n' - m) (c' - m)) ((r :: t).drop m)) := fun _ W hW => (HE.out.arg W hW).drop m (by omega) (by simp)
          have HDN : Hid (c' = m → ∀ W, Below w.heap.size w W → ArgR W (.slice (some ⟨g, o, none⟩) 0 0) ((r :: t).drop m)) := fun e W hW => by
            rw [List.drop_of_length_le (by omega)]; exact ArgR.none (by simp)
          have HWT := hide HE.out.wt
          have hmI : (m : Int) ≤ (n' : Int) := by omega
          have hmc : (m : Int) ≤ (c' : Int) := by omega
          clear hm hlen hap HE htk hlt HEL
          go_wp2_with fail
          refine hAl.mono ?_
          rintro e w6 ⟨rfl, hb6⟩
          have hPG := HPG.out w6 hb6
          have HW6 := hide (HWT.out.below hb6)
          have HB6 := hide (HBE.out.trans (hb6.mono HBE.out.size))
          clear hAl HPG hb6
          go_wp2_with fail
          refine hPG.mono ?_
          rintro e w7 ⟨rfl, v7, hT7, hF7⟩
          have HB7 := hide (HB6.out.trans (Fp.lowW HW6.out hF7))
          rw [← HTK.out] at hT7
          have HE7 := hide (fun vr6 => HNX.out w7 v7 vr6 hT7 HB7.out)
          clear hPG hT7 hF7
          by_cases hcm : c' = m
          · subst hcm
            have hnm : n' = c' := by omega
            subst hnm
            have HE8 := hide (HE7.out _ (HDN.out rfl))
            rw [Nat.sub_self] at HE8
            go_wp2
            go_roundw
            case rel => exact ⟨_, 0, 0, v7, _, _, _, _, k', rfl, HE8⟩
            case measure => simp [slenR]; omega
          · have HE8 := hide (HE7.out _ (HDR.out (by omega)))
            go_wp2
            go_roundw
            case rel => exact ⟨_, n' - m, c' - m, v7, _, _, _, _, k', rfl, HE8⟩
            case measure => simp [slenR]; omega
end Go.Proofs.Ytiicmakeoidiaaa
