
/-
  Layer 13 (relr): Decode.
-/
import Derived.Test.YtkelipoiopkokaaDoorRrD
set_option linter.unusedVariables false
namespace Go.Proofs.YtkelipoiopkokaaDoor
open Go.RowKit Go.PlainAid Go.Sort
theorem rel_take (w : World) (B T : Nat) (o : Option Nat) (l : List Nat) (f : Nat) (h : Tl w B T o l f) (hB : B ≤ w.heap.size) (hTab : TabZ w) (hGB : 0 < B) (hl : l.length ≤ 512) (hf : f < 18446744073709551616) (r : Nat) (hr : r < 18446744073709551616) :
    Calls Tryd.prog 12 #[.pointer (some ⟨T, 0, none⟩), .int .u64 (r : Nat)] w fun e w' => Below B w w' ∧ TakeIs w' B T (stepD l f r) e := by
  by_cases he : r % 2 = 0
  · exact rel_take_even w B T o l f h hB hl r hr he
  · exact rel_take_odd w B T o l f h hB hTab hGB hl hf r hr (by omega)
theorem rowP_small (w f : Nat) : ∀ n k, ∀ p ∈ rowP w f n k, p < 18446744073709551616
  | 0, _, p, hp => by simp [rowP] at hp
  | n + 1, k, p, hp => by
    unfold rowP at hp
    rcases List.mem_append.1 hp with h | h
    · split at h
      · simp at h; omega
      · simp at h
    · exact rowP_small w f n (k + 1) p h
theorem stepD_ok {acc : List Nat} {f r : Nat} {a : List Nat} {g : Nat} (hr : r < 18446744073709551616) (h0 : ∀ p ∈ acc, p < 18446744073709551616) (h : stepD acc f r = some (a, g)) : a.length ≤ 512 ∧ g < 18446744073709551616 ∧ (∀ p ∈ a, p < 18446744073709551616) := by
  unfold stepD at h
  split at h
  · split at h
    · rename_i hc
      injection h with h
      injection h with h1 h2
      subst h1 h2
      refine ⟨by simp; omega, hc.2, fun p hp => ?_⟩
      rcases List.mem_append.1 hp with k | k
      · exact h0 p k
      · simp at k; omega
    · cases h
  · split at h
    · rename_i hc
      injection h with h
      injection h with h1 h2
      subst h1 h2
      refine ⟨hc.2.2, hc.2.1, fun p hp => ?_⟩
      rcases List.mem_append.1 hp with k | k
      · exact h0 p k
      · exact rowP_small _ _ _ _ p k
    · cases h
theorem decW_ok : ∀ (ws acc : List Nat) (f : Nat) (L : List Nat), (∀ w ∈ ws, w < 18446744073709551616) → acc.length ≤ 512 → (∀ p ∈ acc, p < 18446744073709551616) → decW acc f ws = some L → L.length ≤ 512 ∧ (∀ p ∈ L, p < 18446744073709551616)
  | [], acc, f, L, _, hl, h0, h => by
    simp only [decW, Option.some.injEq] at h
    subst h
    exact ⟨hl, h0⟩
  | w :: ws, acc, f, L, hw, hl, h0, h => by
    unfold decW at h
    cases hs : stepD acc f w with
    | none => rw [hs] at h; cases h
    | some ag =>
      obtain ⟨a, g⟩ := ag
      rw [hs] at h
      have k := stepD_ok (hw w (by simp)) h0 hs
      exact decW_ok ws a g L (fun x hx => hw x (by simp [hx])) k.1 k.2.2 h
theorem words_small (l : List UInt8) (n : Nat) : ∀ w ∈ wordsOf l n, w < 18446744073709551616 := by
  intro w hw
  simp only [wordsOf, List.mem_map] at hw
  obtain ⟨i, _, rfl⟩ := hw
  exact rd8 _ _
theorem relrZ_ok {l : List UInt8} {L : List Nat} (h : relrZ l = some L) : L.length ≤ 512 ∧ (∀ p ∈ L, p < 18446744073709551616) := by
  unfold relrZ at h
  split at h
  · exact decW_ok _ _ _ _ (words_small _ _) (by simp) (by simp) h
  · cases h
/-- What Decode answers. -/
def RlrIs (w' : World) (B : Nat) (o : Option (List Nat)) (e : Ending) : Prop :=
  match o with
  | none => e = .returned (.tuple #[.slice none 0 0, .int .i64 130])
  | some L => ∃ v, e = .returned (.tuple #[v, .int .i64 0]) ∧ OwnN w' B v L
theorem relrZ_no {l : List UInt8} (h : l.length % 8 ≠ 0 ∨ 512 < l.length / 8) : relrZ l = none := by unfold relrZ; rw [if_neg (by omega)]
theorem relrZ_yes {l : List UInt8} {m : Nat} (h : l.length = 8 * m) (hm : m ≤ 512) : relrZ l = decW [] 0 (wordsOf l m) := by
  unfold relrZ; rw [if_pos (by omega), show l.length / 8 = m by omega]
set_option maxHeartbeats 2000000 in
set_option maxRecDepth 20000 in
theorem relr_Decode (w : World) (v : Value) (l : List UInt8) (h : Arg w v l) (hl : l.length ≤ 1000000) (hTab : TabZ w) :
    Calls Tryd.prog 5 #[v] w fun e w' => RlrIs w' w.heap.size (relrZ l) e ∧ Below w.heap.size w w' := by
  obtain ⟨a, cap, rfl, _⟩ := h.isSlice
  have HU := hide (fun W (hb : Below w.heap.size w W) (p : Nat) (hp : (p : Int) ≤ 18446744073709551615) => le_U64_all W _ l (h.below' hb) p hp)
  have HB : Hid (Below w.heap.size w w) := Below.refl _ _
  have HTab := hide hTab
  have hG := hTab.lt
  obtain ⟨O, hO⟩ : ∃ O, relrZ l = O := ⟨_, rfl⟩
  have HO := hide hO
  rw [hO]
  obtain ⟨n, hn⟩ : ∃ n, l.length = n := ⟨_, rfl⟩
  have HN := hide hn
  rw [hn] at hl HU ⊢
  clear h hO hTab hn
  by_cases hbad : n % 8 ≠ 0 ∨ 512 < n / 8
  · have HF : Hid (O = none) := by rw [Hid, ← HO.out]; exact relrZ_no (by rw [HN.out]; exact hbad)
    clear HU
    go_enter Tryd.func5, Tryd.ntmps5
    go_wp2
    all_goals
      go_ret2
      exact ⟨by rw [HF.out]; rfl, HB.out⟩
  · obtain ⟨m, hm⟩ : ∃ m, n = 8 * m := ⟨n / 8, by omega⟩
    have hm5 : m ≤ 512 := by omega
    have HR : Hid (decW [] 0 (wordsOf l m) = O) := by rw [Hid, ← relrZ_yes (by rw [HN.out]; exact hm) hm5]; exact HO.out
    have HZ : Hid ((w.alloc (.cells #[.slice none 0 0, .int .u64 0] 39)).heap[w.heap.size]? = some (.cells #[.slice none 0 0, .int .u64 0] 39 (0, 0))) := heap_alloc_new _ _
    have HBZ : Hid (Below w.heap.size w (w.alloc (.cells #[.slice none 0 0, .int .u64 0] 39))) := Below.alloc (Below.refl _ _) (Nat.le_refl _) _
    subst hm
    clear hbad
    go_enter Tryd.func5, Tryd.ntmps5
    go_wp2
    go_loopw [5, 6, 7] (fun vi _ _ wr => ∃ (i f : Nat) (o : Option Nat) (acc : List Nat), i ≤ m ∧ vi = .int .i64 ((8 * i : Nat) : Int) ∧ f < 18446744073709551616 ∧ acc.length ≤ 512 ∧ Hid (∀ p ∈ acc, p < 18446744073709551616) ∧ Hid (Tl wr w.heap.size w.heap.size o acc f) ∧ Hid (Below w.heap.size w wr) ∧ Hid (decW acc f ((wordsOf l m).drop i) = O)) (fun vi _ _ _ => 8 * m - (intOf vi).toNat)
    case atStart =>
      have hT0 := HZ.out
      have hB0 := HBZ.out
      refine ⟨0, 0, none, [], by omega, rfl, by omega, by simp, by simp [Hid], ?_, ?_, by rw [List.drop_zero]; exact HR⟩
      · exact ⟨⟨.slice none 0 0, by first | exact hT0 | (simp [World.setCell]), OwnN.nil _ _, rfl⟩, Nat.le_refl _, by simp⟩
      · exact hB0
    case round =>
      obtain ⟨i, f, o, acc, hi, rfl, hf, hal, HSm, HT, HBr, HD⟩ := hrel
      have e0 : ((8 * i : Nat) : Int) = 8 * (i : Int) := by omega
      rw [e0]
      by_cases hlt : i < m
      · have hltI : 8 * (i : Int) < 8 * (m : Int) := by omega
        have k0 := HU.out wr HBr.out (8 * i) (by omega)
        rw [e0] at k0
        have hr8 : rd l (8 * i) 8 < 18446744073709551616 := rd8 _ _
        have HDr : Hid (decW acc f (rd l (8 * i) 8 :: (wordsOf l m).drop (i + 1)) = O) := by rw [Hid, ← words_drop l m i hlt]; exact HD.out
        have hvr : vN l (8 * i) 8 = rd l (8 * i) 8 := rfl
        rw [hvr] at k0
        generalize rd l (8 * i) 8 = r at *
        generalize eN l (8 * i) 8 = q at *
        have hK := rel_take wr w.heap.size w.heap.size o acc f HT.out HBr.out.size (HTab.out.below HBr.out) hG hal hf r hr8
        go_wp2_with fail
        refine k0.mono ?_
        rintro e w1 ⟨rfl, rfl⟩
        clear k0
        go_wp2_with fail
        refine hK.mono ?_
        rintro e w2 ⟨hb2, hE⟩
        have HB2 : Hid (Below w.heap.size w w2) := HBr.out.trans hb2
        clear hK hb2 HD hvr
        cases hs : stepD acc f r with
        | none =>
          have HF : Hid (O = none) := by rw [Hid, ← HDr.out]; unfold decW; rw [hs]
          rw [hs] at hE
          have hE' : e = _ := hE
          subst hE'
          clear hE hs HDr
          go_wp2
          go_ret2
          exact ⟨by rw [HF.out]; rfl, HB2.out⟩
        | some ag =>
          obtain ⟨a', g'⟩ := ag
          have HD2 : Hid (decW a' g' ((wordsOf l m).drop (i + 1)) = O) := by
            rw [Hid, ← HDr.out]
            show _ = (match stepD acc f r with | none => none | some (a, g) => decW a g _)
            rw [hs]
          have hk := stepD_ok hr8 HSm.out hs
          rw [hs] at hE
          obtain ⟨rfl, o', hT'⟩ := hE
          have HT' := hide hT'
          have HSm2 := hide hk.2.2
          have hk1 := hk.1
          have hk2 := hk.2.1
          clear hT' hk hs HDr HSm
          go_wp2
          go_roundw
          case rel => exact ⟨i + 1, g', o', a', by omega, by go_num, hk2, hk1, HSm2, HT', HB2, HD2⟩
          case measure => simp [intOf]; omega
      · have him : i = m := by omega
        subst him
        have HF : Hid (O = some acc) := by
          have := HD.out
          rw [words_end] at this
          exact this.symm
        obtain ⟨v, g1, g2, _⟩ := HT.out.block
        obtain ⟨va, vc, rfl⟩ := g2.isSlice
        have c0 := cells_of_block g1 0 _ rfl
        have HO2 := hide g2
        clear g1 g2
        go_wp2
        go_ret2
        exact ⟨by rw [HF.out]; exact ⟨_, rfl, HO2.out⟩, HBr.out⟩
end Go.Proofs.YtkelipoiopkokaaDoor
