
/-
  Layer 7 (zip): Find keeps its contract.
-/
import Derived.Test.YtegcdddfccmljaaZpF
set_option linter.unusedVariables false
namespace Go.Proofs.Ytegcdddfccmljaa
open Go.RowKit Go.PlainAid
/-- Where the bytes of an entry stand, how many they are, or the error. -/
def findZ (l name : List UInt8) : Nat × Nat × Int :=
  match readZ l with
  | none => (0, 0, 70)
  | some (es, f) => match es.find? (named name) with
    | none => (0, 0, 71)
    | some e => if e.method = 0 then
        match beginZ (win l 0 f) e with
        | none => (0, 0, 70)
        | some a => if a % 256 = 0 then (a, e.size, 0) else (0, 0, 73)
      else (0, 0, 72)
def findV (x : Nat × Nat × Int) : Value := .tuple #[.int .u64 x.1, .int .u64 x.2.1, .int .i64 x.2.2]
theorem beginZ_le {h : List UInt8} {e : En} {a : Nat} (k : beginZ h e = some a) : a + e.size ≤ h.length ∧ e.pos < a := by
  unfold beginZ at k
  split at k
  · split at k
    · split at k
      · simp only [Option.some.injEq] at k; omega
      · simp at k
    · simp at k
  · simp at k
set_option maxHeartbeats 4000000 in
set_option maxRecDepth 20000 in
theorem zip_Find (w : World) (v : Value) (l name : List UInt8) (h : Arg w v l) :
    Calls Try.prog 10 #[v, .string ⟨name.toArray⟩] w fun x w' => x = .returned (findV (findZ l name)) ∧ Below w.heap.size w w' := by
  have HB1 : Hid (Below w.heap.size w (w.alloc (.cells #[.string ⟨name.toArray⟩] 9))) := (Below.refl _ w).alloc (Nat.le_refl _) _
  have hR := zip_read _ v l (h.alloc (.cells #[.string ⟨name.toArray⟩] 9))
  have hx : (w.alloc (.cells #[.string ⟨name.toArray⟩] 9)).cell? ⟨w.heap.size, 0, none⟩ = some (.string ⟨name.toArray⟩) := by rw [World.cell?_alloc_at _ _ _ _ (by simp)]; simp
  have hlt : w.heap.size < (w.alloc (.cells #[.string ⟨name.toArray⟩] 9)).heap.size := by simp
  obtain ⟨a, cap, rfl, _⟩ := h.isSlice
  obtain ⟨F, hF⟩ : ∃ F, findZ l name = F := ⟨_, rfl⟩
  rw [hF]
  have HF := hide hF
  have HX := hide hx
  have HLT := hide hlt
  clear h hF hx hlt
  go_enter Try.func10, Try.ntmps10
  go_wp2_with fail
  refine hR.mono ?_
  rintro x w1 ⟨hE, hb⟩
  have HB2 : Hid (Below w.heap.size w w1) := HB1.out.trans (hb.mono HB1.out.size)
  have HX1 : Hid (w1.cell? ⟨w.heap.size, 0, none⟩ = some (.string ⟨name.toArray⟩)) := by rw [Hid, hb.cell (p := ⟨w.heap.size, 0, none⟩) HLT.out]; exact HX.out
  clear hR hb HX HLT HB1
  have hFe := HF.out
  rw [findZ] at hFe
  cases hO : readZ l with
  | none =>
    rw [hO] at hFe hE
    have hE' : x = _ := hE
    subst hE'
    simp only at hFe
    subst hFe
    clear hE HF hO
    go_wp2
    go_ret3
    exact ⟨rfl, HB2.out⟩
  | some y =>
    obtain ⟨es, f⟩ := y
    obtain ⟨hok, hlen⟩ := readZ_ok hO
    rw [hO] at hFe hE
    simp only at hFe
    obtain ⟨ve, v2, rfl, hown, hag, hf1, hf2⟩ := hE
    have hIx := zip_IndexFunc w1 ve _ es hown hlen w.heap.size name HX1.out
    have HOW := hide hown
    have HAG := hide hag
    have HOK := hide hok
    have HFL : Hid (f ≤ l.length ∧ l.length ≤ 262144) := ⟨hf1, hf2⟩
    have HFE := hide hFe
    clear HF hO hown hag hok hf1 hf2 hFe
    go_wp2_with fail
    refine hIx.mono ?_
    rintro x w2 ⟨rfl, hb2⟩
    have HB3 : Hid (Below w.heap.size w w2) := HB2.out.trans (hb2.mono HB2.out.size)
    have HOW2 := hide (HOW.out.stay hb2)
    have HAG2 := hide (HAG.out.below hb2 rfl)
    clear hb2 hIx HOW HAG HB2 HX1
    rcases firstAt_is (named name) es 0 with ⟨e1, e2⟩ | ⟨k, hk, e1, e2⟩
    · rw [e1]
      have hFe := HFE.out
      rw [e2] at hFe
      simp only at hFe
      subst hFe
      clear HFE e1 e2
      go_wp2
      go_ret3
      exact ⟨rfl, HB3.out⟩
    · rw [e1, Nat.zero_add]
      have hFe := HFE.out
      rw [e2] at hFe
      simp only at hFe
      obtain ⟨g, cap', rfl, hc1, hc2, hg, hcc⟩ := HOW2.out.cells (by omega)
      obtain ⟨k0, k1, k2, k3, k4⟩ := hcc k hk
      have hoke := HOK.out es[k] (List.getElem_mem hk)
      have hcap : cap' ≤ 9223372036854775807 := by unfold maxLen at hc2; omega
      have hkI : (k : Int) < (es.length : Int) := by omega
      have HLN := hide hlen
      clear HFE e1 e2 hcc HOK HOW2
      generalize es[k] = e at *
      have hBg := fun W hW => zip_begin W v2 (win l 0 f) hW (by rw [win_len _ _ _ (by have := HFL.out; omega)]; have := HFL.out; omega) e hoke
      have HBG := hide hBg
      have hm := hoke.m
      clear hBg hoke
      obtain ⟨nn, me, si, st, po⟩ := e
      simp only [En.cells] at HBG hFe k0 k1 k2 k3 k4 hm
      have HB4 : Hid (Below w.heap.size w (w2.alloc (.cells #[.string ⟨nn.toArray⟩, .int .i64 me, .int .u64 si, .int .u64 st, .int .u64 po] 32))) := HB3.out.alloc HB3.out.size _
      have HAG4 := hide (HAG2.out.alloc (.cells #[.string ⟨nn.toArray⟩, .int .i64 me, .int .u64 si, .int .u64 st, .int .u64 po] 32))
      by_cases cm : me = 0
      · subst cm
        rw [if_pos rfl] at hFe
        go_wp2_with fail
        refine (HBG.out _ HAG4.out).mono ?_
        rintro x w3 ⟨hBe, hb3⟩
        have HB5 : Hid (Below w.heap.size w w3) := HB4.out.trans (hb3.mono HB4.out.size)
        have hz2 : w3.cell? ⟨w2.heap.size, 2, none⟩ = some (.int .u64 si) := by
          rw [hb3.cell (p := ⟨w2.heap.size, 2, none⟩) (by simp), World.cell?_alloc_at _ _ _ _ (by simp)]; simp
        clear k0 k1 k2 k3 k4 hb3 HBG
        cases hBz : beginZ (win l 0 f) ⟨nn, 0, si, st, po⟩ with
        | none =>
          rw [hBz] at hBe hFe
          obtain ⟨x, rfl⟩ := hBe
          simp only at hFe
          subst hFe
          clear hBz
          go_wp2
          go_ret3
          exact ⟨rfl, HB5.out⟩
        | some at' =>
          rw [hBz] at hBe hFe
          have hBe' : x = _ := hBe
          subst hBe'
          simp only at hFe
          clear hBz hBe
          by_cases c256 : at' % 256 = 0
          · rw [if_pos c256] at hFe
            subst hFe
            have hb : (((at' : Int) % 256) != 0) = false := by simp; omega
            go_wp2_with fail
            go_quiet (fail)
            go_wp2
            go_ret3
            exact ⟨rfl, ⟨HB5.out.os, HB5.out.tape, HB5.out.output, HB5.out.size, HB5.out.block⟩⟩
          · rw [if_neg c256] at hFe
            subst hFe
            have hb : (((at' : Int) % 256) != 0) = true := by simp; omega
            go_wp2
            go_ret3
            exact ⟨rfl, HB5.out⟩
      · rw [if_neg cm] at hFe
        subst hFe
        have hb : ((me : Int) != 0) = true := by simp; omega
        go_wp2
        go_ret3
        exact ⟨rfl, HB4.out⟩
end Go.Proofs.Ytegcdddfccmljaa
