
/-
  Two rows of pages side by side: the law's own pages keeps its contract.
-/
import Derived.Test.YtdecbnmibjcnaaaVmPe
set_option linter.unusedVariables false
namespace Go.Proofs.Ytdecbnmibjcnaaa
open Go.RowKit Go.PlainAid
/-- v is a slice of pages that reads as l. -/
def PgRow (w : World) (v : Value) (l : List Pg) : Prop :=
  ∃ s cap, v = .slice s l.length cap ∧ l.length ≤ cap ∧ cap ≤ maxLen ∧ (∀ p ∈ l, p.data.length = 256) ∧ (l = [] ∨ ∃ g, s = some ⟨g, 0, none⟩ ∧ g < w.heap.size ∧ ∀ i (hi : i < l.length) k v, l[i].cells[k]? = some v → w.cell? ⟨g, i * 258 + k, none⟩ = some v)
theorem OwnP.row {w : World} {B : Nat} {v : Value} {l : List Pg} (h : OwnP w B v l) (hd : ∀ p ∈ l, p.data.length = 256) : PgRow w v l := by
  have hc := fun g hg => World.ownsRow.cells h (g := g) hg
  rcases h.2 with ⟨rfl, hn⟩ | ⟨g, cap, cur, rfl, hB, hg, h1, h2, h3, h4⟩
  · exact ⟨none, 0, by rw [hn], by omega, by simp, hd, .inl (List.eq_nil_of_length_eq_zero hn)⟩
  · refine ⟨_, cap, rfl, h1, h2, hd, .inr ⟨g, rfl, (Array.getElem?_eq_some_iff.1 hg).1, fun i hi k u hu => ?_⟩⟩
    have key : ∀ (l : List Pg) (_ : ∀ p ∈ l, p.data.length = 256) (i : Nat) (hi : i < l.length) (k : Nat), k < 258 → (flatP l)[i * 258 + k]? = l[i].cells[k]? := by
      intro l
      induction l with
      | nil => intro _ i hi; simp at hi
      | cons r l ih =>
        intro hd i hi k hk
        have hl := r.cells_len (hd r List.mem_cons_self)
        have e : flatP (r :: l) = r.cells ++ flatP l := rfl
        cases i with
        | zero => rw [e, Nat.zero_mul, Nat.zero_add, List.getElem?_append_left (by omega)]; rfl
        | succ i =>
          rw [e, List.getElem?_append_right (by omega), hl, show (i + 1) * 258 + k - 258 = i * 258 + k by omega]
          exact ih (fun p hp => hd p (List.mem_cons_of_mem _ hp)) i (by simpa using hi) k hk
    have hk : k < 258 := by rw [← (l[i]).cells_len (hd _ (List.getElem_mem hi))]; exact (List.getElem?_eq_some_iff.1 hu).1
    have a1 := hc g rfl (i * 258 + k) u (by rw [key l hd i hi k hk]; exact hu)
    rwa [add_lit] at a1
theorem PgRow.stay {w w' : World} {v : Value} {l : List Pg} (h : PgRow w v l) (hb : Below w.heap.size w w') : PgRow w' v l := by
  obtain ⟨s, cap, rfl, h1, h2, h3, h4⟩ := h
  refine ⟨s, cap, rfl, h1, h2, h3, ?_⟩
  rcases h4 with h4 | ⟨g, rfl, hg, hc⟩
  · exact .inl h4
  · exact .inr ⟨g, rfl, Nat.lt_of_lt_of_le hg hb.size, fun i hi k u hu => by rw [hb.cell (p := ⟨g, i * 258 + k, none⟩) hg]; exact hc i hi k u hu⟩
/-- Two pages are the same but for so many bytes from a place on. -/
structure PgSame (a b : Pg) (p n : Nat) : Prop where
  pos : a.pos = b.pos
  prot : a.prot = b.prot
  data : ∀ k (h1 : k < a.data.length) (h2 : k < b.data.length), a.data[k] = b.data[k] ∨ (p ≤ a.pos + k ∧ a.pos + k - p < n)
theorem PgSame.refl (a : Pg) (p n : Nat) : PgSame a a p n := ⟨rfl, rfl, fun _ _ _ => .inl rfl⟩
theorem Pg.cell2 (a : Pg) (k : Nat) (h : k < a.data.length) : a.cells[2 + k]? = some (.int .u8 (a.data[k].toNat : Int)) := by
  unfold Pg.cells dv
  rw [show 2 + k = k + 1 + 1 by omega]
  simp [List.getElem?_eq_getElem h]
set_option maxHeartbeats 4000000 in
set_option maxRecDepth 20000 in
theorem law_pages (w : World) (va vb : Value) (A B : List Pg) (hA : PgRow w va A) (hB : PgRow w vb B) (p n : Nat) (hp : (p : Int) ≤ 18446744073709551615) (hl : A.length = B.length) (hn : A.length ≤ 1024) (htop : ∀ a ∈ A, a.pos ≤ 1099511627776) (hs : ∀ i (h1 : i < A.length) (h2 : i < B.length), PgSame A[i] B[i] p n) :
    Calls Try.prog 22 #[va, vb, .int .u64 p, .int .u64 n] w fun e w' => e = .returned (.bool true) ∧ Below w.heap.size w w' := by
  obtain ⟨sa, ca, rfl, a1, a2, a3, a4⟩ := hA
  obtain ⟨sb, cb, rfl, b1, b2, b3, b4⟩ := hB
  have hca : ca ≤ 9223372036854775807 := by unfold maxLen at a2; omega
  have hcb : cb ≤ 9223372036854775807 := by unfold maxLen at b2; omega
  rw [← hl] at b1 ⊢
  have HL : Hid (A.length = B.length) := hl
  have HA3 := (show Hid _ from a3)
  have HB3 := (show Hid _ from b3)
  have HS := (show Hid _ from hs)
  have HT := (show Hid _ from htop)
  clear hl a3 b3 hs htop
  go_enter Try.func22, Try.ntmps22
  go_wp2
  go_loopw [9] (fun vi wr => ∃ i : Nat, i ≤ A.length ∧ vi = .int .i64 i ∧ Hid (Below w.heap.size w wr)) (fun vi _ => A.length - (intOf vi).toNat)
  case atStart => exact ⟨0, by omega, rfl, Below.refl _ _⟩
  case round =>
    obtain ⟨i, hi, rfl, HB⟩ := hrel
    by_cases hlt : i < A.length
    · have hltI : (i : Int) < (A.length : Int) := by omega
      have hltB : i < B.length := by have := HL.out; omega
      obtain ⟨ga, rfl, hga, hca'⟩ : ∃ g, sa = some ⟨g, 0, none⟩ ∧ g < w.heap.size ∧ ∀ i (hi : i < A.length) k v, A[i].cells[k]? = some v → w.cell? ⟨g, i * 258 + k, none⟩ = some v := by
        rcases a4 with e | e
        · rw [e] at hlt; simp at hlt
        · exact e
      obtain ⟨gb, rfl, hgb, hcb'⟩ : ∃ g, sb = some ⟨g, 0, none⟩ ∧ g < w.heap.size ∧ ∀ i (hi : i < B.length) k v, B[i].cells[k]? = some v → w.cell? ⟨g, i * 258 + k, none⟩ = some v := by
        rcases b4 with e | e
        · rw [e] at hltB; simp at hltB
        · exact e
      have hsm := HS i hlt hltB
      have hta := HT _ (List.getElem_mem hlt)
      have hda := HA3 _ (List.getElem_mem hlt)
      have hdb := HB3 _ (List.getElem_mem hltB)
      have HCA : Hid (∀ W, Below w.heap.size w W → ∀ k v, A[i].cells[k]? = some v → W.cell? ⟨ga, i * 258 + k, none⟩ = some v) := fun W hW k v hv => by rw [hW.cell (p := ⟨ga, i * 258 + k, none⟩) hga]; exact hca' i hlt k v hv
      have HCB : Hid (∀ W, Below w.heap.size w W → ∀ k v, B[i].cells[k]? = some v → W.cell? ⟨gb, i * 258 + k, none⟩ = some v) := fun W hW k v hv => by rw [hW.cell (p := ⟨gb, i * 258 + k, none⟩) hgb]; exact hcb' i hltB k v hv
      clear hca' hcb' a4 b4
      generalize hX : A[i] = X at *
      generalize hY : B[i] = Y at *
      clear hX hY
      have c0 : wr.cell? ⟨ga, i * 258, none⟩ = some (.int .u64 X.pos) := HCA.out wr HB.out 0 _ rfl
      have c1 : wr.cell? ⟨ga, i * 258 + 1, none⟩ = some (.int .i64 X.prot) := HCA.out wr HB.out 1 _ rfl
      have d0 : wr.cell? ⟨gb, i * 258, none⟩ = some (.int .u64 Y.pos) := HCB.out wr HB.out 0 _ rfl
      have d1 : wr.cell? ⟨gb, i * 258 + 1, none⟩ = some (.int .i64 Y.prot) := HCB.out wr HB.out 1 _ rfl
      rw [← hsm.pos] at d0
      rw [← hsm.prot] at d1
      have HSM : Hid (PgSame X Y p n) := hsm
      have HDA : Hid (X.data.length = 256) := hda
      have HDB : Hid (Y.data.length = 256) := hdb
      have HTA : Hid (X.pos ≤ 1099511627776) := hta
      clear hsm hda hdb
      generalize hxp : X.pos = xp at *
      generalize X.prot = xq at *
      go_wp2_with fail
      go_quiet (fail)
      all_goals go_wp2
      go_loopw [10, 11] (fun vk _ wz => ∃ k : Nat, k ≤ 256 ∧ vk = .int .i64 k ∧ Hid (Below w.heap.size w wz)) (fun vk _ _ => 256 - (intOf vk).toNat)
      case atStart => exact ⟨0, by omega, rfl, HB.out.os, HB.out.tape, HB.out.output, HB.out.size, HB.out.block⟩
      case round =>
        obtain ⟨k, hk, rfl, HB2⟩ := hrel
        by_cases hlt2 : k < 256
        · have hlt2I : (k : Int) < 256 := by omega
          have hk1 : k < X.data.length := by have := HDA.out; omega
          have hk2 : k < Y.data.length := by have := HDB.out; omega
          have x0 : wr.cell? ⟨ga, i * 258, none⟩ = some (.int .u64 xp) := by rw [← hxp]; exact HCA.out wr HB2.out 0 _ rfl
          have x2 : wr.cell? ⟨ga, i * 258 + 2 + k, none⟩ = some (.int .u8 (X.data[k].toNat : Int)) := by rw [Nat.add_assoc]; exact HCA.out wr HB2.out (2 + k) _ (X.cell2 k hk1)
          have y2 : wr.cell? ⟨gb, i * 258 + 2 + k, none⟩ = some (.int .u8 (Y.data[k].toNat : Int)) := by rw [Nat.add_assoc]; exact HCB.out wr HB2.out (2 + k) _ (Y.cell2 k hk2)
          have hd := HSM.out.data k hk1 hk2
          have hxk : xp + k ≤ 1099511627776 + 256 := by have := HTA.out; omega
          rw [hxp] at hd
          have HXK : Hid (xp + k ≤ 1099511627776 + 256) := hxk
          clear c0 c1 d0 d1 HCA HCB
          generalize X.data[k] = xb at *
          generalize Y.data[k] = yb at *
          by_cases heq : xb = yb
          · subst heq
            clear hd
            go_wp2_with fail
            go_quiet (fail)
            all_goals go_wp2
            go_roundw
            case rel => exact ⟨k + 1, by omega, by go_num, HB2.out.os, HB2.out.tape, HB2.out.output, HB2.out.size, HB2.out.block⟩
            case measure => simp [intOf]; omega
          · have hne : ¬ ((xb.toNat : Int) = (yb.toNat : Int)) := fun e => heq (UInt8.toNat_inj.1 (by omega))
            obtain ⟨h1, h2⟩ := hd.resolve_left heq
            have g1 : ¬ (xp : Int) + k < p := by omega
            have g2 : (xp : Int) + k - p < n := by omega
            have g3 : 0 ≤ (xp : Int) + k - p := by omega
            have g4 : ¬ (n : Int) ≤ (xp : Int) + k - p := by omega
            clear hd heq
            go_wp2_with fail
            have hwr : IntKind.u64.wrap ((xp : Int) + k - p) = (xp : Int) + k - p := by have := HXK.out; rw [IntKind.wrap_u64]; omega
            go_quiet (fail)
            all_goals go_wp2
            go_roundw
            case rel => exact ⟨k + 1, by omega, by go_num, HB2.out.os, HB2.out.tape, HB2.out.output, HB2.out.size, HB2.out.block⟩
            case measure => simp [intOf]; omega
        · have hlt2I : ¬ (k : Int) < 256 := by omega
          go_wp2
          go_roundw
          case rel => exact ⟨i + 1, by omega, by go_num, HB2.out⟩
          case measure => simp [intOf]; omega
    · have hltI : ¬ (i : Int) < (A.length : Int) := by omega
      go_wp2
      go_ret
      exact ⟨rfl, HB.out⟩
end Go.Proofs.Ytdecbnmibjcnaaa
