
/-
  Layer 7 (zip): which entry has a name, and where its bytes begin.
-/
import Derived.Test.YtegcdddfccmljaaZpD
import Derived.Shelf.Abstract
set_option linter.unusedVariables false
namespace Go.Proofs.Ytegcdddfccmljaa
open Go.RowKit Go.PlainAid
/-- An entry's numbers, as they come out of a list. -/
structure En.ok (e : En) : Prop where
  m : e.method < 65536
  s : e.size < 4294967296
  t : e.stored < 4294967296
  p : e.pos < 4294967296
theorem entryAt_ok {l : List UInt8} {p : Nat} {e : En} {s : Nat} (h : entryAt l p = some (e, s)) : e.ok := by
  unfold entryAt at h
  split at h
  · split at h
    · simp only [Option.some.injEq, Prod.mk.injEq] at h
      obtain ⟨rfl, _⟩ := h
      exact ⟨rd2 _ _, rd4 _ _, rd4 _ _, rd4 _ _⟩
    · simp at h
  · simp at h
theorem entries_ok (l : List UInt8) : ∀ k p es, entries l k p = some es → (∀ e ∈ es, e.ok) ∧ es.length = k
  | 0, p, es, h => by
    rw [entries] at h
    split at h
    · simp only [Option.some.injEq] at h; subst h; exact ⟨fun e he => by simp at he, rfl⟩
    · simp at h
  | k + 1, p, es, h => by
    rw [entries] at h
    cases hE : entryAt l p with
    | none => rw [hE] at h; simp at h
    | some x =>
      obtain ⟨e, s⟩ := x
      rw [hE] at h
      simp only [Option.map_eq_some_iff] at h
      obtain ⟨t, ht, rfl⟩ := h
      obtain ⟨h1, h2⟩ := entries_ok l k (p + s) t ht
      refine ⟨fun y hy => ?_, by rw [List.length_cons, h2]⟩
      rcases List.mem_cons.1 hy with rfl | hy
      · exact entryAt_ok hE
      · exact h1 y hy
theorem readZ_ok {l : List UInt8} {es : List En} {f : Nat} (h : readZ l = some (es, f)) : (∀ e ∈ es, e.ok) ∧ es.length < 65536 := by
  unfold readZ at h
  split at h
  · simp at h
  · split at h
    · simp at h
    · split at h
      · split at h
        · simp only [Option.map_eq_some_iff, Prod.mk.injEq] at h
          obtain ⟨a, ha, rfl, _⟩ := h
          obtain ⟨h1, h2⟩ := entries_ok _ _ _ _ ha
          exact ⟨h1, by rw [h2]; exact rd2 _ _⟩
        · simp at h
      · simp at h
theorem OwnE.cells {w : World} {T : TypeId} {B : Nat} {v : Value} {l : List En} (h : OwnE w T B v l) (hne : 0 < l.length) : ∃ g cap, v = .slice (some ⟨g, 0, none⟩) l.length cap ∧ l.length ≤ cap ∧ cap ≤ maxLen ∧ g < w.heap.size ∧
    ∀ j (hj : j < l.length), w.cell? ⟨g, j * 5, none⟩ = some (.string ⟨l[j].name.toArray⟩) ∧ w.cell? ⟨g, j * 5 + 1, none⟩ = some (.int .i64 l[j].method) ∧ w.cell? ⟨g, j * 5 + 2, none⟩ = some (.int .u64 l[j].size) ∧ w.cell? ⟨g, j * 5 + 3, none⟩ = some (.int .u64 l[j].stored) ∧ w.cell? ⟨g, j * 5 + 4, none⟩ = some (.int .u64 l[j].pos) := by
  have hc := fun g hg => World.ownsRow.cells h (g := g) hg
  unfold OwnE at h
  rcases h.2 with ⟨rfl, hn⟩ | ⟨g, cap, cur, rfl, hb, hg, hn, hm, _⟩
  · omega
  · refine ⟨g, cap, rfl, hn, hm, (Array.getElem?_eq_some_iff.1 hg).1, fun j hj => ?_⟩
    have k := fun k hk u hu => hc g rfl (j * 5 + k) u (by rw [flatE_get l j hj k hk]; exact hu)
    simp only [add_at, Nat.zero_add] at k
    exact ⟨k 0 (by omega) _ rfl, k 1 (by omega) _ rfl, k 2 (by omega) _ rfl, k 3 (by omega) _ rfl, k 4 (by omega) _ rfl⟩
theorem OwnE.none {w : World} {T : TypeId} {B : Nat} {v : Value} {l : List En} (h : OwnE w T B v l) : ∃ a cap, v = .slice a l.length cap := by
  unfold OwnE at h
  rcases h.2 with ⟨rfl, hn⟩ | ⟨g, cap, cur, rfl, _⟩
  · exact ⟨_, _, by rw [hn]⟩
  · exact ⟨_, _, rfl⟩
/-- Has it that name? -/
def named (nm : List UInt8) (e : En) : Bool := e.name == nm
set_option maxHeartbeats 1000000 in
theorem zip_Find1 (w : World) (e : En) (R : Nat) (nm : List UInt8) (hR : w.cell? ⟨R, 0, none⟩ = some (.string ⟨nm.toArray⟩)) :
    Calls Try.prog 20 #[.agg e.cells.toArray, .pointer (some ⟨R, 0, none⟩)] w fun x w' => x = .returned (.bool (named nm e)) ∧ Below w.heap.size w w' := by
  have hlt : R < w.heap.size := World.block_lt_of_cell? _ _ hR
  obtain ⟨nn, me, si, st, po⟩ := e
  have HB : Hid (Below w.heap.size w (w.alloc (.cells (En.cells ⟨nn, me, si, st, po⟩).toArray 32))) := (Below.refl _ w).alloc (Nat.le_refl _) _
  unfold named
  simp only [En.cells] at HB ⊢
  go_enter Try.func20, Try.ntmps20
  go_wp2
  go_ret
  exact ⟨rfl, HB.out⟩
/-- The first that is so, from place k on; -1: none. -/
def firstAt (p : En → Bool) : List En → Nat → Int
  | [], _ => -1
  | e :: t, k => if p e = true then (k : Int) else firstAt p t (k + 1)
theorem firstAt_is (p : En → Bool) : ∀ (l : List En) (o : Nat), (firstAt p l o = -1 ∧ l.find? p = none) ∨ ∃ (k : Nat) (h : k < l.length), firstAt p l o = ((o + k : Nat) : Int) ∧ l.find? p = some l[k]
  | [], _ => .inl ⟨rfl, rfl⟩
  | e :: t, o => by
    rw [firstAt]
    by_cases hp : p e = true
    · rw [if_pos hp]
      exact .inr ⟨0, by simp, by simp, by simp [hp]⟩
    · rw [if_neg hp]
      have hf : (e :: t).find? p = t.find? p := by simp [hp]
      rw [hf]
      rcases firstAt_is p t (o + 1) with h | ⟨k, hk, h1, h2⟩
      · exact .inl h
      · exact .inr ⟨k + 1, by simpa using hk, by rw [h1]; omega, by simpa using h2⟩
set_option maxHeartbeats 2000000 in
theorem zip_IndexFunc (w : World) (v : Value) (B : Nat) (es : List En) (h : OwnE w 32 B v es) (hl : es.length < 65536) (R : Nat) (nm : List UInt8) (hR : w.cell? ⟨R, 0, none⟩ = some (.string ⟨nm.toArray⟩)) :
    Calls Try.prog 19 #[v, .func (.func 20) #[] #[.pointer (some ⟨R, 0, none⟩)]] w fun x w' => x = .returned (.int .i64 (firstAt (named nm) es 0)) ∧ Below w.heap.size w w' := by
  have eg : ∀ args w, (callFunc 20 args).run Try.prog w = .ok (.enter 20 args) w := enters_of Try.func20 (by kernel_rfl) rfl
  have HR := hide hR
  have HO := hide h
  obtain ⟨a, cap, rfl⟩ := h.none
  have hcell : 0 < es.length → _ := fun hne => h.cells hne
  have HC := hide hcell
  clear h hR hcell
  go_enter Try.func19, Try.ntmps19
  go_wp2
  go_loopw [5, 8] (fun _ vi wr => ∃ i : Nat, i ≤ es.length ∧ vi = .int .i64 i ∧ Hid (Below w.heap.size w wr) ∧ Hid (firstAt (named nm) es 0 = firstAt (named nm) (es.drop i) i)) (fun _ vi _ => es.length - (intOf vi).toNat)
  case atStart => exact ⟨0, by omega, rfl, Below.refl _ _, rfl⟩
  case round =>
    obtain ⟨i, hi, rfl, HB, HF⟩ := hrel
    by_cases hlt : i < es.length
    · have hltI : (i : Int) < (es.length : Int) := by omega
      obtain ⟨g, cap', he, hc1, hc2, hg, hcc⟩ := HC.out (by omega)
      simp only [Value.slice.injEq] at he
      obtain ⟨rfl, _, rfl⟩ := he
      obtain ⟨k0, k1, k2, k3, k4⟩ := hcc i hlt
      have hcap : cap ≤ 9223372036854775807 := by unfold maxLen at hc2; omega
      have mv : ∀ j u, w.cell? ⟨g, j, none⟩ = some u → wr.cell? ⟨g, j, none⟩ = some u := fun j u hu => by rw [HB.out.cell (p := ⟨g, j, none⟩) hg]; exact hu
      have d0 := mv _ _ k0
      have d1 := mv _ _ k1
      have d2 := mv _ _ k2
      have d3 := mv _ _ k3
      have d4 := mv _ _ k4
      have hRr : wr.cell? ⟨R, 0, none⟩ = some (.string ⟨nm.toArray⟩) := by rw [HB.out.cell (p := ⟨R, 0, none⟩) (World.block_lt_of_cell? _ _ HR.out)]; exact HR.out
      have hcall := zip_Find1 wr es[i] R nm hRr
      have hF := HF.out
      rw [List.drop_eq_getElem_cons hlt, firstAt] at hF
      simp only [En.cells] at hcall
      clear HF hcc k0 k1 k2 k3 k4 mv hRr
      cases hp : named nm es[i] with
      | true =>
        rw [hp] at hcall
        rw [if_pos hp] at hF
        have HV := hide hF
        clear hF hp
        generalize es[i] = e at *
        go_wp2_with (go_at_fn 20; refine hcall.mono ?_; rintro e w1 ⟨rfl, hb⟩)
        go_ret
        exact ⟨by rw [HV.out]; rfl, HB.out.trans (hb.mono HB.out.size)⟩
      | false =>
        rw [hp] at hcall
        rw [if_neg (by rw [hp]; simp)] at hF
        have HV := hide hF
        clear hF hp
        generalize es[i] = e at *
        go_wp2_with (go_at_fn 20; refine hcall.mono ?_; rintro e w1 ⟨rfl, hb⟩)
        go_roundw
        case rel => exact ⟨i + 1, by omega, by go_num, HB.out.trans (hb.mono HB.out.size), HV⟩
        case measure => simp [intOf]; omega
    · have hltI : ¬ (i : Int) < (es.length : Int) := by omega
      have he : i = es.length := by omega
      subst he
      have hF := HF.out
      rw [List.drop_length, firstAt] at hF
      have HV := hide hF
      clear hF HF
      go_wp2
      go_ret
      exact ⟨by rw [HV.out]; rfl, HB.out⟩
end Go.Proofs.Ytegcdddfccmljaa
