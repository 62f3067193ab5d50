
/-
  VfsOwn: what is written into the law's own nodes, and into what was answered.
-/
import Derived.Test.YthkpcafbfgfjpaaDoorFsV
set_option linter.unusedVariables false
namespace Go.Proofs.YthkpcafbfgfjpaaDoor
open Go.RowKit Go.PlainAid
/-- Block g has n bytes, whichever. -/
def BytesAt (w : World) (g n : Nat) : Prop := ∃ cur : Array Value, w.heap[g]? = some (.cells cur 5 (0, 0)) ∧ ∀ j, j < n → ∃ z : Int, cur[j]? = some (.int .u8 z)
theorem BytesAt.cell {w : World} {g n : Nat} (h : BytesAt w g n) (j : Nat) (hj : j < n) : ∃ z : Int, w.cell? ⟨g, j, none⟩ = some (.int .u8 z) ∧ w.frozen? ⟨g, j, none⟩ = false := by
  obtain ⟨cur, h1, h2⟩ := h
  obtain ⟨z, hz⟩ := h2 j hj
  refine ⟨z, ?_, ?_⟩
  · simp [World.cell?, h1, hz]
  · simp [World.frozen?, h1]
theorem BytesAt.set {w : World} {g n : Nat} (h : BytesAt w g n) (g' j : Nat) (z : Int) : BytesAt (w.setCell ⟨g', j, none⟩ (.int .u8 z)) g n := by
  obtain ⟨cur, h1, h2⟩ := h
  by_cases e : g = g'
  · subst e
    refine ⟨cur.setIfInBounds j (.int .u8 z), heap_setCell_at w g j _ _ _ _ h1, fun i hi => ?_⟩
    rw [Array.getElem?_setIfInBounds]
    obtain ⟨z0, hz0⟩ := h2 i hi
    by_cases e2 : j = i
    · subst e2
      rw [if_pos rfl, if_pos (Array.getElem?_eq_some_iff.1 hz0).1]
      exact ⟨z, rfl⟩
    · rw [if_neg e2]; exact ⟨z0, hz0⟩
  · exact ⟨cur, by rw [Below.heap_setCell _ _ _ _ e]; exact h1, h2⟩
theorem BytesAt.heap {w w' : World} {g n : Nat} (h : BytesAt w g n) (hb : w'.heap[g]? = w.heap[g]?) : BytesAt w' g n := by
  obtain ⟨cur, h1, h2⟩ := h
  exact ⟨cur, hb.trans h1, h2⟩
theorem BytesAt.lt {w : World} {g n : Nat} (h : BytesAt w g n) : g < w.heap.size := (Array.getElem?_eq_some_iff.1 h.choose_spec.1).1
theorem OwnB.bytes {w : World} {B : Nat} {v : Value} {l : List UInt8} (h : OwnB w B v l) : (v = .slice none 0 0 ∧ l = []) ∨ ∃ g cap, v = .slice (some ⟨g, 0, none⟩) l.length cap ∧ cap ≤ maxLen ∧ l.length ≤ cap ∧ B ≤ g ∧ BytesAt w g l.length := by
  rcases h.2 with ⟨e, hn⟩ | ⟨g, cap, cur, e, hB, hg, h1, h2, h3, h4⟩
  · exact .inl ⟨e, List.eq_nil_of_length_eq_zero hn⟩
  · refine .inr ⟨g, cap, e, h2, h1, hB, cur, hg, fun j hj => ?_⟩
    have := congrArg (fun x => x[j]?) h4
    simp only [Nat.mul_one, List.getElem?_take, if_pos hj, bv, List.getElem?_map, List.getElem?_eq_getElem hj, Option.map_some] at this
    exact ⟨_, by simpa using this⟩
/-- The law's own nodes, as far as they are written. -/
structure OwnN (w : World) (lo hi g : Nat) (l : List Nd) : Prop where
  glo : lo ≤ g
  ghi : g < hi
  row : ∃ cur : Array Value, w.heap[g]? = some (.cells cur 40 (0, 0)) ∧ ∀ j (h : j < l.length), cur[j * 4 + 2]? = some l[j].vd ∧ ∃ u, cur[j * 4]? = some u
  dat : ∀ n ∈ l, (n.vd = .slice none 0 0 ∧ n.data = []) ∨ ∃ gd cap, n.vd = .slice (some ⟨gd, 0, none⟩) n.data.length cap ∧ cap ≤ maxLen ∧ n.data.length ≤ cap ∧ lo ≤ gd ∧ gd < hi ∧ gd ≠ g ∧ BytesAt w gd n.data.length
theorem OwnN.cell2 {w : World} {lo hi g : Nat} {l : List Nd} (h : OwnN w lo hi g l) (j : Nat) (hj : j < l.length) : w.cell? ⟨g, j * 4 + 2, none⟩ = some l[j].vd ∧ (∃ u, w.cell? ⟨g, j * 4, none⟩ = some u) ∧ w.frozen? ⟨g, j * 4, none⟩ = false := by
  obtain ⟨cur, h1, h2⟩ := h.row
  obtain ⟨a, u, b⟩ := h2 j hj
  refine ⟨by simp [World.cell?, h1, a], ⟨u, by simp [World.cell?, h1, b]⟩, by simp [World.frozen?, h1]⟩
theorem OwnN.heap {w w' : World} {lo hi g : Nat} {l : List Nd} (h : OwnN w lo hi g l) (hb : ∀ k, k < hi → w'.heap[k]? = w.heap[k]?) : OwnN w' lo hi g l := by
  obtain ⟨cur, h1, h2⟩ := h.row
  refine ⟨h.glo, h.ghi, ⟨cur, (hb g h.ghi).trans h1, h2⟩, fun n hn => ?_⟩
  rcases h.dat n hn with e | ⟨gd, cap, e, c1, c2, l1, l2, ne, b⟩
  · exact .inl e
  · exact .inr ⟨gd, cap, e, c1, c2, l1, l2, ne, b.heap (hb gd l2)⟩
/-- A byte of one node is written. -/
theorem OwnN.setB {w : World} {lo hi g : Nat} {l : List Nd} (h : OwnN w lo hi g l) {gd : Nat} (hne : gd ≠ g) (k : Nat) (z : Int) : OwnN (w.setCell ⟨gd, k, none⟩ (.int .u8 z)) lo hi g l := by
  obtain ⟨cur, h1, h2⟩ := h.row
  refine ⟨h.glo, h.ghi, ⟨cur, by rw [Below.heap_setCell _ _ _ _ (fun e => hne e.symm)]; exact h1, h2⟩, fun n hn => ?_⟩
  rcases h.dat n hn with e | ⟨gd', cap, e, c1, c2, l1, l2, ne, b⟩
  · exact .inl e
  · exact .inr ⟨gd', cap, e, c1, c2, l1, l2, ne, b.set gd k z⟩
/-- A node's path is written. -/
theorem OwnN.setP {w : World} {lo hi g : Nat} {l : List Nd} (h : OwnN w lo hi g l) (j : Nat) (u : Value) : OwnN (w.setCell ⟨g, j * 4, none⟩ u) lo hi g l := by
  obtain ⟨cur, h1, h2⟩ := h.row
  refine ⟨h.glo, h.ghi, ⟨cur.setIfInBounds (j * 4) u, heap_setCell_at w g (j * 4) _ _ _ _ h1, fun i hi => ?_⟩, fun n hn => ?_⟩
  · obtain ⟨a, v, b⟩ := h2 i hi
    refine ⟨by rw [Array.getElem?_setIfInBounds, if_neg (by omega)]; exact a, ?_⟩
    rw [Array.getElem?_setIfInBounds]
    by_cases e : j * 4 = i * 4
    · rw [if_pos e, if_pos (by rw [e]; exact (Array.getElem?_eq_some_iff.1 b).1)]; exact ⟨u, rfl⟩
    · rw [if_neg e]; exact ⟨v, b⟩
  · rcases h.dat n hn with e | ⟨gd', cap, e, c1, c2, l1, l2, ne, b⟩
    · exact .inl e
    · exact .inr ⟨gd', cap, e, c1, c2, l1, l2, ne, b.heap (Below.heap_setCell _ _ _ _ ne)⟩
/-- What is written below a file system leaves it. -/
theorem FsAt.low {w w' : World} {B F M : Nat} {v : Value} {l : List Nd} (h : FsAt w B F M v l) (ht : Turn (fun k => k < B) w w') : FsAt w' B F M v l :=
  ⟨by rw [ht.block F (Array.getElem?_eq_some_iff.1 h.head).1 (fun e => by have := h.hF; omega)]; exact h.head, own_turn h.row ht (fun g hg e => by have := (World.ownsRow.lt h.row g hg).1; omega), h.map.turn ht (fun e => by have := h.hM; omega), h.hF, h.hM, h.ne, h.hv, h.pos, h.small, fun n hn => (h.dat n hn).turn (ht.mono (fun k _ e => .inl e)), h.knd⟩
/-- From Copy's contract. -/
theorem CopyAt.form {w : World} {B : Nat} {v : Value} {l : List Nd} (h : CopyAt w B v l) : (v = .slice none 0 0 ∧ l = []) ∨ ∃ g cap, v = .slice (some ⟨g, 0, none⟩) l.length cap ∧ cap ≤ maxLen ∧ l.length ≤ cap ∧ OwnN w B w.heap.size g l := by
  have hc := fun g hg => World.ownsRow.cells h.row (g := g) hg
  rcases h.row.2 with ⟨e, hn⟩ | ⟨g, cap, cur, e, hB, hg, h1, h2, h3, h4⟩
  · exact .inl ⟨e, List.eq_nil_of_length_eq_zero hn⟩
  · refine .inr ⟨g, cap, e, h2, h1, hB, (Array.getElem?_eq_some_iff.1 hg).1, ⟨cur, hg, fun j hj => ?_⟩, fun n hn => ?_⟩
    · obtain ⟨k0, k1, k2, k3⟩ := flatN_get l j hj
      have a0 := hc g (by rw [e]; rfl) _ _ k0
      have a2 := hc g (by rw [e]; rfl) _ _ k2
      rw [Addr.add_mid, Nat.zero_add] at a0 a2
      have q : ∀ i, w.cell? ⟨g, i, none⟩ = cur[i]? := fun i => by unfold World.cell?; rw [hg]; rfl
      rw [q] at a0 a2
      exact ⟨a2, _, a0⟩
    · obtain ⟨d1, d2⟩ := h.dat n hn
      rcases d1.bytes with e2 | ⟨gd, cap', e2, c1, c2, lo, b⟩
      · exact .inl e2
      · exact .inr ⟨gd, cap', e2, c1, c2, lo, b.lt, fun e3 => d2 gd (by rw [e2]; rfl) (by rw [e, e3]; rfl), b⟩
theorem CopyAt.nds {w : World} {B : Nat} {v : Value} {l L : List Nd} (h : CopyAt w B v l) (hs : l.map strip = L.map strip) (hk : ∀ n ∈ L, -9223372036854775808 ≤ n.kind ∧ n.kind ≤ 9223372036854775807) : ∃ a cap, v = .slice a l.length cap ∧ l.length ≤ cap ∧ cap ≤ maxLen ∧ NdsAt w a l := by
  have hc := fun g hg => World.ownsRow.cells h.row (g := g) hg
  rcases h.row.2 with ⟨e, hn⟩ | ⟨g, cap, cur, e, hB, hg, h1, h2, h3, h4⟩
  · have hl := List.eq_nil_of_length_eq_zero hn
    subst hl
    exact ⟨none, 0, e, by simp, by simp, ⟨.inl rfl⟩⟩
  · refine ⟨some ⟨g, 0, none⟩, cap, e, h1, h2, ⟨.inr ⟨g, 0, rfl, fun j hj => ?_⟩⟩⟩
    obtain ⟨k0, k1, k2, k3⟩ := flatN_get l j hj
    have a0 := hc g (by rw [e]; rfl) _ _ k0
    have a1 := hc g (by rw [e]; rfl) _ _ k1
    have a2 := hc g (by rw [e]; rfl) _ _ k2
    have a3 := hc g (by rw [e]; rfl) _ _ k3
    rw [Addr.add_mid, Nat.zero_add] at a0 a1 a2 a3
    have hm : l[j].kind ∈ L.map Nd.kind := by
      have e2 : l.map Nd.kind = L.map Nd.kind := by
        have := congrArg (List.map (fun x : ByteArray × Int × List UInt8 × ByteArray => x.2.1)) hs
        rw [List.map_map, List.map_map] at this
        exact this
      rw [← e2]
      exact List.mem_map_of_mem (List.getElem_mem hj)
    obtain ⟨m, hm1, hm2⟩ := List.mem_map.1 hm
    have hkm := hk m hm1
    rw [hm2] at hkm
    exact ⟨by rw [Nat.zero_add]; exact a0, by rw [Nat.zero_add]; exact a1, by rw [Nat.zero_add]; exact a2, by rw [Nat.zero_add]; exact a3, hkm.1, hkm.2, (h.dat _ (List.getElem_mem hj)).1.src (fun _ _ => id)⟩
end Go.Proofs.YthkpcafbfgfjpaaDoor
