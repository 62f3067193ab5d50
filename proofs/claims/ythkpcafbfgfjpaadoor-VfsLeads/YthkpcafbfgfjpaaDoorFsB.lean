
/-
  A file system in memory; bytes.Clone, fits, check, isDir, below keep their contracts.
-/
import Derived.Test.YthkpcafbfgfjpaaDoorFsA
import Derived.WalkKit
import Derived.WalkLawsBesides
import Derived.BigQuiet
set_option linter.unusedVariables false
namespace Go.Proofs.YthkpcafbfgfjpaaDoor
open Go.RowKit Go.PlainAid
def flatN (l : List Nd) : List Value := l.flatMap Nd.cells
theorem flatN_len (l : List Nd) : (flatN l).length = l.length * 4 := by
  induction l with
  | nil => rfl
  | cons n l ih => show (n.cells ++ flatN l).length = _; rw [List.length_append, ih]; simp [Nd.cells]; omega
theorem flatN_get (l : List Nd) : ∀ (j : Nat) (hj : j < l.length), (flatN l)[j * 4]? = some (.string l[j].path) ∧ (flatN l)[j * 4 + 1]? = some (.int .i64 l[j].kind) ∧ (flatN l)[j * 4 + 2]? = some l[j].vd ∧ (flatN l)[j * 4 + 3]? = some (.string l[j].to) := by
  induction l with
  | nil => intro j hj; simp at hj
  | cons n l ih =>
    intro j hj
    have e : flatN (n :: l) = .string n.path :: .int .i64 n.kind :: n.vd :: .string n.to :: flatN l := rfl
    cases j with
    | zero => rw [e]; exact ⟨rfl, rfl, rfl, rfl⟩
    | succ j =>
      have := ih j (by simpa using hj)
      rw [e, show (j + 1) * 4 = j * 4 + 1 + 1 + 1 + 1 by omega]
      simpa using this
def pathsOf (l : List Nd) : List (List UInt8) := l.map fun n => n.path.data.toList
/-- A file system: its head in F, its nodes in v, its numbers in M; all of it made behind B. -/
structure FsAt (W : World) (B F M : Nat) (v : Value) (l : List Nd) : Prop where
  head : W.heap[F]? = some (.cells #[v, .map (some M)] 51 (0, 0))
  row : W.ownsRow B 40 4 v l.length (flatN l)
  map : MapAt W M (pathsOf l)
  hF : B ≤ F
  hM : B ≤ M
  ne : F ≠ M
  hv : ∀ g, v.ownBlock = some g → g ≠ F ∧ g ≠ M
  pos : 0 < l.length
  small : l.length ≤ 1000
  dat : ∀ n ∈ l, Src W (fun k => k < B ∨ k = F ∨ k = M ∨ v.ownBlock = some k) n.vd n.data
  knd : ∀ n ∈ l, (n.kind = 1 ∨ n.kind = 2 ∨ n.kind = 3) ∧ n.path.size ≤ 4096 ∧ n.to.size ≤ 4096
theorem FsAt.stay {W W' : World} {B F M : Nat} {v : Value} {l : List Nd} (h : FsAt W B F M v l) (hb : Below W.heap.size W W') : FsAt W' B F M v l := by
  have ht : Turn (fun _ => False) W W' := Turn.of_below hb
  refine ⟨by rw [hb.block F (Array.getElem?_eq_some_iff.1 h.head).1]; exact h.head, ?_, h.map.turn ht id, h.hF, h.hM, h.ne, h.hv, h.pos, h.small, fun n hn => (h.dat n hn).turn (Turn.of_below hb), h.knd⟩
  refine ⟨h.row.1, ?_⟩
  rcases h.row.2 with hn | ⟨g, cap, cur, rfl, hB, hg, rest⟩
  · exact .inl hn
  · exact .inr ⟨g, cap, cur, rfl, hB, by rw [hb.block g (Array.getElem?_eq_some_iff.1 hg).1]; exact hg, rest⟩
/-- The cells that are read. -/
structure FsC (W : World) (F M : Nat) (g cap : Nat) (l : List Nd) : Prop where
  a0 : W.cell? ⟨F, 0, none⟩ = some (.slice (some ⟨g, 0, none⟩) l.length cap)
  a1 : W.cell? ⟨F, 1, none⟩ = some (.map (some M))
  cap1 : l.length ≤ cap
  cap2 : cap ≤ maxLen
  gl : g < W.heap.size
  gFM : g ≠ F ∧ g ≠ M
  c0 : ∀ j (hj : j < l.length), W.cell? ⟨g, j * 4, none⟩ = some (.string l[j].path)
  c1 : ∀ j (hj : j < l.length), W.cell? ⟨g, j * 4 + 1, none⟩ = some (.int .i64 l[j].kind)
  c2 : ∀ j (hj : j < l.length), W.cell? ⟨g, j * 4 + 2, none⟩ = some l[j].vd
  c3 : ∀ j (hj : j < l.length), W.cell? ⟨g, j * 4 + 3, none⟩ = some (.string l[j].to)
theorem FsAt.cells {W : World} {B F M : Nat} {v : Value} {l : List Nd} (h : FsAt W B F M v l) : ∃ g cap, v = .slice (some ⟨g, 0, none⟩) l.length cap ∧ FsC W F M g cap l := by
  have hc := fun g hg => World.ownsRow.cells h.row (g := g) hg
  have hp := h.pos
  have hv := h.hv
  rcases h.row.2 with ⟨_, hn⟩ | ⟨g, cap, cur, e, hB, hg, h1, h2, h3, h4⟩
  · omega
  · refine ⟨g, cap, e, ?_, ?_, h1, h2, (Array.getElem?_eq_some_iff.1 hg).1, hv g (by rw [e]; rfl), ?_, ?_, ?_, ?_⟩
    · simp [World.cell?, h.head, e]
    · simp [World.cell?, h.head]
    all_goals
      intro j hj
      obtain ⟨k0, k1, k2, k3⟩ := flatN_get l j hj
    · have := hc g (by rw [e]; rfl) _ _ k0; rwa [Addr.add_mid, Nat.zero_add] at this
    · have := hc g (by rw [e]; rfl) _ _ k1; rwa [Addr.add_mid, Nat.zero_add] at this
    · have := hc g (by rw [e]; rfl) _ _ k2; rwa [Addr.add_mid, Nat.zero_add] at this
    · have := hc g (by rw [e]; rfl) _ _ k3; rwa [Addr.add_mid, Nat.zero_add] at this
/-- bytes.Clone. -/
theorem lib_Clone (w : World) (v : Value) (l : List UInt8) (h : Src w (fun _ => False) v l) (hl : l.length ≤ 140737488355328) :
    Calls Tryd.prog 26 #[v] w fun e w' => (∃ v', e = .returned v' ∧ Src w' (fun k => k < w.heap.size) v' l) ∧ Below w.heap.size w w' := by
  obtain ⟨a, cap, rfl, h1, h2, h3⟩ := h
  rcases h3 with ⟨rfl, rfl, rfl⟩ | ⟨x, rfl, _, hc⟩
  · refine (Tryd.bytes_Clone_nil _ _ w).mono ?_
    rintro e w' ⟨rfl, rfl⟩
    exact ⟨⟨_, rfl, none, 0, rfl, by simp, by simp, .inl ⟨rfl, rfl, rfl⟩⟩, Below.refl _ _⟩
  · refine (Tryd.bytes_Clone_at x l.length cap (l.map fun b => (b.toNat : Int)) w (by simp) hl (fun i hi => ?_)).mono ?_
    · rw [hc i hi]; simp [List.getD, List.getElem?_eq_getElem hi]
    · rintro e w' ⟨v', rfl, hr, _, hb⟩
      refine ⟨⟨v', rfl, ?_⟩, hb⟩
      have hcs := fun g hg => World.ownsRow.cells hr (g := g) hg
      rcases hr.2 with ⟨rfl, hn⟩ | ⟨g, cap', cur, rfl, hB, hg, k1, k2, k3, k4⟩
      · have hl0 : l = [] := List.eq_nil_of_length_eq_zero hn
        subst hl0
        exact ⟨none, 0, rfl, by simp, by simp, .inl ⟨rfl, rfl, rfl⟩⟩
      · refine ⟨some ⟨g, 0, none⟩, cap', rfl, k1, k2, .inr ⟨_, rfl, .inr (by show ¬ g < _; omega), fun j hj => ?_⟩⟩
        exact hcs g rfl j _ (by rw [List.map_map, List.getElem?_map, List.getElem?_eq_getElem hj]; rfl)
/-- Has a node just what its kind names? -/
def fitsB (k : Int) (dn : Nat) (to : ByteArray) : Bool := if k = 1 then dn == 0 && to.toList.isEmpty else if k = 2 then to.toList.isEmpty else if k = 3 then dn == 0 && !to.toList.isEmpty else false
theorem below_box (w : World) (o : Obj) : Below w.heap.size w (w.alloc o) := (Below.refl _ w).alloc (Nat.le_refl _) o
set_option maxHeartbeats 1000000 in
theorem vfs_fits (w : World) (p to : ByteArray) (k : Int) (da : Option Addr) (dn dc : Nat) (hd : dn ≤ 9223372036854775807) :
    Calls Tryd.prog 44 #[.agg #[.string p, .int .i64 k, .slice da dn dc, .string to]] w fun e w' => e = .returned (.bool (fitsB k dn to)) ∧ Below w.heap.size w w' := by
  have HB : Hid (Below w.heap.size w (w.alloc (.cells #[.string p, .int .i64 k, .slice da dn dc, .string to] 40))) := below_box _ _
  have HF : Hid (fitsB k dn to = if k = 1 then dn == 0 && to.toList.isEmpty else if k = 2 then to.toList.isEmpty else if k = 3 then dn == 0 && !to.toList.isEmpty else false) := rfl
  generalize fitsB k dn to = R at *
  have he : ((dn : Int) == 0) = (dn == 0) := by
    by_cases h : dn = 0
    · subst h; rfl
    · rw [beq_eq_false_iff_ne.2 h, beq_eq_false_iff_ne]; omega
  by_cases k1 : k = 1
  · subst k1
    rw [if_pos rfl] at HF
    cases hz : (dn == 0) <;> cases ht : to.toList.isEmpty <;> rw [hz] at he <;> rw [hz, ht] at HF
    all_goals
      go_enter Tryd.func44, Tryd.ntmps44
      go_wp2
      go_ret
      exact ⟨by rw [HF.out]; rfl, HB.out⟩
  · rw [if_neg k1] at HF
    by_cases k2 : k = 2
    · subst k2
      rw [if_pos rfl] at HF
      cases ht : to.toList.isEmpty <;> rw [ht] at HF
      all_goals
        go_enter Tryd.func44, Tryd.ntmps44
        go_wp2
        go_ret
        exact ⟨by rw [HF.out]; rfl, HB.out⟩
    · rw [if_neg k2] at HF
      by_cases k3 : k = 3
      · subst k3
        rw [if_pos rfl] at HF
        cases hz : (dn == 0) <;> cases ht : to.toList.isEmpty <;> rw [hz] at he <;> rw [hz, ht] at HF
        all_goals
          go_enter Tryd.func44, Tryd.ntmps44
          go_wp2
          go_ret
          exact ⟨by rw [HF.out]; rfl, HB.out⟩
      · rw [if_neg k3] at HF
        have b1 : (k == 1) = false := beq_eq_false_iff_ne.2 k1
        have b2 : (k == 2) = false := beq_eq_false_iff_ne.2 k2
        have b3 : (k == 3) = false := beq_eq_false_iff_ne.2 k3
        go_enter Tryd.func44, Tryd.ntmps44
        go_wp2
        go_ret
        exact ⟨by rw [HF.out]; rfl, HB.out⟩
end Go.Proofs.YthkpcafbfgfjpaaDoor
