
/-
  append of nodes that came in to a row that is owned; what the rows of two orders have in common.
-/
import Derived.Test.YthkpcafbfgfjpaaDoorFsQb
import Derived.Test.YthkpcafbfgfjpaaDoorFsNb
import Derived.Test.YthkpcafbfgfjpaaDoorFsW
set_option linter.unusedVariables false
namespace Go.Proofs.YthkpcafbfgfjpaaDoor
open Go.RowKit Go.PlainAid
theorem flatN_apps (l L : List Nd) : flatN (l ++ L) = flatN l ++ flatN L := by unfold flatN; rw [List.flatMap_append]
theorem nds_cells {w : World} {y : Nat} : ∀ {L : List Nd} {o : Nat}, (∀ i (h : i < L.length), IsNd w y (o + i * 4) L[i]) → ∀ j u, (flatN L)[j]? = some u → w.cell? ⟨y, o + j, none⟩ = some u
  | [], o, _, j, u, hj => by simp [flatN] at hj
  | n :: r, o, h, j, u, hj => by
    have e : flatN (n :: r) = [.string n.path, .int .i64 n.kind, n.vd, .string n.to] ++ flatN r := by unfold flatN; rw [List.flatMap_cons]; rfl
    rw [e] at hj
    have h0 := h 0 (by simp)
    rw [Nat.zero_mul, Nat.add_zero] at h0
    match j, hj with
    | 0, hj => simp at hj; subst hj; exact h0.c0
    | 1, hj => simp at hj; subst hj; exact h0.c1
    | 2, hj => simp at hj; subst hj; exact h0.c2
    | 3, hj => simp at hj; subst hj; exact h0.c3
    | j + 4, hj =>
      have hj2 : (flatN r)[j]? = some u := by simpa using hj
      have := nds_cells (L := r) (o := o + 4) (fun i hi => by
        have := h (i + 1) (by simpa using hi)
        rw [show o + 4 + i * 4 = o + (i + 1) * 4 by omega]
        simpa using this) j u hj2
      rw [show o + (j + 4) = o + 4 + j by omega]; exact this
theorem flat_one {L : List Nd} (h : ∀ n ∈ L, ∃ a k c, n.vd = .slice a k c) : ∀ u ∈ flatN L, u.oneCell' = true := fun u hu => by
  obtain ⟨n, hn, h2⟩ := List.mem_flatMap.1 hu
  exact n.one (h n hn) u h2
theorem append_nds {ops : Array Oper} {rest : List Oper} {o : Oper} {a : Act} {Q : Exit → Act → World → Prop} (hgd : o.guard = none) (s x : Operand)
    (ho : o.op = .call { callee := .builtin .append, args := #[s, x], argTypes := #[22, 22] })
    (B : Nat) (wr : World) (v : Value) (l : List Nd) (hown : wr.ownsRow B 40 4 v l.length (flatN l)) (L : List Nd) (y off c : Nat) (hL : ∀ i (h : i < L.length), IsNd wr y (off + i * 4) L[i]) (hs : a.eval s = v)
    (hx : a.eval x = .slice (some ⟨y, off, none⟩) L.length c) (hlen : l.length + L.length ≤ 100000) (hB : B ≤ wr.heap.size)
    (h : ∀ v' w', w'.ownsRow B 40 4 v' (l ++ L).length (flatN (l ++ L)) → wr.grownBy w' v.ownBlock → wpList Tryd.prog ops Q rest (a.put o.dst v') w') :
    wpList Tryd.prog ops Q (o :: rest) a wr := by
  obtain ⟨i, hi, hz0, hz1, hz2⟩ := info_parts Tryd.infoNd
  refine wpList_append_own (P := Tryd.prog) wr hgd s x 22 ho B 40 i _ 4 64 Tryd.underlying22 hi hz0 hz1 hz2 rfl (by decide) v l.length (flatN l) hs hown
    ⟨y, off, none⟩ L.length c (flatN L) hx (flatN_len L) (fun j u hj => by rw [Addr.add_mid]; exact nds_cells hL j u hj) (flat_one fun n hn => ?_) (by unfold maxLen; omega) (by omega) hB ?_
  · obtain ⟨k, hk, e⟩ := List.getElem_of_mem hn
    obtain ⟨a', c', e2, _⟩ := (hL k hk).src
    rw [e] at e2
    exact ⟨_, _, _, e2⟩
  · intro v' w' h1 h2 _
    exact h v' w' (by rw [List.length_append, flatN_apps]; exact h1) h2
/-- A row that is owned, of nodes whose bytes lie elsewhere, is a row of nodes. -/
theorem row_nds {w : World} {B : Nat} {v : Value} {l : List Nd} (h : w.ownsRow B 40 4 v l.length (flatN l)) (hk : ∀ n ∈ l, (-9223372036854775808 ≤ n.kind ∧ n.kind ≤ 9223372036854775807) ∧ Src w (fun _ => False) n.vd n.data) : ∃ a cap, v = .slice a l.length cap ∧ l.length ≤ cap ∧ cap ≤ maxLen ∧ NdsAt w a l := by
  have h0 := h
  rcases h.2 with ⟨rfl, hn⟩ | ⟨g, cap, cur, rfl, hb, hg, hn, hm, hc, ht⟩
  · have e : l = [] := List.length_eq_zero_iff.1 hn
    subst e
    exact ⟨none, 0, rfl, Nat.le_refl _, Nat.zero_le _, ⟨.inl rfl⟩⟩
  · refine ⟨_, cap, rfl, hn, hm, ⟨.inr ⟨g, 0, rfl, fun i hi => ?_⟩⟩⟩
    have hx := hk l[i] (List.getElem_mem hi)
    have hc : ∀ j u, (flatN l)[j]? = some u → w.cell? ⟨g, j, none⟩ = some u := fun j u hj => by
      have := World.ownsRow.cells h0 (g := g) rfl j u hj
      rwa [Addr.add_mid, Nat.zero_add] at this
    obtain ⟨q0, q1, q2, q3⟩ := flatN_get l i hi
    rw [Nat.zero_add]
    exact ⟨hc _ _ q0, hc _ _ q1, hc _ _ q2, hc _ _ q3, hx.1.1, hx.1.2, hx.2⟩
theorem rot_perm (L : List Nd) (k : Nat) : (L.drop k ++ L.take k).Perm L := by
  have := List.perm_append_comm (l₁ := L.drop k) (l₂ := L.take k)
  rwa [List.take_append_drop] at this
/-- What a folder has is the same, whatever the order. -/
theorem kids_perm {a b : List Nd} (h : (a.map strip).Perm (b.map strip)) (d : List UInt8) : (kidsOf (rootN :: a) d).Perm (kidsOf (rootN :: b) d) := by
  have e : ∀ l : List Nd, kidsOf l d = ((l.map strip).filter fun x => childOf x.1.data.toList d).map fun x => baseOf x.1.data.toList := fun l => by
    unfold kidsOf
    rw [List.filter_map, List.map_map]; rfl
  rw [e, e]
  have hP : ((rootN :: a).map strip).Perm ((rootN :: b).map strip) := by rw [List.map_cons, List.map_cons]; exact h.cons _
  exact (hP.filter _).map _
theorem sorted_perm {a b : List (List UInt8)} (h : a.Perm b) : sorted a = sorted b := by
  unfold sorted
  have hp : (a.mergeSort fun x y => decide (x ≤ y)).Perm (b.mergeSort fun x y => decide (x ≤ y)) := (List.mergeSort_perm _ _).trans (h.trans (List.mergeSort_perm _ _).symm)
  have tr : ∀ x y z : List UInt8, decide (x ≤ y) = true → decide (y ≤ z) = true → decide (x ≤ z) = true := fun x y z h1 h2 => decide_eq_true (List.le_trans (of_decide_eq_true h1) (of_decide_eq_true h2))
  have tt : ∀ x y : List UInt8, (decide (x ≤ y) || decide (y ≤ x)) = true := fun x y => by
    rcases List.le_total x y with h | h
    · simp [h]
    · simp [h]
  refine hp.eq_of_pairwise (le := fun x y => decide (x ≤ y) = true) ?_ (List.pairwise_mergeSort tr tt a) (List.pairwise_mergeSort tr tt b)
  intro x y _ _ h1 h2
  exact List.le_antisymm (of_decide_eq_true h1) (of_decide_eq_true h2)
theorem names_perm {a b : List Nd} (h : (a.map strip).Perm (b.map strip)) (hb : (pathsOf (rootN :: b)).Nodup) (p : List UInt8) : namesE (rootN :: a) p = namesE (rootN :: b) p ∧ (namesE (rootN :: a) p = 0 → sorted (kidsOf (rootN :: a) (pathAt (rootN :: a) (findN (rootN :: a) p).2)) = sorted (kidsOf (rootN :: b) (pathAt (rootN :: b) (findN (rootN :: b) p).2))) := by
  obtain ⟨h1, h2⟩ := perm_find h hb p
  unfold namesE
  rw [← h1]
  by_cases e : (findN (rootN :: a) p).1 = 0
  · have h3 := h2 e
    have ne : ¬ (findN (rootN :: a) p).1 ≠ 0 := fun x => x e
    have hk : kindAt (rootN :: a) (findN (rootN :: a) p).2 = kindAt (rootN :: b) (findN (rootN :: b) p).2 := by rw [kindAt_strip, kindAt_strip, h3]
    simp only [if_neg ne, hk]
    refine ⟨trivial, fun _ => ?_⟩
    rw [pathAt_strip (rootN :: a), pathAt_strip (rootN :: b), h3]
    exact sorted_perm (kids_perm h _)
  · have ne : (findN (rootN :: a) p).1 ≠ 0 := e
    simp only [if_pos ne]
    exact ⟨trivial, fun h => absurd h e⟩
theorem open_perm {a b : List Nd} (h : (a.map strip).Perm (b.map strip)) (hb : (pathsOf (rootN :: b)).Nodup) (p : List UInt8) : (openN (rootN :: a) p).1 = (openN (rootN :: b) p).1 ∧ ((openN (rootN :: a) p).1 = 0 → pathAt (rootN :: a) (openN (rootN :: a) p).2 = pathAt (rootN :: b) (openN (rootN :: b) p).2 ∧ dataAt (rootN :: a) (openN (rootN :: a) p).2 = dataAt (rootN :: b) (openN (rootN :: b) p).2) := by
  obtain ⟨h1, h2⟩ := perm_find h hb p
  unfold openN
  rw [← h1]
  by_cases e : (findN (rootN :: a) p).1 = 0
  · have h3 := h2 e
    have ne : ¬ (findN (rootN :: a) p).1 ≠ 0 := fun x => x e
    have hk : kindAt (rootN :: a) (findN (rootN :: a) p).2 = kindAt (rootN :: b) (findN (rootN :: b) p).2 := by rw [kindAt_strip, kindAt_strip, h3]
    simp only [if_neg ne, hk]
    split
    · refine ⟨rfl, fun _ => ?_⟩
      rw [pathAt_strip, pathAt_strip, dataAt_strip, dataAt_strip, h3]
      exact ⟨rfl, rfl⟩
    · exact ⟨rfl, fun h => by cases h⟩
  · have ne : (findN (rootN :: a) p).1 ≠ 0 := e
    simp only [if_pos ne]
    exact ⟨trivial, fun h => absurd h e⟩
end Go.Proofs.YthkpcafbfgfjpaaDoor
