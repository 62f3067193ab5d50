
/-
  Whether there is a file system of some nodes doesn't hang on their order.
-/
import Derived.Test.YthkpcafbfgfjpaaDoorFsN
set_option linter.unusedVariables false
namespace Go.Proofs.YthkpcafbfgfjpaaDoor
open Go.RowKit Go.PlainAid
def chkN (n : Nd) : Int := chkE n.path.data.toList n.kind n.data.length n.to
theorem addP_zero (ps : List (List UInt8)) (n : Nd) : addP ps n = 0 ↔ chkN n = 0 ∧ n.path.data.toList ∉ ps := by
  unfold addP
  by_cases c : chkN n = 0
  · have c' : chkE n.path.data.toList n.kind n.data.length n.to = 0 := c
    rw [if_neg (by simpa using c')]
    cases e : isIn ps n.path.data.toList with
    | true => rw [if_pos rfl]; exact Iff.intro (fun h => absurd h (by decide)) (fun h => absurd ((isIn_mem _ _).1 e) h.2)
    | false => rw [if_neg (by decide)]; exact Iff.intro (fun _ => ⟨c, isIn_false e⟩) (fun _ => rfl)
  · have c' : chkE n.path.data.toList n.kind n.data.length n.to ≠ 0 := c
    rw [if_pos c']
    exact ⟨fun h => absurd h c, fun h => absurd h.1 c⟩
theorem addAll_zero : ∀ (L : List Nd) (ps : List (List UInt8)), addAll ps L = 0 ↔ (∀ n ∈ L, chkN n = 0) ∧ (∀ n ∈ L, n.path.data.toList ∉ ps) ∧ (pathsOf L).Nodup
  | [], ps => by simp [addAll, pathsOf]
  | n :: r, ps => by
    have e : pathsOf (n :: r) = n.path.data.toList :: pathsOf r := rfl
    unfold addAll
    by_cases c : addP ps n = 0
    · rw [if_neg (by simpa using c), addAll_zero r, e, List.nodup_cons]
      rw [addP_zero] at c
      constructor
      · rintro ⟨h1, h2, h3⟩
        refine ⟨fun m hm => ?_, fun m hm => ?_, fun hm => ?_, h3⟩
        · rcases List.mem_cons.1 hm with e | e
          · rw [e]; exact c.1
          · exact h1 m e
        · rcases List.mem_cons.1 hm with e | e
          · rw [e]; exact c.2
          · exact fun hp => h2 m e (List.mem_append_left _ hp)
        · obtain ⟨m, h4, h5⟩ := List.mem_map.1 hm
          exact h2 m h4 (by rw [h5]; simp)
      · rintro ⟨h1, h2, h3, h4⟩
        refine ⟨fun m hm => h1 m (List.mem_cons_of_mem _ hm), fun m hm hp => ?_, h4⟩
        rcases List.mem_append.1 hp with hp | hp
        · exact h2 m (List.mem_cons_of_mem _ hm) hp
        · rw [List.mem_singleton] at hp
          exact h3 (by rw [← hp]; exact List.mem_map_of_mem (f := fun n : Nd => n.path.data.toList) hm)
    · rw [if_pos c]
      constructor
      · intro h; exact absurd h c
      · rintro ⟨h1, h2, h3⟩
        exact absurd ((addP_zero ps n).2 ⟨h1 n List.mem_cons_self, h2 n List.mem_cons_self⟩) c
theorem newErr_zero (L : List Nd) : newErr L = 0 ↔ L.length ≤ 256 ∧ (∀ n ∈ L, chkN n = 0) ∧ (pathsOf (rootN :: L)).Nodup ∧ ∀ n ∈ L, dirB (rootN :: L) (upOf n.path.data.toList) = true := by
  have e : pathsOf (rootN :: L) = [47] :: pathsOf L := rfl
  unfold newErr
  by_cases c : 256 < L.length
  · rw [if_pos c]
    exact Iff.intro (fun h => absurd h (by decide)) (fun h => absurd h.1 (by omega))
  · rw [if_neg c]
    by_cases d : addAll [[47]] L = 0
    · rw [if_neg (by simpa using d)]
      have d2 := (addAll_zero L [[47]]).1 d
      have hn : (pathsOf (rootN :: L)).Nodup := by
        rw [e, List.nodup_cons]
        refine ⟨fun hm => ?_, d2.2.2⟩
        obtain ⟨m, h4, h5⟩ := List.mem_map.1 hm
        exact d2.2.1 m h4 (by rw [h5]; simp)
      cases g : L.all (fun n => dirB (rootN :: L) (upOf n.path.data.toList)) with
      | true => rw [if_pos rfl]; exact Iff.intro (fun _ => ⟨by omega, d2.1, hn, List.all_eq_true.1 g⟩) (fun _ => rfl)
      | false =>
        rw [if_neg (by decide)]
        refine Iff.intro (fun h => absurd h (by decide)) (fun h => ?_)
        have := List.all_eq_true.2 h.2.2.2
        rw [this] at g
        cases g
    · rw [if_pos d]
      refine ⟨fun h => absurd h d, fun h => ?_⟩
      rw [e, List.nodup_cons] at h
      exact absurd ((addAll_zero L [[47]]).2 ⟨h.2.1, fun n hn hp => h.2.2.1.1 (by rw [List.mem_singleton] at hp; rw [← hp]; exact List.mem_map_of_mem (f := fun n : Nd => n.path.data.toList) hn), h.2.2.1.2⟩) d
theorem perm_dir {a b : List Nd} (h : (a.map strip).Perm (b.map strip)) (hb : (pathsOf (rootN :: b)).Nodup) (p : List UInt8) : dirB (rootN :: a) p = dirB (rootN :: b) p := by
  unfold dirB
  rw [perm_in h, kindAt_strip, kindAt_strip, perm_num h hb]
theorem newErr_perm {a b : List Nd} (h : a.Perm b) (ha : newErr a = 0) : newErr b = 0 := by
  have hs : (a.map strip).Perm (b.map strip) := h.map strip
  obtain ⟨h1, h2, h3, h4⟩ := (newErr_zero a).1 ha
  have hn : (pathsOf (rootN :: b)).Nodup := (perm_paths hs).nodup_iff.1 h3
  refine (newErr_zero b).2 ⟨by rw [← h.length_eq]; exact h1, fun n hm => h2 n (h.mem_iff.2 hm), hn, fun n hm => ?_⟩
  rw [← perm_dir hs hn]
  exact h4 n (h.mem_iff.2 hm)
end Go.Proofs.YthkpcafbfgfjpaaDoor
