
/-
  New of too many nodes; whether there is a file system doesn't hang on the order.
-/
import Derived.Test.YthkpcafbfgfjpaaDoorFsQc
set_option linter.unusedVariables false
namespace Go.Proofs.YthkpcafbfgfjpaaDoor
open Go.RowKit Go.PlainAid
theorem vfs_New_big (w : World) (a : Option Addr) (n cap : Nat) (h : 256 < n) :
    Calls Tryd.prog 5 #[.slice a n cap] w fun e w' => ∃ c : Int, (c != 0) = true ∧ e = .returned (.tuple #[.pointer none, .int .i64 c]) ∧ w = w' := by
  have hI : (256 : Int) < (n : Int) := by omega
  go_enter Tryd.func5, Tryd.ntmps5
  go_wp2
  go_ret2
  exact ⟨_, by decide, rfl, rfl⟩
theorem strip_chk {n m : Nd} (h : strip n = strip m) : chkN n = chkN m := by
  have p1 : n.path = m.path := congrArg Prod.fst h
  have p2 : n.kind = m.kind := congrArg (fun x => x.2.1) h
  have p3 : n.data = m.data := congrArg (fun x => x.2.2.1) h
  have p4 : n.to = m.to := congrArg (fun x => x.2.2.2) h
  unfold chkN
  rw [p1, p2, p3, p4]
theorem newErr_sperm {a b : List Nd} (hs : (a.map strip).Perm (b.map strip)) (ha : newErr a = 0) : newErr b = 0 := by
  obtain ⟨h1, h2, h3, h4⟩ := (newErr_zero a).1 ha
  have hn : (pathsOf (rootN :: b)).Nodup := (perm_paths hs).nodup_iff.1 h3
  have hl : a.length = b.length := by have := hs.length_eq; rwa [List.length_map, List.length_map] at this
  have back : ∀ n ∈ b, ∃ m ∈ a, strip m = strip n := fun n hm => List.mem_map.1 (hs.mem_iff.2 (List.mem_map_of_mem hm))
  refine (newErr_zero b).2 ⟨by omega, fun n hm => ?_, hn, fun n hm => ?_⟩
  · obtain ⟨m, k1, k2⟩ := back n hm
    rw [← strip_chk k2]; exact h2 m k1
  · obtain ⟨m, k1, k2⟩ := back n hm
    have p1 : m.path = n.path := congrArg Prod.fst k2
    rw [← perm_dir hs hn, ← p1]
    exact h4 m k1
theorem sound_zero {L l : List Nd} (h : Sound L l) (hl : L.length ≤ 256) : newErr L = 0 := by
  have e : l.length = L.length := by have := congrArg List.length h.grow.same; rwa [List.length_map, List.length_map] at this
  exact newErr_sperm (a := l) (by rw [h.grow.same]) ((newErr_zero l).2 ⟨by omega, fun n hn => h.grow.chk n hn, h.grow.nod, h.dirs⟩)
end Go.Proofs.YthkpcafbfgfjpaaDoor
