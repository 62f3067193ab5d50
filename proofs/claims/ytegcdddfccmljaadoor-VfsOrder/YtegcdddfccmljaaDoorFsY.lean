
/-
  How many bytes a node that came in may have: within the form's own reach.
-/
import Derived.Test.YtegcdddfccmljaaDoorFsW
import Derived.SizedLaws
set_option linter.unusedVariables false
namespace Go.Proofs.YtegcdddfccmljaaDoor
open Go.RowKit Go.PlainAid Go.ChangeShapes Go.WideShapes
section
variable {H : Type} {enc : TypeId × Value → H}
theorem weightsAll_mem {P : Program} {e : TypeId} {d : DataW H} {k : Nat} (hk : k ∈ d.weights P e) : ∀ l : List (DataW H), d ∈ l → k ∈ DataW.weightsAll P e l
  | [], h => by simp at h
  | x :: l, h => by
    unfold DataW.weightsAll
    rcases List.mem_cons.1 h with e | e
    · subst e; exact List.mem_append_left _ hk
    · exact List.mem_append_right _ (weightsAll_mem hk l e)
theorem lits_len (k : IntKind) (zs : List Int) : (lits (H := H) k zs).length = zs.length := by simp [lits]
theorem four' {α : Type} {l : List α} (h : l.length = 4) : ∃ a b c d, l = [a, b, c, d] := by
  match l, h with
  | [a, b, c, d], _ => exact ⟨a, b, c, d, rfl⟩
theorem bytesU8 : Tryd.prog.bytesOf 5 = 1 := by kernel_rfl
theorem nd_len {W : World} {cs : List Value} {x : DataW H × List MemPlace} {fuel : Nat} (h2 : DataW.trod enc Tryd.prog W 0 (fun _ => true) true fuel 40 cs = some x) (hw : ∀ k ∈ x.1.weights Tryd.prog 40, k ≤ reachBytes) (a : Option Addr) (n c : Nat) (hc : cs[2]? = some (.slice a n c)) : n ≤ reachBytes := by
  obtain ⟨xs, f, _, rfl, hlen, hl4, hf⟩ := DataW.trod_struct Tryd.underlying40 h2
  rw [cells4] at hlen
  obtain ⟨v0, v1, v2, v3, rfl⟩ := four hlen
  obtain ⟨y0, y1, y2, y3, rfl⟩ := four' (l := xs) (hl4.trans (by kernel_rfl))
  have g2 : DataW.trod enc Tryd.prog W 0 (fun _ => true) true f 35 [v2] = some y2 := by have := hf 2 _ rfl; simpa [cellsB] using this
  have e2 : v2 = .slice a n c := by simpa using hc
  rcases Go.ChangeShapes.open_ints Tryd.underlying35 Tryd.underlying5 (by kernel_rfl) g2 with ⟨q6, _⟩ | ⟨x6, l6, c6, zs, q6, _, hl6, hm6, hz6, hy, _, _⟩
  · simp only [List.cons.injEq, and_true] at q6
    rw [e2] at q6
    injection q6 with _ q _
    omega
  · simp only [List.cons.injEq, and_true] at q6
    rw [e2] at q6
    injection q6 with _ q _
    subst q
    have hz7 : zs.length = c6 := by simpa using hz6
    have hm : (zs.length) * 1 ∈ y2.1.weights Tryd.prog 35 := by
      rw [hy]
      simp only [DataW.weights, Tryd.underlying35, lits_len, bytesU8, List.mem_cons]
      left
      rw [← List.length_append, List.take_append_drop]
    have := hw _ (by
      simp only [DataW.weights, Tryd.underlying40]
      exact DataW.weights_mem_each (j := 2) (t := 35) (d := y2.1) rfl rfl _ hm)
    omega
theorem isOpsz_of {W : World} {s : Option Addr} {len cap : Nat} {d : DataW H} {p : List MemPlace}
    (h : DataW.Trod enc Tryd.prog W 0 (fun _ => true) true 22 (.slice s len cap) d p) (hz : ∀ k ∈ d.weights Tryd.prog 22, k ≤ reachBytes) :
    IsNds W s len cap ∧ ∀ L, L.length = len → NdsAt W s L → ∀ n ∈ L, n.data.length ≤ 140737488355328 := by
  refine ⟨isOps_of h, fun L hL hN n hn => ?_⟩
  obtain ⟨j, hj, e⟩ := List.getElem_of_mem hn
  obtain ⟨fuel, hf⟩ := h
  rcases hN.at_ with e0 | ⟨y, o, rfl, hI⟩
  · rw [e0] at hj; simp at hj
  have I := hI j hj
  rw [e] at I
  rcases Go.Deep.open_slice Tryd.underlying22 hf with ⟨hcs, _⟩ | ⟨a, l, c, m, f, D, Pl, hcs, _, hl, hm, hmm, hx0, hx⟩
  · simp [Value.cells] at hcs
  · simp [Value.cells] at hcs
    obtain ⟨rfl, rfl, rfl⟩ := hcs
    have hjm : j < m := by rw [hmm]; simp; omega
    obtain ⟨cs', h1, h2⟩ := hx j hjm
    rw [cells4] at h1
    obtain ⟨_, hlen, hcell⟩ := World.cells?_some h1
    have hc2 := hcell 2 (by omega)
    rw [Addr.add_mid, Addr.add_mid, I.c2] at hc2
    obtain ⟨sa, sc, hv, _, _, _⟩ := I.src
    rw [hv] at hc2
    have hwj : ∀ k ∈ (D j).weights Tryd.prog 40, k ≤ reachBytes := fun k hk => hz k (by
      have hd : d = .slice ((List.range len).map D) ((List.range (m - len)).map fun j => D (len + j)) := by injection hx0
      rw [hd]
      simp only [DataW.weights, Tryd.underlying22]
      refine List.mem_cons_of_mem _ (List.mem_append_left _ (weightsAll_mem hk _ ?_))
      exact List.mem_map.2 ⟨j, List.mem_range.2 (by omega), rfl⟩)
    have := nd_len h2 hwj sa n.data.length sc hc2.symm
    unfold reachBytes at this
    omega
end
end Go.Proofs.YtegcdddfccmljaaDoor
