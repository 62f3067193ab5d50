
/-
  The chapter's examples of layer 6 (alive) come out.
-/
import Derived.Test.YthkpcafbfgfjpaaDoorFsO
import Derived.Lib.BufferRead
set_option linter.unusedVariables false
namespace Go.Proofs.YthkpcafbfgfjpaaDoor
open Go.RowKit Go.PlainAid
theorem Src.text {w : World} {F : Nat → Prop} {v : Value} {l : List UInt8} (h : Src w F v l) : (convert 35 9 v).run Tryd.prog w = .ok (.string (tx l)) w := by
  obtain ⟨a, cap, rfl, h1, h2, h4⟩ := h
  rcases h4 with ⟨rfl, rfl, rfl⟩ | ⟨x, rfl, _, hc⟩
  · exact Lib.run_convert_nil_bytes w 35 9 5 0 Tryd.underlying35 Tryd.underlying5 Tryd.underlying9
  · exact run_convert_bytes_back (P := Tryd.prog) w 35 9 5 x cap l Tryd.underlying35 Tryd.underlying5 Tryd.underlying9 hc
section
variable {l L : List Nd}
theorem strip_get {α : Type} (f : ByteArray × Int × List UInt8 × ByteArray → α) (h : l.map strip = L.map strip) (k : Nat) : ((rootN :: l)[k]?).map (f ∘ strip) = ((rootN :: L)[k]?).map (f ∘ strip) := by
  have e : (rootN :: l).map strip = (rootN :: L).map strip := by rw [List.map_cons, List.map_cons, h]
  have := congrArg (fun x => (x[k]?).map f) e
  simpa only [List.getElem?_map, Option.map_map] using this
theorem strip_path (h : l.map strip = L.map strip) (k : Nat) : pathAt (rootN :: l) k = pathAt (rootN :: L) k := by
  unfold pathAt
  have := strip_get (fun x => x.1.data.toList) h k
  exact congrArg (fun x => x.getD []) this
theorem strip_to (h : l.map strip = L.map strip) (k : Nat) : toAt (rootN :: l) k = toAt (rootN :: L) k := by
  unfold toAt
  have := strip_get (fun x => x.2.2.2.data.toList) h k
  exact congrArg (fun x => x.getD []) this
theorem strip_data (h : l.map strip = L.map strip) (k : Nat) : dataAt (rootN :: l) k = dataAt (rootN :: L) k := by
  unfold dataAt
  have := strip_get (fun x => x.2.2.1) h k
  exact congrArg (fun x => x.getD []) this
theorem strip_pathsR (h : l.map strip = L.map strip) : pathsOf (rootN :: l) = pathsOf (rootN :: L) := by
  show _ :: pathsOf l = _ :: pathsOf L
  rw [strip_paths h]
theorem strip_step (h : l.map strip = L.map strip) (n : List UInt8) (s : Way) : stepW (rootN :: l) n s = stepW (rootN :: L) n s := by
  unfold stepW
  simp only [strip_pathsR h, strip_kind h, strip_path h, strip_to h]
theorem strip_run (h : l.map strip = L.map strip) : ∀ (f : Nat) (s : Way), runW (rootN :: l) f s = runW (rootN :: L) f s
  | 0, _ => rfl
  | f + 1, ⟨p, [], k⟩ => rfl
  | f + 1, ⟨p, n :: r, k⟩ => by
    unfold runW
    rw [strip_step h, strip_run h f]
theorem strip_find (h : l.map strip = L.map strip) (p : List UInt8) : findN (rootN :: l) p = findN (rootN :: L) p := by
  unfold findN
  rw [strip_run h]
theorem strip_open (h : l.map strip = L.map strip) (p : List UInt8) : openN (rootN :: l) p = openN (rootN :: L) p := by
  unfold openN
  rw [strip_find h, strip_kind h]
end
/-- The chapter's nodes. -/
def L3 (b : Nat) : List Nd := [⟨⟨#[47, 108, 105, 98]⟩, 1, .slice none 0 0, [], ⟨#[]⟩⟩, ⟨⟨#[47, 108, 105, 98, 47, 97, 46, 115, 111]⟩, 2, .slice (some ⟨b, 0, none⟩) 1 1, [120], ⟨#[]⟩⟩, ⟨⟨#[47, 108]⟩, 3, .slice none 0 0, [], ⟨#[108, 105, 98]⟩⟩]
set_option maxRecDepth 100000 in
theorem l3_err (b : Nat) : newErr (L3 b) = 0 := by kernel_rfl
set_option maxRecDepth 100000 in
theorem l3_open (b : Nat) : openN (rootN :: L3 b) [47, 108, 47, 46, 46, 47, 108, 105, 98, 47, 47, 97, 46, 115, 111] = (0, 2) := by kernel_rfl
set_option maxRecDepth 100000 in
theorem l3_find (b : Nat) : findN (rootN :: L3 b) [47, 108, 105, 98, 47, 98] = (63, 0) := by kernel_rfl
theorem l3_path (b : Nat) : pathAt (rootN :: L3 b) 2 = [47, 108, 105, 98, 47, 97, 46, 115, 111] := rfl
theorem l3_data (b : Nat) : dataAt (rootN :: L3 b) 2 = [120] := rfl
end Go.Proofs.YthkpcafbfgfjpaaDoor
