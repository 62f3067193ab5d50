
/-
  New keeps its contract.
-/
import Derived.Test.YthkpcafbfgfjpaaDoorFsE
set_option linter.unusedVariables false
namespace Go.Proofs.YthkpcafbfgfjpaaDoor
open Go.RowKit Go.PlainAid
def rootN : Nd := ⟨⟨#[47]⟩, 1, .slice none 0 0, [], ⟨#[]⟩⟩
def strip (n : Nd) : ByteArray × Int × List UInt8 × ByteArray := (n.path, n.kind, n.data, n.to)
/-- The nodes so far. -/
structure Grow (L l : List Nd) : Prop where
  same : l.map strip = L.map strip
  chk : ∀ n ∈ l, chkE n.path.data.toList n.kind n.data.length n.to = 0
  nod : (pathsOf (rootN :: l)).Nodup
theorem Grow.nil : Grow [] [] := ⟨rfl, fun n hn => absurd hn (by simp), by simp [pathsOf]⟩
theorem isIn_false {ps : List (List UInt8)} {s : List UInt8} (h : isIn ps s = false) : s ∉ ps := by
  unfold isIn at h
  rw [Option.isSome_eq_false_iff, Option.isNone_iff_eq_none] at h
  exact List.idxOf?_eq_none_iff.1 h
theorem Grow.snoc {L l : List Nd} (h : Grow L l) (n : Nd) (vd : Value) (ha : addE (rootN :: l) n = 0) : Grow (L ++ [n]) (l ++ [{ n with vd := vd }]) := by
  have hc : chkE n.path.data.toList n.kind n.data.length n.to = 0 := by
    unfold addE at ha
    by_cases e : chkE n.path.data.toList n.kind n.data.length n.to = 0
    · exact e
    · rw [if_pos e] at ha; exact ha
  have hi : isIn (pathsOf (rootN :: l)) n.path.data.toList = false := by
    unfold addE at ha
    rw [if_neg (by simpa using hc)] at ha
    cases e : isIn (pathsOf (rootN :: l)) n.path.data.toList with
    | false => rfl
    | true => rw [if_pos e] at ha; cases ha
  refine ⟨?_, fun m hm => ?_, ?_⟩
  · rw [List.map_append, List.map_append, h.same]; rfl
  · rcases List.mem_append.1 hm with hm | hm
    · exact h.chk m hm
    · rw [List.mem_singleton] at hm; subst hm; exact hc
  · have e : pathsOf (rootN :: (l ++ [{ n with vd := vd }])) = pathsOf (rootN :: l) ++ [n.path.data.toList] := by unfold pathsOf; simp
    rw [e]
    refine List.nodup_append.2 ⟨h.nod, by simp, fun a ha b hb => ?_⟩
    rw [List.mem_singleton] at hb
    subst hb
    intro e2
    exact isIn_false hi (by rw [← e2]; exact ha)
/-- What comes of adding all, behind these paths. -/
def addP (ps : List (List UInt8)) (n : Nd) : Int := if chkE n.path.data.toList n.kind n.data.length n.to ≠ 0 then chkE n.path.data.toList n.kind n.data.length n.to else if isIn ps n.path.data.toList then 61 else 0
theorem addE_eq (l : List Nd) (n : Nd) : addE l n = addP (pathsOf l) n := rfl
def addAll : List (List UInt8) → List Nd → Int
  | _, [] => 0
  | ps, n :: r => if addP ps n ≠ 0 then addP ps n else addAll (ps ++ [n.path.data.toList]) r
/-- The error of a row of nodes. -/
def newErr (L : List Nd) : Int := if 256 < L.length then 68 else if addAll [[47]] L ≠ 0 then addAll [[47]] L else if L.all (fun n => dirB (rootN :: L) (upOf n.path.data.toList)) then 0 else 62
theorem strip_paths {l L : List Nd} (h : l.map strip = L.map strip) : pathsOf l = pathsOf L := by
  have := congrArg (List.map (fun x : ByteArray × Int × List UInt8 × ByteArray => x.1.data.toList)) h
  rw [List.map_map, List.map_map] at this
  exact this
theorem strip_kind {l L : List Nd} (h : l.map strip = L.map strip) (k : Nat) : kindAt (rootN :: l) k = kindAt (rootN :: L) k := by
  cases k with
  | zero => rfl
  | succ k =>
    unfold kindAt
    rw [List.getElem?_cons_succ, List.getElem?_cons_succ]
    have := congrArg (fun x => (x[k]?).map (fun y : ByteArray × Int × List UInt8 × ByteArray => y.2.1)) h
    simp only [List.getElem?_map, Option.map_map] at this
    have e : ((fun y : ByteArray × Int × List UInt8 × ByteArray => y.2.1) ∘ strip) = Nd.kind := rfl
    rw [e] at this
    rw [this]
theorem strip_dir {l L : List Nd} (h : l.map strip = L.map strip) (p : List UInt8) : dirB (rootN :: l) p = dirB (rootN :: L) p := by
  unfold dirB
  have e : pathsOf (rootN :: l) = pathsOf (rootN :: L) := by
    show _ :: pathsOf l = _ :: pathsOf L
    rw [strip_paths h]
  rw [e, strip_kind h]
/-- In the first loop. -/
structure J1 (w wr : World) (F M i : Nat) (L : List Nd) (v : Value) (l : List Nd) : Prop where
  below : Below w.heap.size w wr
  mx : Mx wr
  fs : FsAt wr w.heap.size F M v (rootN :: l)
  grow : Grow (L.take i) l
  err : addAll [[47]] L = addAll (pathsOf (rootN :: l)) (L.drop i)
theorem J1.len {w wr : World} {F M i : Nat} {L : List Nd} {v : Value} {l : List Nd} (h : J1 w wr F M i L v l) : l.length = min i L.length := by
  have := congrArg List.length h.grow.same
  rwa [List.length_map, List.length_map, List.length_take] at this
def K1 (w wr : World) (F M i : Nat) (L : List Nd) : Prop := ∃ v l, J1 w wr F M i L v l
/-- In the second loop. -/
structure J2 (w wr : World) (F M i : Nat) (L : List Nd) (v : Value) (l : List Nd) : Prop where
  j1 : J1 w wr F M L.length L v l
  dirs : ∀ j (h : j < L.length), j < i → dirB (rootN :: l) (upOf L[j].path.data.toList) = true
structure Sound (L l : List Nd) : Prop where
  grow : Grow L l
  dirs : ∀ n ∈ l, dirB (rootN :: l) (upOf n.path.data.toList) = true
theorem J2.sound {w wr : World} {F M : Nat} {L : List Nd} {v : Value} {l : List Nd} (h : J2 w wr F M L.length L v l) : Sound L l := by
  have hg := h.j1.grow
  rw [List.take_length] at hg
  refine ⟨hg, fun n hn => ?_⟩
  obtain ⟨j, hj, e⟩ := List.getElem_of_mem hn
  have hl : l.length = L.length := by have := h.j1.len; omega
  have hs : strip l[j] = strip (L[j]'(by omega)) := by
    have := congrArg (fun x => x[j]?) hg.same
    simp only [List.getElem?_map, List.getElem?_eq_getElem hj, List.getElem?_eq_getElem (show j < L.length by omega), Option.map_some] at this
    exact Option.some.inj this
  have hp : l[j].path = (L[j]'(by omega)).path := congrArg Prod.fst hs
  rw [← e, hp]
  exact h.dirs j (by omega) (by omega)
def NewOk (w w' : World) (L : List Nd) (F : Nat) : Prop := ∃ M v l, FsAt w' w.heap.size F M v (rootN :: l) ∧ Sound L l
def NewE (w w' : World) (L : List Nd) (e : Ending) : Prop :=
  (∃ c : Int, (c != 0) = true ∧ newErr L = c ∧ e = .returned (.tuple #[.pointer none, .int .i64 c])) ∨ ∃ F, e = .returned (.tuple #[.pointer (some ⟨F, 0, none⟩), .int .i64 0]) ∧ NewOk w w' L F
theorem start_fs {w w3 : World} (h3 : MapAt w3 (w.heap.size + 1) ([] ++ [[47]])) (g3 : ((w.alloc (.cells rootN.cells.toArray 40)).alloc (.map #[] 0)).grownBy w3 (some (w.heap.size + 1))) (hm : Mx w) :
    J1 w (w3.alloc (.cells #[.slice (some ⟨w.heap.size, 0, none⟩) 1 1, .map (some (w.heap.size + 1))] 51)) w3.heap.size (w.heap.size + 1) 0 [] (.slice (some ⟨w.heap.size, 0, none⟩) 1 1) [] := by
  have hs : ((w.alloc (.cells rootN.cells.toArray 40)).alloc (.map #[] 0)).heap.size = w.heap.size + 2 := by simp
  have hs3 := g3.size
  have b1 : Below w.heap.size w ((w.alloc (.cells rootN.cells.toArray 40)).alloc (.map #[] 0)) := (below_box w _).alloc (by simp) _
  have b3 : Below w.heap.size w w3 := b1.trans ((Turn.of_grown1 g3).below (by omega) (fun k e => by rw [e]; omega))
  have b4 : Below w.heap.size w (w3.alloc (.cells #[.slice (some ⟨w.heap.size, 0, none⟩) 1 1, .map (some (w.heap.size + 1))] 51)) := b3.trans ((below_box w3 _).mono b3.size)
  have hN : ((w.alloc (.cells rootN.cells.toArray 40)).alloc (.map #[] 0)).heap[w.heap.size]? = some (.cells rootN.cells.toArray 40 (0, 0)) := by
    rw [Below.heap_alloc _ _ _ (by simp)]
    exact heap_alloc_new w _
  have hN3 : w3.heap[w.heap.size]? = some (.cells rootN.cells.toArray 40 (0, 0)) := by
    rw [g3.block w.heap.size (by omega) (fun e => by have := Option.some.inj e; omega)]; exact hN
  refine ⟨b4, hm.below b4, ⟨heap_alloc_new w3 _, ?_, ?_, by omega, by omega, by omega, ?_, by simp, by simp, ?_, ?_⟩, Grow.nil, rfl⟩
  · refine ⟨rfl, .inr ⟨w.heap.size, 1, rootN.cells.toArray, rfl, Nat.le_refl _, ?_, by simp, by unfold maxLen; omega, rfl, rfl⟩⟩
    rw [Below.heap_alloc _ _ _ (by omega)]; exact hN3
  · exact h3.turn (Turn.of_below (F := fun _ => False) (below_box w3 _)) id
  · intro g hg
    have : w.heap.size = g := Option.some.inj hg
    constructor <;> omega
  · intro n hn
    rw [List.mem_singleton] at hn
    subst hn
    exact ⟨none, 0, rfl, by simp [rootN], by simp, .inl ⟨rfl, rfl, rfl⟩⟩
  · intro n hn
    rw [List.mem_singleton] at hn
    subst hn
    exact ⟨.inl rfl, by show (1 : Nat) ≤ 4096; omega, by show (0 : Nat) ≤ 4096; omega⟩
end Go.Proofs.YthkpcafbfgfjpaaDoor
