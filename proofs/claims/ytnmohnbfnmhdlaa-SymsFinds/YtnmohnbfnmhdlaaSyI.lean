
/-
  Layer 10 (syms): an index: symbols by their names: the map, its rows, what is laid down in one.
-/
import Derived.Test.YtnmohnbfnmhdlaaSyH
import Derived.Maps.OwnSet
import Derived.Maps.AppendAt
import Derived.StringKeys
import Derived.Deep.RegionHeldLaw
set_option linter.unusedVariables false
namespace Go.Proofs.Ytnmohnbfnmhdlaa
open Go.RowKit Go.PlainAid Go.Sort Go.WideMaps
/-! ### Plain -/
structure Hd where
  num : Nat
  ver : List UInt8
  hidden : Bool
def Hd.cells (h : Hd) : List Value := [.int .i64 (h.num : Nat), .string ⟨h.ver.toArray⟩, .bool h.hidden]
/-- Those of a name that may be had, numbered from k on. -/
def hds : List Sy → Nat → List UInt8 → List Hd
  | [], _, _ => []
  | s :: t, k, nm => if had s && s.name == nm then ⟨k, s.ver, s.hidden⟩ :: hds t (k + 1) nm else hds t (k + 1) nm
theorem hds_app : ∀ (a b : List Sy) (k : Nat) (nm : List UInt8), hds (a ++ b) k nm = hds a k nm ++ hds b (k + a.length) nm
  | [], b, k, nm => by simp [hds]
  | s :: a, b, k, nm => by
    rw [List.cons_append, hds, hds, hds_app a b (k + 1) nm, List.length_cons, show k + 1 + a.length = k + (a.length + 1) by omega]
    split <;> simp
theorem hds_len : ∀ (a : List Sy) (k : Nat) (nm : List UInt8), (hds a k nm).length ≤ a.length
  | [], k, nm => by simp [hds]
  | s :: a, k, nm => by
    have := hds_len a (k + 1) nm
    rw [hds]
    split <;> simp <;> omega
theorem hds_more (l : List Sy) (i : Nat) (hi : i < l.length) (nm : List UInt8) : hds (l.take (i + 1)) 0 nm = hds (l.take i) 0 nm ++ (if had l[i] && l[i].name == nm then [⟨i, l[i].ver, l[i].hidden⟩] else []) := by
  rw [List.take_add_one, List.getElem?_eq_getElem hi]
  show hds (l.take i ++ [l[i]]) 0 nm = _
  rw [hds_app]
  congr 1
  rw [List.length_take, show 0 + min i l.length = i by omega, hds, hds]
def fstH (vs : Bool) (ver : List UInt8) (L : List Hd) : Int := match L.find? (fun h => fitB vs h.hidden h.ver ver) with
  | some h => (h.num : Int)
  | none => -1
theorem fstH_is (vs : Bool) (nm ver : List UInt8) : ∀ (l : List Sy) (k : Nat), fstH vs ver (hds l k nm) = match l.findIdx? (okS vs nm ver) with | some i => ((k + i : Nat) : Int) | none => -1
  | [], k => rfl
  | s :: t, k => by
    have ih := fstH_is vs nm ver t (k + 1)
    rw [hds, List.findIdx?_cons]
    cases hh : had s && s.name == nm
    · have e : okS vs nm ver s = false := by unfold okS; rw [hh]; rfl
      rw [if_neg (by simp), ih, e]
      cases t.findIdx? (okS vs nm ver) with
      | none => rfl
      | some i =>
        show ((k + 1 + i : Nat) : Int) = ((k + (i + 1) : Nat) : Int)
        congr 1
        omega
    · rw [if_pos rfl]
      have e : okS vs nm ver s = fitB vs s.hidden s.ver ver := by unfold okS; rw [hh]; rfl
      rw [e]
      cases hf : fitB vs s.hidden s.ver ver
      · have : fstH vs ver (⟨k, s.ver, s.hidden⟩ :: hds t (k + 1) nm) = fstH vs ver (hds t (k + 1) nm) := by unfold fstH; rw [List.find?_cons_of_neg (by simp [hf])]
        rw [this, ih]
        cases t.findIdx? (okS vs nm ver) with
        | none => rfl
        | some i =>
          show ((k + 1 + i : Nat) : Int) = ((k + (i + 1) : Nat) : Int)
          congr 1
          omega
      · have : fstH vs ver (⟨k, s.ver, s.hidden⟩ :: hds t (k + 1) nm) = (k : Int) := by unfold fstH; rw [List.find?_cons_of_pos (by simp [hf])]
        rw [this]
        simp
theorem fstH_find (vs : Bool) (nm ver : List UInt8) (l : List Sy) : fstH vs ver (hds l 0 nm) = findS vs nm ver l := by
  rw [fstH_is]
  unfold findS
  cases l.findIdx? (okS vs nm ver) <;> simp
theorem fstH_hit {vs : Bool} {ver : List UInt8} {L : List Hd} {i : Nat} (hi : i < L.length) (h : fitB vs L[i].hidden L[i].ver ver = true) (hn : ∀ j (hj : j < L.length), j < i → fitB vs L[j].hidden L[j].ver ver = false) : fstH vs ver L = (L[i].num : Int) := by
  have : L.find? (fun h => fitB vs h.hidden h.ver ver) = some L[i] := by
    rw [List.find?_eq_some_iff_getElem]
    exact ⟨h, i, hi, rfl, fun j hj => by simp [hn j (by omega) hj]⟩
  unfold fstH
  rw [this]
theorem fstH_none {vs : Bool} {ver : List UInt8} {L : List Hd} (hn : ∀ j (hj : j < L.length), fitB vs L[j].hidden L[j].ver ver = false) : fstH vs ver L = -1 := by
  have : L.find? (fun h => fitB vs h.hidden h.ver ver) = none := by
    rw [List.find?_eq_none]
    intro x hx
    obtain ⟨j, hj, rfl⟩ := List.mem_iff_getElem.1 hx
    simp [hn j hj]
  unfold fstH
  rw [this]
/-! ### Rows -/
def flatH (l : List Hd) : List Value := l.flatMap Hd.cells
theorem flatH_app (l m : List Hd) : flatH (l ++ m) = flatH l ++ flatH m := by simp [flatH]
theorem flatH_get (l : List Hd) : ∀ (j : Nat) (hj : j < l.length) (k : Nat) (hk : k < 3), (flatH l)[j * 3 + k]? = l[j].cells[k]? := by
  induction l with
  | nil => intro j hj; simp at hj
  | cons e l ih =>
    intro j hj k hk
    have e1 : flatH (e :: l) = e.cells ++ flatH l := rfl
    have e2 : e.cells.length = 3 := rfl
    cases j with
    | zero => rw [e1, Nat.zero_mul, Nat.zero_add, List.getElem?_append_left (by omega)]; rfl
    | succ j =>
      rw [e1, List.getElem?_append_right (by omega), e2, show (j + 1) * 3 + k - 3 = j * 3 + k by omega]
      exact ih j (by simpa using hj) k hk
def OwnH (w : World) (B : Nat) (v : Value) (l : List Hd) : Prop := w.ownsRow B 128 3 v l.length (flatH l)
theorem Try.infoH : (Try.prog.info? 128).map (fun i => (i.zero, i.size, i.bytes)) = some (some (.agg #[.int .i64 0, .string ByteArray.empty, .bool false]), 3, 32) := by kernel_rfl
theorem OwnH.stay {w w' : World} {B : Nat} {v : Value} {l : List Hd} (h : OwnH w B v l) (hb : Below w.heap.size w w') : OwnH w' B v l := by
  obtain ⟨h1, h2⟩ := h
  refine ⟨h1, ?_⟩
  rcases h2 with h2 | ⟨g, cap, cur, rfl, hB, hg, rest⟩
  · exact .inl h2
  · refine .inr ⟨g, cap, cur, rfl, hB, ?_, rest⟩
    rw [hb.block g (Array.getElem?_eq_some_iff.1 hg).1]; exact hg
theorem step_append_H {ops : Array Oper} {o : Oper} {a : Act} {W : World} {K : Act → World → Prop} {Q : Exit → Act → World → Prop} {E : Prop} (hgd : o.guard = none) (s x : Operand)
    (ho : o.op = .call { callee := .builtin .append, args := #[s, x], argTypes := #[134, 134] })
    (B : Nat) (v : Value) (l : List Hd) (hown : OwnH W B v l) (f : Hd) (hs : a.eval s = v) (q : Nat)
    (hx : a.eval x = .slice (some ⟨q, 0, none⟩) 1 1) (hq : ∀ j u, f.cells[j]? = some u → W.cell? ⟨q, j, none⟩ = some u) (hlen : l.length ≤ 100000) (hB : B ≤ W.heap.size)
    (h : ∀ v' w', OwnH w' B v' (l ++ [f]) → W.grownBy w' v.ownBlock → (v'.ownBlock = v.ownBlock ∨ v'.ownBlock = some W.heap.size) → K (a.put o.dst v') w') :
    if Region.wanted o (yielded ops a.tmps) = true then Oper.wp Try.prog o a W K Q else E := by
  have hw : Region.wanted o (yielded ops a.tmps) = true := by simp [Region.wanted, hgd]
  rw [if_pos hw]
  obtain ⟨i, hi, hz0, hz1, hz2⟩ := info_parts Try.infoH
  obtain ⟨v', w', hr, h2, h3, _, h4⟩ := run_append_own_at (P := Try.prog) W B 134 o.type 128 i _ 3 32 Try.underlying134 hi hz0 hz1 hz2 rfl (by decide) v l.length (flatH l) hown ⟨q, 0, none⟩ 1 1 f.cells rfl
    (fun j u hj => by rw [Addr.add_mid, Nat.zero_add]; exact hq j u hj) (by
      intro u hu
      simp only [Hd.cells, List.mem_cons, List.not_mem_nil, or_false] at hu
      rcases hu with rfl | rfl | rfl <;> rfl) (by unfold maxLen; omega) (by omega) hB
  unfold Oper.wp execOp
  simp only [ho, resolve, invoke, builtin, Sem.run_bind, Sem.run_pure, Result.andThen_ok, List.map_toArray, List.map_cons, List.map_nil, hs, hx, hr]
  refine h v' w' ?_ h3 h4
  unfold OwnH
  rw [List.length_append, flatH_app]
  simpa [flatH] using h2
/-! ### The map -/
def asIs (v : Value) : Option (DataW Value × List MemPlace) := some (.held v, [])
theorem keyS : Maps.Keyed Try.prog 9 := Maps.string_keyed Try.underlying9
theorem zeroHs (w : World) : (zeroValue 134).run Try.prog w = .ok (.slice none 0 0) w := by kernel_rfl
/-- Block M is a map of at most n entries: at each text s it has f s. -/
def MapV (w : World) (M n : Nat) (f : List UInt8 → Value) : Prop :=
  ∃ D : DataW Value, w.ownsMap Try.prog 9 asIs M n D ∧ ∀ s : List UInt8, D.atKey (.string s) (.held (.slice none 0 0)) = .held (f s)
theorem MapV.made (w : World) : MapV (w.alloc (.map #[] 0)) w.heap.size 0 (fun _ => .slice none 0 0) :=
  ⟨_, World.ownsMap_made w _ _ _, fun s => rfl⟩
theorem MapV.block {w w' : World} {M n : Nat} {f : List UInt8 → Value} (h : MapV w M n f) (hb : w'.heap[M]? = w.heap[M]?) : MapV w' M n f := by
  obtain ⟨D, ⟨es, clock, hb2, r⟩, h2⟩ := h
  exact ⟨D, ⟨es, clock, hb.trans hb2, r⟩, h2⟩
theorem MapV.lt {w : World} {M n : Nat} {f : List UInt8 → Value} (h : MapV w M n f) : M < w.heap.size := h.choose_spec.1.lt
theorem MapV.get {w : World} {M n : Nat} {f : List UInt8 → Value} (h : MapV w M n f) (s : List UInt8) (hs : s.length ≤ maxLen) : (Instr.lookup 131 (.map (some M)) (.string ⟨s.toArray⟩) false).run Try.prog w = .ok (f s) w := by
  obtain ⟨D, hD, h2⟩ := h
  obtain ⟨v, ps, hr, hv⟩ := hD.lookup keyS Try.underlying131 (zeroHs w) (zd := .held (.slice none 0 0)) (zp := []) rfl (keyOf_string_mk Try.underlying9 (s := ⟨s.toArray⟩) (by simpa [ByteArray.size] using hs))
  have e := h2 s
  rw [show (({ data := s.toArray } : ByteArray).data.toList) = s by simp, e] at hv
  unfold asIs at hv
  simp only [Option.some.injEq, Prod.mk.injEq, DataW.held.injEq] at hv
  rw [hr, hv.1]
theorem MapV.put {w : World} {M n : Nat} {f : List UInt8 → Value} (h : MapV w M n f) (s : List UInt8) (hs : s.length ≤ maxLen) (hn : n < maxLen) (v : Value) : ∃ w', (Instr.mapUpdate 131 (.map (some M)) (.string ⟨s.toArray⟩) v).run Try.prog w = .ok () w' ∧ MapV w' M (n + 1) (fun t => if t = s then v else f t) ∧ w.grownBy w' (some M) := by
  obtain ⟨D, hD, h2⟩ := h
  obtain ⟨w', hr, ho, hg⟩ := hD.update keyS Try.underlying131 hn (keyOf_string_mk Try.underlying9 (s := ⟨s.toArray⟩) (by simpa [ByteArray.size] using hs)) (show asIs v = some (.held v, []) from rfl)
  rw [show (({ data := s.toArray } : ByteArray).data.toList) = s by simp] at ho
  refine ⟨w', hr, ⟨_, ho, fun t => ?_⟩, hg⟩
  by_cases e : t = s
  · subst e
    rw [Maps.atKey_put_same hD.isMap (k := .string t) trivial]
    simp
  · rw [Maps.atKey_put_other (by intro h; injection h with h; exact e h), h2 t]
    simp [e]
/-! ### The index -/
structure IdxAt (w : World) (X M B : Nat) (vs : Bool) (n : Nat) (f : List UInt8 → Value) (g : List UInt8 → List Hd) : Prop where
  head : w.heap[X]? = some (.cells #[.bool vs, .map (some M)] 133 (0, 0))
  map : MapV w M n f
  row : ∀ nm, OwnH w B (f nm) (g nm)
  apart : ∀ a b, a ≠ b → (f a).ownBlock = none ∨ (f a).ownBlock ≠ (f b).ownBlock
  hX : X < B
  hM : M < B
  ne : X ≠ M
theorem IdxAt.lt {w : World} {X M B : Nat} {vs : Bool} {n : Nat} {f : List UInt8 → Value} {g : List UInt8 → List Hd} (h : IdxAt w X M B vs n f g) : X < w.heap.size := (Array.getElem?_eq_some_iff.1 h.head).1
theorem IdxAt.stay {w w' : World} {X M B : Nat} {vs : Bool} {n : Nat} {f : List UInt8 → Value} {g : List UInt8 → List Hd} (h : IdxAt w X M B vs n f g) (hb : Below w.heap.size w w') : IdxAt w' X M B vs n f g :=
  ⟨by rw [hb.block X h.lt]; exact h.head, h.map.block (hb.block M h.map.lt), fun nm => (h.row nm).stay hb, h.apart, h.hX, h.hM, h.ne⟩
theorem IdxAt.cells {w : World} {X M B : Nat} {vs : Bool} {n : Nat} {f : List UInt8 → Value} {g : List UInt8 → List Hd} (h : IdxAt w X M B vs n f g) : w.cell? ⟨X, 0, none⟩ = some (.bool vs) ∧ w.cell? ⟨X, 1, none⟩ = some (.map (some M)) := by
  constructor <;> (unfold World.cell?; rw [h.head]; rfl)
/-- One more is laid behind those of a name. -/
theorem IdxAt.more {w w2 w3 : World} {X M B : Nat} {vs : Bool} {n : Nat} {f : List UInt8 → Value} {g : List UInt8 → List Hd} (h : IdxAt w X M B vs n f g) (nm : List UInt8) (x : Hd) (v : Value)
    (ho : OwnH w2 B v (g nm ++ [x])) (hg : w.grownBy w2 (f nm).ownBlock) (hv : v.ownBlock = (f nm).ownBlock ∨ v.ownBlock = some w.heap.size) (hm : MapV w3 M (n + 1) (fun t => if t = nm then v else f t)) (hg3 : w2.grownBy w3 (some M)) :
    IdxAt w3 X M B vs (n + 1) (fun t => if t = nm then v else f t) (fun t => if t = nm then g nm ++ [x] else g t) := by
  have hfB : ∀ a k, (f a).ownBlock = some k → B ≤ k ∧ k < w.heap.size := fun a k e => World.ownsRow.lt (h.row a) k e
  refine ⟨?_, hm, fun t => ?_, fun a b hab => ?_, h.hX, h.hM, h.ne⟩
  · rw [hg3.block X (Nat.lt_of_lt_of_le h.lt hg.size) (fun e => h.ne (Option.some.inj e)), hg.block X h.lt (fun e => by have := (hfB nm X e.symm).1; have := h.hX; omega)]
    exact h.head
  · by_cases e : t = nm
    · simp only [e, if_true]
      refine World.ownsRow.kept ho hg3 ?_
      cases hvb : v.ownBlock with
      | none => exact .inl rfl
      | some k =>
        right
        intro e2
        have := (World.ownsRow.lt ho k hvb).1
        have := h.hM
        cases e2
        omega
    · simp only [e, if_false]
      refine World.ownsRow.kept (World.ownsRow.kept (h.row t) hg (h.apart t nm e)) hg3 ?_
      cases hvb : (f t).ownBlock with
      | none => exact .inl rfl
      | some k =>
        right
        intro e2
        have := (hfB t k hvb).1
        have := h.hM
        cases e2
        omega
  · by_cases ea : a = nm
    · have eb : b ≠ nm := fun e => hab (ea.trans e.symm)
      simp only [ea, eb, if_true, if_false]
      rcases hv with hv | hv
      · rw [hv]; exact h.apart nm b (Ne.symm eb)
      · right
        rw [hv]
        intro e
        have := (hfB b _ e.symm).2
        omega
    · simp only [ea, if_false]
      by_cases eb : b = nm
      · simp only [eb, if_true]
        rcases hv with hv | hv
        · rw [hv]; exact h.apart a nm ea
        · cases hvb : (f a).ownBlock with
          | none => exact .inl rfl
          | some k =>
            right
            rw [hv]
            intro e
            have := (hfB a k hvb).2
            cases e
            omega
      · simp only [eb, if_false]
        exact h.apart a b hab
theorem IdxAt.nothing {w : World} {X M B : Nat} {vs : Bool} {n m : Nat} {f : List UInt8 → Value} {g : List UInt8 → List Hd} (h : IdxAt w X M B vs n f g) (hm : n ≤ m) : IdxAt w X M B vs m f g := by
  obtain ⟨D, hD, h2⟩ := h.map
  exact ⟨h.head, ⟨D, hD.mono hm, h2⟩, h.row, h.apart, h.hX, h.hM, h.ne⟩
end Go.Proofs.Ytnmohnbfnmhdlaa
