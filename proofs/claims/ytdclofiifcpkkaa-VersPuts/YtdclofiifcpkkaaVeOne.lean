
/-
  Layer 11 (vers): plain data, the program's records, own, along.
-/
import Derived.Test.YtdclofiifcpkkaaHdX
import Derived.Test.YtdclofiifcpkkaaTextB
import Derived.Test.YtdclofiifcpkkaaDyOne
import Derived.Deep.RegionHeldLaw
import Derived.Deep.RegionLaw
import Derived.Shelf.Abstract
import Derived.Deep.Cut
import Derived.Laws.BitsAllLaws
import Derived.Lib.QuietBelow
import Derived.BigQuiet
set_option linter.unusedVariables false
namespace Go.Proofs.Ytdclofiifcpkkaa
open Go.RowKit Go.PlainAid
/-- A version. -/
structure Vv where
  num : Nat
  name : List UInt8
  frm : List UInt8
/-- A text that isn't empty. -/
def txtB (S : List UInt8) (p : Nat) : Bool := decide ((textAt S p).2 = 0) && !(textAt S p).1.isEmpty
def txtS (S : List UInt8) (p : Nat) : List UInt8 := (textAt S p).1
/-- Bytes of the library's memory. -/
def rc (l : List UInt8) (ps : List Ph) (a s : Nat) : List UInt8 := (partZ l ps a s).1
def rcB (l : List UInt8) (ps : List Ph) (a s : Nat) : Bool := (partZ l ps a s).2
/-- The places of a row of records. -/
def rowZ (l : List UInt8) (ps : List Ph) (long next : Nat) : Nat → Nat → List Nat × Bool
  | 0, _ => ([], true)
  | k + 1, a => if rcB l ps a long = false then ([], false) else
      if rd (rc l ps a long) next 4 = 0 then ([a], true) else
      (a :: (rowZ l ps long next k (a + rd (rc l ps a long) next 4)).1, (rowZ l ps long next k (a + rd (rc l ps a long) next 4)).2)
/-- All that places tell. -/
def gL (g : Nat → Option (List Vv)) : List Nat → Option (List Vv)
  | [] => some []
  | p :: t => match g p with
    | none => none
    | some x => (gL g t).map (x ++ ·)
def rowG (l : List UInt8) (ps : List Ph) (g : Nat → Option (List Vv)) (long next many a : Nat) : Option (List Vv) :=
  if (rowZ l ps long next many a).2 = true then gL g (rowZ l ps long next many a).1 else none
/-- A version that a library has. -/
def ownB (l : List UInt8) (ps : List Ph) (S : List UInt8) (a : Nat) : Bool :=
  decide (rd (rc l ps a 20) 0 2 = 1) && !decide (rd (rc l ps a 20) 6 2 = 0) && rcB l ps (a + rd (rc l ps a 20) 12 4) 8 && txtB S (rd (rc l ps (a + rd (rc l ps a 20) 12 4) 8) 0 4)
def ownV (l : List UInt8) (ps : List Ph) (S : List UInt8) (a : Nat) : Vv := ⟨rd (rc l ps a 20) 4 2, txtS S (rd (rc l ps (a + rd (rc l ps a 20) 12 4) 8) 0 4), []⟩
def ownO (l : List UInt8) (ps : List Ph) (S : List UInt8) (a : Nat) : Option (List Vv) :=
  if ownB l ps S a then (if rd (rc l ps a 20) 2 2 % 2 = 0 then some [ownV l ps S a] else some []) else none
/-- A version that is asked for. -/
def askV (l : List UInt8) (ps : List Ph) (S f : List UInt8) (a : Nat) : Vv := ⟨rd (rc l ps a 16) 6 2, txtS S (rd (rc l ps a 16) 8 4), f⟩
def askO (l : List UInt8) (ps : List Ph) (S f : List UInt8) (a : Nat) : Option (List Vv) :=
  if txtB S (rd (rc l ps a 16) 8 4) then some [askV l ps S f a] else none
/-- A library that is asked. -/
def libB (l : List UInt8) (ps : List Ph) (S : List UInt8) (a : Nat) : Bool := decide (rd (rc l ps a 16) 0 2 = 1) && txtB S (rd (rc l ps a 16) 4 4)
def libF (l : List UInt8) (ps : List Ph) (S : List UInt8) (a : Nat) : List UInt8 := txtS S (rd (rc l ps a 16) 4 4)
def libO (l : List UInt8) (ps : List Ph) (S : List UInt8) (a : Nat) : Option (List Vv) :=
  if libB l ps S a then rowG l ps (askO l ps S (libF l ps S a)) 16 12 (rd (rc l ps a 16) 2 2) (a + rd (rc l ps a 16) 8 4) else none
/-- One version more. -/
def addB (F : List Vv) (v : Vv) : Bool := !(F.any fun o => decide (o.num = v.num)) && decide (2 ≤ v.num) && decide (v.num ≤ 32767) && !decide (F.length = 32)
def addO (F : List Vv) (v : Vv) : Option (List Vv) := if addB F v then some (F ++ [v]) else none
def addAll : List Vv → List Vv → Option (List Vv)
  | F, [] => some F
  | F, v :: t => (addO F v).bind (addAll · t)
theorem addAll_app (F x y : List Vv) : addAll F (x ++ y) = (addAll F x).bind (addAll · y) := by
  induction x generalizing F with
  | nil => rfl
  | cons v t ih =>
    simp only [List.cons_append, addAll]
    cases addO F v with
    | none => rfl
    | some G => exact ih G
/-- Along a row, with what is taken at each record. -/
def alongZ (l : List UInt8) (ps : List Ph) (tk : Nat → List Vv → Option (List Vv)) (long next : Nat) : Nat → Nat → List Vv → Option (List Vv)
  | 0, _, F => some F
  | k + 1, a, F => if rcB l ps a long = false then none else
      match tk a F with
      | none => none
      | some G => if rd (rc l ps a long) next 4 = 0 then some G else alongZ l ps tk long next k (a + rd (rc l ps a long) next 4) G
theorem along_row (l : List UInt8) (ps : List Ph) (g : Nat → Option (List Vv)) (tk : Nat → List Vv → Option (List Vv)) (hg : ∀ a F, tk a F = (g a).bind (addAll F)) (long next k a : Nat) (F : List Vv) :
    alongZ l ps tk long next k a F = (rowG l ps g long next k a).bind (addAll F) := by
  induction k generalizing a F with
  | zero => rfl
  | succ k ih =>
    unfold rowG at ih ⊢
    rw [alongZ, rowZ]
    by_cases h1 : rcB l ps a long = false
    · rw [if_pos h1, if_pos h1]; rfl
    · rw [if_neg h1, if_neg h1, hg]
      by_cases h2 : rd (rc l ps a long) next 4 = 0
      · simp only [h2, if_true, gL]
        cases g a with
        | none => rfl
        | some x =>
          simp only [Option.bind_some, Option.map_some, List.append_nil]
          cases addAll F x <;> rfl
      · simp only [h2, if_false]
        cases hx : g a with
        | none =>
          simp only [Option.bind_none, gL, hx]
          split <;> rfl
        | some x =>
          simp only [Option.bind_some]
          cases hq : addAll F x with
          | none =>
            simp only [gL, hx]
            split
            · cases gL g _ with
              | none => rfl
              | some y => simp only [Option.map_some, Option.bind_some, addAll_app, hq, Option.bind_none]
            · rfl
          | some G =>
            simp only [ih, gL, hx]
            split
            · cases gL g _ with
              | none => rfl
              | some y => simp only [Option.map_some, Option.bind_some, addAll_app, hq]
            · rfl
/-- May these be all versions of a library? -/
def apartB : List Vv → Bool
  | [] => true
  | v :: t => !(t.any fun o => decide (o.num = v.num)) && apartB t
def goodB (L : List Vv) : Bool := decide (L.length ≤ 32) && L.all (fun v => decide (2 ≤ v.num) && decide (v.num ≤ 32767)) && apartB L
theorem apart_snoc (F : List Vv) (v : Vv) : apartB (F ++ [v]) = (apartB F && !(F.any fun o => decide (o.num = v.num))) := by
  induction F with
  | nil => rfl
  | cons x t ih =>
    simp only [List.cons_append, apartB, ih, List.any_append, List.any_cons, List.any_nil, Bool.or_false]
    rw [decide_eq_decide.2 (show v.num = x.num ↔ x.num = v.num from ⟨Eq.symm, Eq.symm⟩)]
    cases (t.any fun o => decide (o.num = x.num)) <;> cases decide (x.num = v.num) <;> cases (t.any fun o => decide (o.num = v.num)) <;> cases apartB t <;> rfl
theorem apart_left (F : List Vv) (t : List Vv) (h : apartB (F ++ t) = true) : apartB F = true := by
  induction F with
  | nil => rfl
  | cons x F ih =>
    simp only [List.cons_append, apartB, List.any_append, Bool.and_eq_true, Bool.not_eq_true', Bool.or_eq_false_iff] at h ⊢
    exact ⟨h.1.1, ih h.2⟩
theorem good_snoc (F : List Vv) (v : Vv) (h : goodB F = true) : goodB (F ++ [v]) = addB F v := by
  unfold goodB at h ⊢
  simp only [Bool.and_eq_true, decide_eq_true_eq] at h
  obtain ⟨⟨h1, h2⟩, h3⟩ := h
  rw [apart_snoc, List.all_append, h2, h3]
  unfold addB
  have e : decide ((F ++ [v]).length ≤ 32) = !decide (F.length = 32) := by
    rw [List.length_append, List.length_singleton]
    by_cases c : F.length = 32
    · rw [decide_eq_true c, decide_eq_false (by omega)]; rfl
    · rw [decide_eq_false c, decide_eq_true (by omega)]; rfl
  rw [e]
  simp only [List.all_cons, List.all_nil, Bool.and_true, Bool.true_and]
  cases (F.any fun o => decide (o.num = v.num)) <;> cases decide (2 ≤ v.num) <;> cases decide (v.num ≤ 32767) <;> cases decide (F.length = 32) <;> rfl
theorem good_left (F t : List Vv) (h : goodB (F ++ t) = true) : goodB F = true := by
  unfold goodB at h ⊢
  simp only [Bool.and_eq_true, decide_eq_true_eq, List.all_append, List.length_append] at h ⊢
  exact ⟨⟨by omega, h.1.2.1⟩, apart_left F t h.2⟩
theorem addAll_is (F L : List Vv) (h : goodB F = true) : addAll F L = if goodB (F ++ L) then some (F ++ L) else none := by
  induction L generalizing F with
  | nil => rw [addAll, List.append_nil, if_pos h]
  | cons v t ih =>
    rw [addAll, addO, ← good_snoc F v h]
    have e : F ++ v :: t = (F ++ [v]) ++ t := by simp
    by_cases c : goodB (F ++ [v]) = true
    · rw [if_pos c, Option.bind_some, ih _ c, e]
    · rw [if_neg c, e, if_neg (fun q => c (good_left _ _ q))]; rfl
/-- What a library's versions hang on. -/
structure Vq where
  def' : Nat
  defs : Nat
  need : Nat
  needs : Nat
def partO (l : List UInt8) (ps : List Ph) (S : List UInt8) (q : Vq) : Option (List Vv) :=
  match (if q.def' = 0 then some [] else rowG l ps (ownO l ps S) 20 16 q.defs q.def') with
  | none => none
  | some o => match (if q.need = 0 then some [] else rowG l ps (libO l ps S) 16 12 q.needs q.need) with
    | none => none
    | some a => if goodB (o ++ a) then some (o ++ a) else none
def verZ (l : List UInt8) (ps : List Ph) (S : List UInt8) (sb : Bool) (q : Vq) : Option (List Vv) :=
  if sb = false ∨ 33 < q.defs ∨ 32 < q.needs then none else partO l ps S q
/-- What the program takes at each record. -/
def ownT (l : List UInt8) (ps : List Ph) (S : List UInt8) (a : Nat) (F : List Vv) : Option (List Vv) := (ownO l ps S a).bind (addAll F)
def askT (l : List UInt8) (ps : List Ph) (S f : List UInt8) (a : Nat) (F : List Vv) : Option (List Vv) := (askO l ps S f a).bind (addAll F)
def libT (l : List UInt8) (ps : List Ph) (S : List UInt8) (a : Nat) (F : List Vv) : Option (List Vv) :=
  if libB l ps S a then alongZ l ps (askT l ps S (libF l ps S a)) 16 12 (rd (rc l ps a 16) 2 2) (a + rd (rc l ps a 16) 8 4) F else none
theorem libT_is (l : List UInt8) (ps : List Ph) (S : List UInt8) (a : Nat) (F : List Vv) : libT l ps S a F = (libO l ps S a).bind (addAll F) := by
  unfold libT libO
  split
  · exact along_row l ps _ _ (fun _ _ => rfl) _ _ _ _ _
  · rfl
def progO (l : List UInt8) (ps : List Ph) (S : List UInt8) (q : Vq) : Option (List Vv) :=
  match (if q.def' = 0 then some [] else alongZ l ps (ownT l ps S) 20 16 q.defs q.def' []) with
  | none => none
  | some F => if q.need = 0 then some F else alongZ l ps (libT l ps S) 16 12 q.needs q.need F
theorem prog_is (l : List UInt8) (ps : List Ph) (S : List UInt8) (q : Vq) : progO l ps S q = partO l ps S q := by
  unfold progO partO
  rw [along_row l ps (ownO l ps S) (ownT l ps S) (fun _ _ => rfl)]
  have e : (if q.def' = 0 then some [] else (rowG l ps (ownO l ps S) 20 16 q.defs q.def').bind (addAll [])) = (if q.def' = 0 then some [] else rowG l ps (ownO l ps S) 20 16 q.defs q.def').bind (addAll []) := by split <;> rfl
  rw [e]
  cases (if q.def' = 0 then some [] else rowG l ps (ownO l ps S) 20 16 q.defs q.def') with
  | none => rfl
  | some o =>
    simp only [Option.bind_some, addAll_is [] o rfl, List.nil_append]
    simp only [along_row l ps (libO l ps S) _ (libT_is l ps S)]
    have e2 : ∀ F, (if q.need = 0 then some F else (rowG l ps (libO l ps S) 16 12 q.needs q.need).bind (addAll F)) = (if q.need = 0 then some [] else rowG l ps (libO l ps S) 16 12 q.needs q.need).bind (addAll F) := fun F => by split <;> rfl
    simp only [e2]
    cases (if q.need = 0 then some [] else rowG l ps (libO l ps S) 16 12 q.needs q.need) with
    | none => cases goodB o <;> rfl
    | some a =>
      simp only [Option.bind_some]
      by_cases c : goodB o = true
      · simp only [c, if_true]
        exact addAll_is o a c
      · rw [if_neg c, if_neg (fun h => c (good_left _ _ h))]
end Go.Proofs.Ytdclofiifcpkkaa
namespace Go.Proofs.Ytdclofiifcpkkaa
open Go.RowKit Go.PlainAid Go.Sort
def Vv.cells (K : IntKind) (v : Vv) : List Value := [.int K v.num, .string (txb v.name), .string (txb v.frm)]
def flatV (K : IntKind) (l : List Vv) : List Value := l.flatMap (Vv.cells K)
theorem flatV_app (K : IntKind) (l m : List Vv) : flatV K (l ++ m) = flatV K l ++ flatV K m := by simp [flatV]
theorem flatV_get (K : IntKind) (l : List Vv) : ∀ (j : Nat) (hj : j < l.length) (k : Nat) (hk : k < 3), (flatV K l)[j * 3 + k]? = (l[j].cells K)[k]? := by
  induction l with
  | nil => intro j hj; simp at hj
  | cons e l ih =>
    intro j hj k hk
    have e1 : flatV K (e :: l) = e.cells K ++ flatV K l := rfl
    have e2 : (e.cells K).length = 3 := rfl
    cases j with
    | zero => rw [e1, Nat.zero_mul, Nat.zero_add, List.getElem?_append_left (by omega)]; rfl
    | succ j =>
      rw [e1, List.getElem?_append_right (by omega), e2, show (j + 1) * 3 + k - 3 = j * 3 + k by omega]
      exact ih j (by simpa using hj) k hk
theorem Vv.one (K : IntKind) (e : Vv) : ∀ u ∈ e.cells K, u.oneCell' = true := by
  intro u hu
  simp only [Vv.cells, List.mem_cons, List.not_mem_nil, or_false] at hu
  rcases hu with rfl | rfl | rfl <;> rfl
/-- A row of versions of the call's own. -/
def OwnV (T : TypeId) (K : IntKind) (w : World) (B : Nat) (v : Value) (l : List Vv) : Prop := w.ownsRow B T 3 v l.length (flatV K l)
theorem OwnV.nil (T : TypeId) (K : IntKind) (w : World) (B : Nat) : OwnV T K w B (.slice none 0 0) [] := World.ownsRow_nil _ _ _ _
theorem OwnV.stay {T : TypeId} {K : IntKind} {w w' : World} {B : Nat} {v : Value} {l : List Vv} (h : OwnV T K w B v l) (hb : Below w.heap.size w w') : OwnV T K w' B v l := by
  unfold OwnV at h ⊢
  refine ⟨h.1, ?_⟩
  rcases h.2 with hn | ⟨g, cap, cur, rfl, hB, hg, rest⟩
  · exact .inl hn
  · refine .inr ⟨g, cap, cur, rfl, hB, ?_, rest⟩
    rw [hb.block g (Array.getElem?_eq_some_iff.1 hg).1]; exact hg
theorem OwnV.low {T : TypeId} {K : IntKind} {w : World} {B C : Nat} {v : Value} {l : List Vv} (h : OwnV T K w B v l) (hb : C ≤ B) : OwnV T K w C v l := by
  unfold OwnV at h ⊢
  refine ⟨h.1, ?_⟩
  rcases h.2 with hn | ⟨g, cap, cur, rfl, hB, rest⟩
  · exact .inl hn
  · exact .inr ⟨g, cap, cur, rfl, Nat.le_trans hb hB, rest⟩
theorem OwnV.apart {T : TypeId} {K : IntKind} {w w' : World} {B G : Nat} {v : Value} {l : List Vv} (h : OwnV T K w B v l) (hb : w.grownBy w' (some G)) (hG : G < B) : OwnV T K w' B v l := by
  unfold OwnV at h ⊢
  refine ⟨h.1, ?_⟩
  rcases h.2 with hn | ⟨g, cap, cur, rfl, hB, hg, rest⟩
  · exact .inl hn
  · refine .inr ⟨g, cap, cur, rfl, hB, ?_, rest⟩
    rw [hb.block g (Array.getElem?_eq_some_iff.1 hg).1 (fun e => by injection e with e; omega)]; exact hg
theorem OwnV.form {T : TypeId} {K : IntKind} {w : World} {B : Nat} {v : Value} {l : List Vv} (h : OwnV T K w B v l) : ∃ a cap, v = .slice a l.length cap := by
  unfold OwnV at h
  rcases h.2 with ⟨rfl, hn⟩ | ⟨g, cap, cur, rfl, _⟩
  · exact ⟨none, 0, by rw [hn]⟩
  · exact ⟨_, _, rfl⟩
/-- A row of versions that can be read. -/
def ArgV (K : IntKind) (w : World) (v : Value) (ps : List Vv) : Prop :=
  ps.length ≤ 65536 ∧ ((v = .slice none 0 0 ∧ ps = []) ∨ ∃ g cap, v = .slice (some ⟨g, 0, none⟩) ps.length cap ∧ ps.length ≤ cap ∧ cap ≤ maxLen ∧ g < w.heap.size ∧
    ∀ j (hj : j < ps.length) k, k < 3 → w.cell? ⟨g, j * 3 + k, none⟩ = (ps[j].cells K)[k]?)
theorem OwnV.arg {T : TypeId} {K : IntKind} {w : World} {B : Nat} {v : Value} {l : List Vv} (h : OwnV T K w B v l) (hl : l.length ≤ 65536) : ArgV K w v l := by
  have hc := fun g hg => World.ownsRow.cells h (g := g) hg
  unfold OwnV at h
  refine ⟨hl, ?_⟩
  rcases h.2 with ⟨rfl, hn⟩ | ⟨g, cap, cur, rfl, hb, hg, hn, hm, _⟩
  · exact .inl ⟨rfl, List.length_eq_zero_iff.1 hn⟩
  · refine .inr ⟨g, cap, rfl, hn, hm, (Array.getElem?_eq_some_iff.1 hg).1, fun j hj k hk => ?_⟩
    have hlen : k < (l[j].cells K).length := hk
    have := hc g rfl (j * 3 + k) ((l[j].cells K)[k]) (by rw [flatV_get K l j hj k hk, List.getElem?_eq_getElem hlen])
    rw [add_at, Nat.zero_add] at this
    rw [this, List.getElem?_eq_getElem hlen]
theorem ArgV.below {K : IntKind} {w w' : World} {v : Value} {ps : List Vv} (h : ArgV K w v ps) (hb : Below w.heap.size w w') : ArgV K w' v ps := by
  refine ⟨h.1, ?_⟩
  rcases h.2 with hn | ⟨g, cap, rfl, h1, h2, h3, h4⟩
  · exact .inl hn
  · refine .inr ⟨g, cap, rfl, h1, h2, Nat.lt_of_lt_of_le h3 hb.size, fun j hj k hk => ?_⟩
    rw [hb.cell (p := ⟨g, j * 3 + k, none⟩) h3, h4 j hj k hk]
theorem ArgV.form {K : IntKind} {w : World} {v : Value} {ps : List Vv} (h : ArgV K w v ps) : ∃ a cap, v = .slice a ps.length cap := by
  rcases h.2 with ⟨rfl, rfl⟩ | ⟨g, cap, rfl, _⟩
  · exact ⟨_, _, rfl⟩
  · exact ⟨_, _, rfl⟩
theorem ArgV.at {K : IntKind} {w : World} {a : Option Addr} {n cap : Nat} {ps : List Vv} (h : ArgV K w (.slice a n cap) ps) (j : Nat) (hj : j < ps.length) :
    ∃ g, a = some ⟨g, 0, none⟩ ∧ ps.length ≤ cap ∧ cap ≤ 9223372036854775807 ∧ g < w.heap.size ∧
      w.cell? ⟨g, j * 3, none⟩ = some (.int K ps[j].num) ∧ w.cell? ⟨g, j * 3 + 1, none⟩ = some (.string (txb ps[j].name)) ∧ w.cell? ⟨g, j * 3 + 2, none⟩ = some (.string (txb ps[j].frm)) := by
  rcases h.2 with ⟨_, rfl⟩ | ⟨g, cap', e, h1, h2, h3, h4⟩
  · simp at hj
  · injection e with e1 e2 e3
    subst e1 e3
    have k := fun k hk => h4 j hj k hk
    exact ⟨g, rfl, h1, by unfold maxLen at h2; omega, h3, k 0 (by omega), k 1 (by omega), k 2 (by omega)⟩
theorem info_vp : (Try.prog.info? 114).map (fun i => (i.zero, i.size, i.bytes)) = some (some (.agg #[.int .u16 0, .string ByteArray.empty, .string ByteArray.empty]), 3, 40) := by kernel_rfl
theorem append_vp {ops : Array Oper} {rest : List Oper} {o : Oper} {a : Act} {Q : Exit → Act → World → Prop} (hgd : o.guard = none) (s x : Operand)
    (ho : o.op = .call { callee := .builtin .append, args := #[s, x], argTypes := #[54, 54] })
    (B : Nat) (wr : World) (v : Value) (l : List Vv) (hown : OwnV 114 .u16 wr B v l) (e : Vv) (hs : a.eval s = v)
    (q : Nat) (hq : q = wr.heap.size) (hx : a.eval x = .slice (some ⟨q, 0, none⟩) 1 1) (hlen : l.length ≤ 1000000) (hB : B ≤ wr.heap.size)
    (h : ∀ v' w', OwnV 114 .u16 w' B v' (l ++ [e]) → Below B wr w' → wpList Try.prog ops Q rest (a.put o.dst v') w') :
    wpList Try.prog ops Q (o :: rest) a (wr.alloc (.cells (e.cells .u16).toArray 114)) := by
  subst hq
  obtain ⟨i, hi, hz0, hz1, hz2⟩ := info_parts info_vp
  have hb : ∀ k, v.ownBlock = some k → B ≤ k := fun k hk => (World.ownsRow.lt hown k hk).1
  refine wpList_append_own (P := Try.prog) (wr.alloc (.cells (e.cells .u16).toArray 114)) hgd s x 54 ho B 114 i _ 3 40 Try.underlying54 hi hz0 hz1 hz2 rfl (by decide) v l.length (flatV .u16 l) hs (World.ownsRow.alloc hown _)
    ⟨wr.heap.size, 0, none⟩ 1 1 (e.cells .u16) hx rfl ?_ (e.one _) ?_ ?_ ?_ ?_
  · intro j u hj
    have hj5 : j < 3 := (List.getElem?_eq_some_iff.1 hj).1
    rw [add_at, Nat.zero_add, World.cell?_alloc_at _ _ _ _ (by simp)]
    simpa using hj
  · unfold maxLen; omega
  · omega
  · simp; omega
  · intro v' w' h1 h2 _
    refine h v' w' ?_ ?_
    · unfold OwnV
      rw [List.length_append, flatV_app]
      simpa [flatV] using h1
    · exact ((Below.refl B wr).alloc hB _).grown h2 (by simp; omega) hb
theorem info_vr : (Try.prog.info? 69).map (fun i => (i.zero, i.size, i.bytes)) = some (some (.agg #[.int .u64 0, .string ByteArray.empty, .string ByteArray.empty]), 3, 40) := by kernel_rfl
theorem append_vr {ops : Array Oper} {rest : List Oper} {o : Oper} {a : Act} {Q : Exit → Act → World → Prop} (hgd : o.guard = none) (s x : Operand)
    (ho : o.op = .call { callee := .builtin .append, args := #[s, x], argTypes := #[64, 64] })
    (B : Nat) (wr : World) (v : Value) (l : List Vv) (hown : OwnV 69 .u64 wr B v l) (e : Vv) (hs : a.eval s = v)
    (q : Nat) (hq : q = wr.heap.size) (hx : a.eval x = .slice (some ⟨q, 0, none⟩) 1 1) (hlen : l.length ≤ 1000000) (hB : B ≤ wr.heap.size)
    (h : ∀ v' w', OwnV 69 .u64 w' B v' (l ++ [e]) → Below B wr w' → wpList Try.prog ops Q rest (a.put o.dst v') w') :
    wpList Try.prog ops Q (o :: rest) a (wr.alloc (.cells (e.cells .u64).toArray 69)) := by
  subst hq
  obtain ⟨i, hi, hz0, hz1, hz2⟩ := info_parts info_vr
  have hb : ∀ k, v.ownBlock = some k → B ≤ k := fun k hk => (World.ownsRow.lt hown k hk).1
  refine wpList_append_own (P := Try.prog) (wr.alloc (.cells (e.cells .u64).toArray 69)) hgd s x 64 ho B 69 i _ 3 40 Try.underlying64 hi hz0 hz1 hz2 rfl (by decide) v l.length (flatV .u64 l) hs (World.ownsRow.alloc hown _)
    ⟨wr.heap.size, 0, none⟩ 1 1 (e.cells .u64) hx rfl ?_ (e.one _) ?_ ?_ ?_ ?_
  · intro j u hj
    have hj5 : j < 3 := (List.getElem?_eq_some_iff.1 hj).1
    rw [add_at, Nat.zero_add, World.cell?_alloc_at _ _ _ _ (by simp)]
    simpa using hj
  · unfold maxLen; omega
  · omega
  · simp; omega
  · intro v' w' h1 h2 _
    refine h v' w' ?_ ?_
    · unfold OwnV
      rw [List.length_append, flatV_app]
      simpa [flatV] using h1
    · exact ((Below.refl B wr).alloc hB _).grown h2 (by simp; omega) hb
end Go.Proofs.Ytdclofiifcpkkaa
namespace Go.Proofs.Ytdclofiifcpkkaa
open Go.RowKit Go.PlainAid Go.Sort
set_option maxHeartbeats 1000000 in
set_option maxRecDepth 20000 in
theorem ve_two (w : World) (a : Nat) (v : Value) (X : List UInt8) (h : Arg w v X) (k : Nat) (hk : (k : Int) ≤ 18446744073709551615) :
    Calls Try.prog 65 #[.agg #[.int .u64 (a : Nat), v], .int .u64 (k : Nat)] w fun e w' => e = .returned (.int .u16 (rd X k 2 : Nat)) ∧ Below w.heap.size w w' := by
  have HB : Hid (Below w.heap.size w (w.alloc (.cells #[.int .u64 (a : Nat), v] 135))) := (Below.refl _ w).alloc (Nat.le_refl _) _
  have hU := le_U16_all _ v X (h.below' HB.out) k hk
  have e : vN X k 2 = rd X k 2 := rfl
  rw [e] at hU
  obtain ⟨b, cap, rfl, _⟩ := h.isSlice
  generalize rd X k 2 = n at *
  generalize eN X k 2 = q at *
  generalize X.length = xl at *
  clear h e
  go_enter Try.func65, Try.ntmps65
  go_wp2_with fail
  refine hU.mono ?_
  rintro e w1 ⟨rfl, rfl⟩
  go_wp2
  go_ret
  exact ⟨rfl, HB.out⟩
set_option maxHeartbeats 1000000 in
set_option maxRecDepth 20000 in
theorem ve_four (w : World) (a : Nat) (v : Value) (X : List UInt8) (h : Arg w v X) (k : Nat) (hk : (k : Int) ≤ 18446744073709551615) :
    Calls Try.prog 64 #[.agg #[.int .u64 (a : Nat), v], .int .u64 (k : Nat)] w fun e w' => e = .returned (.int .u32 (rd X k 4 : Nat)) ∧ Below w.heap.size w w' := by
  have HB : Hid (Below w.heap.size w (w.alloc (.cells #[.int .u64 (a : Nat), v] 135))) := (Below.refl _ w).alloc (Nat.le_refl _) _
  have hU := le_U32_all _ v X (h.below' HB.out) k hk
  have e : vN X k 4 = rd X k 4 := rfl
  rw [e] at hU
  obtain ⟨b, cap, rfl, _⟩ := h.isSlice
  generalize rd X k 4 = n at *
  generalize eN X k 4 = q at *
  generalize X.length = xl at *
  clear h e
  go_enter Try.func64, Try.ntmps64
  go_wp2_with fail
  refine hU.mono ?_
  rintro e w1 ⟨rfl, rfl⟩
  go_wp2
  go_ret
  exact ⟨rfl, HB.out⟩
/-- What goes along the records. -/
def rdC (b : Value) (m : Nat) (v : Value) (d r : Ph) (vs vf : Value) : List Value := b :: (hdCells m v d r ++ [vs, vf])
theorem list16 (cs : List Value) (h : cs.length = 16) : ∃ h0 h1 h2 h3 h4 h5 h6 h7 h8 h9 h10 h11 h12 h13 h14 h15, cs = [h0, h1, h2, h3, h4, h5, h6, h7, h8, h9, h10, h11, h12, h13, h14, h15] := by
  match cs, h with
  | [h0, h1, h2, h3, h4, h5, h6, h7, h8, h9, h10, h11, h12, h13, h14, h15], _ => exact ⟨h0, h1, h2, h3, h4, h5, h6, h7, h8, h9, h10, h11, h12, h13, h14, h15, rfl⟩
theorem rec_size : ∀ w, (Go.sizeOf 135).run Try.prog w = .ok 2 w := Try.sizeOf135
theorem at_storeT {T : TypeId} {ops : Array Oper} {rest : List Oper} {a : Act} {Q : Exit → Act → World → Prop} {w : World} {ty : TypeId} {x y : Operand} {ps : String} {af : Array Edge}
    (h : wpList Try.prog ops Q ({ dst := none, op := .store T x y, type := ty, pos := ps, after := af, guard := none } :: rest) a w) : wpList Try.prog ops Q ({ dst := none, op := .store T x y, type := ty, pos := ps, after := af, guard := none } :: rest) a w := h
set_option maxHeartbeats 4000000 in
set_option maxRecDepth 20000 in
theorem ve_record (w : World) (g : Nat) (ba : Option Addr) (bn bc : Nat) (l : List UInt8) (hb : Arg w (.slice ba bn bc) l) (m : Nat) (va : Option Addr) (vn vc : Nat) (d r : Ph) (ps : List Ph) (h : ArgH w (.slice va vn vc) ps) (ok : ∀ p ∈ ps, p.ok)
    (vs vf : Value) (hg : w.heap[g]? = some (.cells (rdC (.slice ba bn bc) m (.slice va vn vc) d r vs vf).toArray 103 (0, 0))) (f k s : Nat) (hf : f + k < 18446744073709551616) (hk : k < 4294967296) (hs : s < 18446744073709551616) :
    Calls Try.prog 63 #[.pointer (some ⟨g, 0, none⟩), .int .u64 (f : Nat), .int .u32 (k : Nat), .int .u64 (s : Nat)] w fun e w' =>
      (∃ xa xn xc, e = .returned (.tuple #[.agg #[.int .u64 (f + k : Nat), .slice xa xn xc], .bool (rcB l ps (f + k) s)]) ∧ Own w' w.heap.size (.slice xa xn xc) (rc l ps (f + k) s)) ∧ Below w.heap.size w w' := by
  have HB : Hid (Below w.heap.size w (w.alloc (.cells #[.int .u64 0, .slice none 0 0] 135))) := (Below.refl _ w).alloc (Nat.le_refl _) _
  have HR : Hid ((w.alloc (.cells #[.int .u64 0, .slice none 0 0] 135)).heap[w.heap.size]? = some (.cells #[.int .u64 0, .slice none 0 0] 135 (0, 0))) := heap_alloc_new _ _
  have HG := hide (block_stay hg HB.out)
  have HA := hide (hb.below' HB.out)
  have HH := hide (h.below HB.out)
  have hne : g < w.heap.size := (Array.getElem?_eq_some_iff.1 hg).1
  have HL : Hid (l.length ≤ 140737488351232) := by obtain ⟨_, _, _, _, _, hl⟩ := hb.isSlice; exact hl
  have HNE := hide hne
  have HOK := hide ok
  unfold rc rcB
  have HPL : Hid (((partZ l ps (f + k) s).1).length ≤ 140737488351232) := by
    have e : (partZ l ps (f + k) s).1.length ≤ l.length := by
      unfold partZ
      split
      · unfold win; rw [List.length_take, List.length_drop]; omega
      · simp
    exact Nat.le_trans e HL.out
  obtain ⟨⟨X, xb⟩, hX⟩ : ∃ X, partZ l ps (f + k) s = X := ⟨_, rfl⟩
  rw [hX] at HPL ⊢
  simp only at HPL ⊢
  have HX := hide hX
  clear hX
  clear hb h hg ok hne
  go_enter Try.func63, Try.ntmps63
  go_wp2_with fail
  generalize hw1 : w.alloc _ = w1 at *
  have HS1 : Hid (w1.heap.size = w.heap.size + 1) := by rw [Hid, ← hw1]; simp
  have HW := hide hw1
  clear hw1
  obtain ⟨cs, hcs⟩ : ∃ cs, hdCells m (.slice va vn vc) d r = cs := ⟨_, rfl⟩
  have hD : Below w1.heap.size w1 w1.drew := (Below.refl _ _).drew
  have hP := head_Part w1.drew (.slice ba bn bc) l (HA.out.below' hD) m (.slice va vn vc) d r ps (HH.out.below hD) HOK.out (f + k) s hf hs
  rw [hcs] at hP
  have hl16 : cs.length = 16 := by rw [← hcs]; rfl
  have hone : ∀ v ∈ cs, v.oneCell' = true := by rw [← hcs]; exact hd_one _ _ _ _ _ _
  have hG2 := HG.out
  unfold rdC at hG2
  rw [hcs] at hG2
  obtain ⟨h0, h1, h2, h3, h4, h5, h6, h7, h8, h9, h10, h11, h12, h13, h14, h15, rfl⟩ := list16 cs hl16
  have hSA : ∀ W : World, W.heap[g]? = w1.heap[g]? → W.cell? ⟨g, 0, none⟩ = some (.slice ba bn bc) ∧ W.cell? ⟨g, 1, none⟩ = some h0 ∧ W.cell? ⟨g, 2, none⟩ = some h1 ∧ W.cell? ⟨g, 3, none⟩ = some h2 ∧ W.cell? ⟨g, 4, none⟩ = some h3 ∧ W.cell? ⟨g, 5, none⟩ = some h4 ∧ W.cell? ⟨g, 6, none⟩ = some h5 ∧ W.cell? ⟨g, 7, none⟩ = some h6 ∧ W.cell? ⟨g, 8, none⟩ = some h7 ∧ W.cell? ⟨g, 9, none⟩ = some h8 ∧ W.cell? ⟨g, 10, none⟩ = some h9 ∧ W.cell? ⟨g, 11, none⟩ = some h10 ∧ W.cell? ⟨g, 12, none⟩ = some h11 ∧ W.cell? ⟨g, 13, none⟩ = some h12 ∧ W.cell? ⟨g, 14, none⟩ = some h13 ∧ W.cell? ⟨g, 15, none⟩ = some h14 ∧ W.cell? ⟨g, 16, none⟩ = some h15 := fun W hW => by
    rw [hG2] at hW
    exact ⟨cells_of_block hW 0 _ rfl, cells_of_block hW 1 _ rfl, cells_of_block hW 2 _ rfl, cells_of_block hW 3 _ rfl, cells_of_block hW 4 _ rfl, cells_of_block hW 5 _ rfl, cells_of_block hW 6 _ rfl, cells_of_block hW 7 _ rfl, cells_of_block hW 8 _ rfl, cells_of_block hW 9 _ rfl, cells_of_block hW 10 _ rfl, cells_of_block hW 11 _ rfl, cells_of_block hW 12 _ rfl, cells_of_block hW 13 _ rfl, cells_of_block hW 14 _ rfl, cells_of_block hW 15 _ rfl, cells_of_block hW 16 _ rfl⟩
  have HSA := hide hSA
  have hSD := hSA w1.drew rfl
  have HPW := hide hP
  rw [HX.out] at hP
  simp only at hP
  have hkI : (k : Int) ≤ 4294967295 := by omega
  have hfI : (f : Int) + (k : Int) ≤ 18446744073709551615 := by omega
  clear hcs HX hf hk hs hD HA HH HOK HL hG2 hSA HPW hone hl16
  go_region_held_law (fun w' => w'.cell? ⟨g, 0, none⟩ = some (.slice ba bn bc) ∧ w'.cell? ⟨g, 1, none⟩ = some h0 ∧ w'.cell? ⟨g, 2, none⟩ = some h1 ∧ w'.cell? ⟨g, 3, none⟩ = some h2 ∧ w'.cell? ⟨g, 4, none⟩ = some h3 ∧ w'.cell? ⟨g, 5, none⟩ = some h4 ∧ w'.cell? ⟨g, 6, none⟩ = some h5 ∧ w'.cell? ⟨g, 7, none⟩ = some h6 ∧ w'.cell? ⟨g, 8, none⟩ = some h7 ∧ w'.cell? ⟨g, 9, none⟩ = some h8 ∧ w'.cell? ⟨g, 10, none⟩ = some h9 ∧ w'.cell? ⟨g, 11, none⟩ = some h10 ∧ w'.cell? ⟨g, 12, none⟩ = some h11 ∧ w'.cell? ⟨g, 13, none⟩ = some h12 ∧ w'.cell? ⟨g, 14, none⟩ = some h13 ∧ w'.cell? ⟨g, 15, none⟩ = some h14 ∧ w'.cell? ⟨g, 16, none⟩ = some h15)
    (first | with_reducible assumption)
    (first
      | (go_at_call 15; refine hP.mono ?_; rintro e W3 ⟨⟨v3, rfl, own3⟩, hb3⟩; have hq1 := HSA.out W3 (hb3.block g (by have := HNE.out; have := HS1.out; show g < w1.heap.size; omega)); have HO3 := hide own3; have HB3 := hide hb3; clear own3 hb3))
  obtain ⟨xa, xn, xc, rfl⟩ : ∃ xa xn xc, v3 = .slice xa xn xc := by obtain ⟨xa, xc, e, _⟩ := (HO3.out.arg HPL.out).isSlice; exact ⟨_, _, _, e⟩
  have HR3 : Hid (W3.heap[w.heap.size]? = some (.cells #[.int .u64 0, .slice none 0 0] 135 (0, 0))) := (HB3.out.block _ (show w.heap.size < w1.heap.size by have := HS1.out; omega)).trans HR.out
  have HBW : Hid (Below w.heap.size w W3) := HB.out.trans ⟨HB3.out.os, HB3.out.tape, HB3.out.output, HB3.out.size, fun q hq => HB3.out.block q (show q < w1.heap.size by have := HS1.out; omega)⟩
  have hge : (f : Int) ≤ (f : Int) + (k : Int) := by omega
  clear hq1 HB3 HB HR HG HW hSD HSA HNE
  cases xb
  all_goals
    go_wp2_with ((with_reducible refine at_storeT ?_); refine store_part rfl _ _ _ rfl w.heap.size 0 135 _ [.int .u64 ((f : Int) + (k : Int)), .slice xa xn xc] #[.int .u64 ((f : Int) + (k : Int)), .slice xa xn xc] HR3.out rfl rfl rec_size (by intro u hu; simp only [List.mem_cons, List.not_mem_nil, or_false] at hu; rcases hu with rfl | rfl <;> rfl) (Nat.le_refl 2) (by rfl) ?_)
    intro wz hgz hbz
    have HBy := hide (grown_below (Nat.le_refl _) HBW.out hbz)
    have HGy := hide hgz
    have HAz := hide ((HO3.out.apart hbz (fun q hq e => by have h1 : w1.heap.size ≤ q := (World.ownsRow.lt HO3.out q hq).1; have := HS1.out; injection e with e; omega)).low (show w.heap.size ≤ w1.heap.size by have := HS1.out; omega))
    clear hgz hbz
    go_wp2
    refine bodyPost_ret (results_cell2 rfl _ _ w.heap.size _ _ _ _ rfl HGy.out Try.underlying135 rfl (by kernel_rfl)) rfl ?_
    refine ⟨⟨xa, xn, xc, ?_, HAz.out⟩, HBy.out⟩
    rw [Int.natCast_add]
    rfl
end Go.Proofs.Ytdclofiifcpkkaa
namespace Go.Proofs.Ytdclofiifcpkkaa
open Go.RowKit Go.PlainAid Go.Sort
set_option maxHeartbeats 1000000 in
set_option maxRecDepth 20000 in
theorem ve_text (w : World) (g : Nat) (b : Value) (m : Nat) (v : Value) (d r : Ph) (sa : Option Addr) (sn sc : Nat) (S : List UInt8) (hs : Arg w (.slice sa sn sc) S) (vf : Value)
    (hg : w.heap[g]? = some (.cells (rdC b m v d r (.slice sa sn sc) vf).toArray 103 (0, 0))) (p : Nat) (hp : p < 4294967296) :
    Calls Try.prog 66 #[.pointer (some ⟨g, 0, none⟩), .int .u32 (p : Nat)] w fun e w' => e = .returned (.tuple #[.string (txb (txtS S p)), .bool (txtB S p)]) ∧ Below w.heap.size w w' := by
  have hT := le_Text w (.slice sa sn sc) S hs p (by omega)
  have c17 := cells_of_block hg 17 (.slice sa sn sc) rfl
  have hpI : (p : Int) ≤ 4294967295 := by omega
  unfold txtS txtB txb
  obtain ⟨⟨t, q⟩, hTT⟩ : ∃ T, textAt S p = T := ⟨_, rfl⟩
  rw [hTT] at hT ⊢
  simp only at hT ⊢
  clear hTT hs hg hp
  by_cases hq : q = 0
  · subst hq
    cases t with
    | nil =>
      go_enter Try.func66, Try.ntmps66
      go_wp2_with fail
      refine hT.mono ?_
      rintro e w1 ⟨rfl, hb1⟩
      have HB := hide hb1
      clear hT hb1 c17
      go_wp2
      go_ret2
      exact ⟨rfl, HB.out⟩
    | cons x y =>
      have hxe : (x :: y).isEmpty = false := rfl
      have hxb : ((x :: y) == []) = false := rfl
      rw [hxe]
      generalize (x :: y) = t at *
      go_enter Try.func66, Try.ntmps66
      go_wp2_with fail
      refine hT.mono ?_
      rintro e w1 ⟨rfl, hb1⟩
      have HB := hide hb1
      clear hT hb1 c17
      go_wp2
      go_ret2
      exact ⟨rfl, HB.out⟩
  · have hqb : (q == 0) = false := by simpa using hq
    rw [decide_eq_false hq, Bool.false_and]
    clear hq
    go_enter Try.func66, Try.ntmps66
    go_wp2_with fail
    refine hT.mono ?_
    rintro e w1 ⟨rfl, hb1⟩
    have HB := hide hb1
    clear hT hb1 c17
    go_wp2
    go_ret2
    exact ⟨rfl, HB.out⟩
/-- Which version is the first that is meant. -/
def ixV (p : Vv → Bool) (zs : List Vv) : Int := match zs.findIdx? p with | none => -1 | some i => i
theorem ixV_at {p : Vv → Bool} {zs : List Vv} (i : Nat) (h : i < zs.length) (hp : p zs[i] = true) (hn : ∀ j (hj : j < i), p (zs[j]'(by omega)) = false) : ixV p zs = i := by
  unfold ixV
  rw [List.findIdx?_eq_some_iff_getElem.2 ⟨h, hp, fun j hj => by rw [hn j hj]; simp⟩]
theorem ixV_none {p : Vv → Bool} {zs : List Vv} (hn : ∀ j (hj : j < zs.length), p zs[j] = false) : ixV p zs = -1 := by
  unfold ixV
  rw [List.findIdx?_eq_none_iff.2 (fun x hx => by obtain ⟨j, hj, rfl⟩ := List.getElem_of_mem hx; rw [hn j hj])]
theorem ixV_any (p : Vv → Bool) (zs : List Vv) : decide (0 ≤ ixV p zs) = zs.any p := by
  unfold ixV
  cases h : zs.findIdx? p with
  | none =>
    rw [List.findIdx?_eq_none_iff] at h
    simp only
    rw [eq_comm, decide_eq_false (by omega), List.any_eq_false]
    intro x hx; rw [h x hx]; simp
  | some i =>
    obtain ⟨h1, h2, _⟩ := List.findIdx?_eq_some_iff_getElem.1 h
    simp only
    rw [eq_comm, decide_eq_true (by omega), List.any_eq_true]
    exact ⟨_, List.getElem_mem h1, h2⟩
set_option maxHeartbeats 2000000 in
set_option maxRecDepth 20000 in
theorem lib_IndexV (w : World) (G : Nat) (cb : Array Value) (p : Vv → Bool) (eg : ∀ args w, (callFunc G args).run Try.prog w = .ok (.enter G args) w) (v : Value) (zs : List Vv) (hz : ArgV .u16 w v zs)
    (hf : ∀ (W : World) (s : Vv), s ∈ zs → Below w.heap.size w W → Calls Try.prog G (#[.agg (s.cells .u16).toArray] ++ cb) W fun e w' => e = .returned (.bool (p s)) ∧ Below w.heap.size w w') :
    Calls Try.prog 48 #[v, .func (.func G) #[] cb] w fun e w' => e = .returned (.int .i64 (ixV p zs)) ∧ Below w.heap.size w w' := by
  have HF : Hid _ := hf
  have HZ := hide hz
  obtain ⟨a, n, c, rfl, hn⟩ : ∃ a n c, v = .slice a n c ∧ zs.length = n := by obtain ⟨a, c, e⟩ := hz.form; exact ⟨a, _, c, e, rfl⟩
  have hnl : n ≤ 65536 := by rw [← hn]; exact hz.1
  have HN := hide hn
  clear hf hz hn
  go_enter Try.func48, Try.ntmps48
  go_wp2
  go_loopw [5, 8] (fun _ vi wr => ∃ i : Nat, i ≤ n ∧ vi = .int .i64 i ∧ Hid (Below w.heap.size w wr) ∧ Hid (∀ j (hj : j < zs.length), j < i → p zs[j] = false)) (fun _ vi _ => n - (intOf vi).toNat)
  case atStart => exact ⟨0, by omega, rfl, Below.refl _ _, fun j _ h => absurd h (by omega)⟩
  case round =>
    obtain ⟨i, hi, rfl, HB, HA⟩ := hrel
    by_cases hlt : i < n
    · have hltI : (i : Int) < (n : Int) := by omega
      have hil : i < zs.length := by rw [HN.out]; exact hlt
      obtain ⟨g, rfl, p1, p2, _, y0, y1, y2⟩ := (HZ.out.below HB.out).at i hil
      rw [HN.out] at p1
      have hcall := HF.out wr zs[i] (List.getElem_mem hil) HB.out
      cases hp : p zs[i] with
      | true =>
        rw [hp] at hcall
        have HX : Hid (ixV p zs = i) := ixV_at i hil hp (fun j hj => HA.out j (by omega) hj)
        clear hp
        unfold Vv.cells at hcall
        generalize zs[i] = s at *
        go_wp2_with (first | (go_at_fn G; refine hcall.mono ?_; rintro e w1 ⟨rfl, hb⟩))
        go_ret
        exact ⟨by rw [HX.out]; rfl, hb⟩
      | false =>
        rw [hp] at hcall
        have HX : Hid (∀ j (hj : j < zs.length), j < i + 1 → p zs[j] = false) := fun j hj h => by
          by_cases e : j = i
          · subst e; exact hp
          · exact HA.out j hj (by omega)
        clear hp
        unfold Vv.cells at hcall
        generalize zs[i] = s at *
        go_wp2_with (first | (go_at_fn G; refine hcall.mono ?_; rintro e w1 ⟨rfl, hb⟩))
        go_roundw
        case rel => exact ⟨i + 1, by omega, by go_num, hb, HX⟩
        case measure => simp [intOf]; omega
    · have hltI : ¬ (i : Int) < (n : Int) := by omega
      have HX : Hid (ixV p zs = -1) := ixV_none (fun j hj => HA.out j hj (by have := HN.out; omega))
      go_wp2
      go_ret
      exact ⟨by rw [HX.out]; rfl, HB.out⟩
set_option maxHeartbeats 1000000 in
theorem lib_ContainsV (w : World) (G : Nat) (cb : Array Value) (p : Vv → Bool) (eg : ∀ args w, (callFunc G args).run Try.prog w = .ok (.enter G args) w) (v : Value) (zs : List Vv) (hz : ArgV .u16 w v zs)
    (hf : ∀ (W : World) (s : Vv), s ∈ zs → Below w.heap.size w W → Calls Try.prog G (#[.agg (s.cells .u16).toArray] ++ cb) W fun e w' => e = .returned (.bool (p s)) ∧ Below w.heap.size w w') :
    Calls Try.prog 80 #[v, .func (.func G) #[] cb] w fun e w' => e = .returned (.bool (zs.any p)) ∧ Below w.heap.size w w' := by
  have hI := lib_IndexV w G cb p eg v zs hz hf
  have hA := ixV_any p zs
  obtain ⟨a, c, rfl⟩ := hz.form
  generalize zs.any p = A at *
  have HA := hide hA
  generalize ixV p zs = x at *
  generalize zs.length = zn at *
  clear hf hz hA
  go_enter Try.func80, Try.ntmps80
  go_wp2_with (go_at_call 48; refine hI.mono ?_; rintro e w1 ⟨rfl, hb⟩)
  go_ret
  exact ⟨by rw [← HA.out]; rfl, hb⟩
set_option maxHeartbeats 1000000 in
theorem ve_add1 (w : World) (s : Vv) (B n : Nat) (hB : w.cell? ⟨B, 0, none⟩ = some (.int .u16 (n : Nat))) :
    Calls Try.prog 81 #[.agg (s.cells .u16).toArray, .pointer (some ⟨B, 0, none⟩)] w fun e w' => e = .returned (.bool (decide (s.num = n))) ∧ Below w.heap.size w w' := by
  have hb : Below w.heap.size w (w.alloc (.cells (s.cells .u16).toArray 114)) := (Below.refl _ w).alloc (Nat.le_refl _) _
  have hlt2 : B < w.heap.size := World.block_lt_of_cell? _ _ hB
  have HB : Hid _ := hb
  have he : ((s.num : Int) == (n : Int)) = decide (s.num = n) := by
    by_cases c : s.num = n
    · rw [decide_eq_true c]; simp; omega
    · rw [decide_eq_false c]; simp; omega
  unfold Vv.cells at *
  generalize decide (s.num = n) = q at *
  generalize s.num = k at *
  clear hb
  go_enter Try.func81, Try.ntmps81
  go_wp2
  go_ret
  exact ⟨rfl, HB.out⟩
end Go.Proofs.Ytdclofiifcpkkaa
namespace Go.Proofs.Ytdclofiifcpkkaa
open Go.RowKit Go.PlainAid Go.Sort
/-- What goes along the records, as data. -/
structure Rp where
  ba : Option Addr
  bn : Nat
  bc : Nat
  m : Nat
  va : Option Addr
  vn : Nat
  vc : Nat
  d : Ph
  r : Ph
  sa : Option Addr
  sn : Nat
  sc : Nat
  l : List UInt8
  ps : List Ph
  S : List UInt8
def Rp.cells (q : Rp) (vf : Value) : List Value := rdC (.slice q.ba q.bn q.bc) q.m (.slice q.va q.vn q.vc) q.d q.r (.slice q.sa q.sn q.sc) vf
structure Rk (w0 : World) (q : Rp) : Prop where
  b : Arg w0 (.slice q.ba q.bn q.bc) q.l
  h : ArgH w0 (.slice q.va q.vn q.vc) q.ps
  ok : ∀ p ∈ q.ps, p.ok
  lo : ∀ p ∈ q.ps, p.vaddr + p.filesz ≤ 16384
  s : Arg w0 (.slice q.sa q.sn q.sc) q.S
structure RdAt (w0 W : World) (q : Rp) (vf : Value) (F : List Vv) : Prop where
  bel : Below w0.heap.size w0 W
  blk : W.heap[w0.heap.size]? = some (.cells (q.cells vf).toArray 103 (0, 0))
  own : OwnV 114 .u16 W (w0.heap.size + 1) vf F
  len : F.length ≤ 32
theorem RdAt.stay {w0 W W' : World} {q : Rp} {vf : Value} {F : List Vv} (h : RdAt w0 W q vf F) (hb : Below W.heap.size W W') : RdAt w0 W' q vf F :=
  ⟨h.bel.trans (hb.mono h.bel.size), block_stay h.blk hb, h.own.stay hb, h.len⟩
theorem RdAt.lt {w0 W : World} {q : Rp} {vf : Value} {F : List Vv} (h : RdAt w0 W q vf F) : w0.heap.size < W.heap.size := (Array.getElem?_eq_some_iff.1 h.blk).1
theorem RdAt.form {w0 W : World} {q : Rp} {vf : Value} {F : List Vv} (h : RdAt w0 W q vf F) : ∃ a n c, vf = .slice a n c ∧ F.length = n := by
  obtain ⟨a, c, e⟩ := h.own.form
  exact ⟨a, _, c, e, rfl⟩
/-- What is turned while something is taken: the gatherer's own block, and that of what is gathered. -/
structure Tk (g : Nat) (v v' : Value) (W W' : World) : Prop where
  size : W.heap.size ≤ W'.heap.size
  block : ∀ k, k < W.heap.size → k ≠ g → v.ownBlock ≠ some k → W'.heap[k]? = W.heap[k]?
  next : ∀ k, v'.ownBlock = some k → v.ownBlock = some k ∨ W.heap.size ≤ k
theorem Tk.refl (g : Nat) (v : Value) (W : World) : Tk g v v W W := ⟨Nat.le_refl _, fun _ _ _ _ => rfl, fun _ h => .inl h⟩
theorem Tk.trans {g : Nat} {v v' v'' : Value} {W W' W'' : World} (h : Tk g v v' W W') (h' : Tk g v' v'' W' W'') : Tk g v v'' W W'' := by
  refine ⟨Nat.le_trans h.size h'.size, fun k hk hg hv => ?_, fun k hk => ?_⟩
  · rw [h'.block k (Nat.lt_of_lt_of_le hk h.size) hg (fun e => by rcases h.next k e with q | q; exact hv q; omega)]
    exact h.block k hk hg hv
  · rcases h'.next k hk with e | e
    · exact h.next k e
    · exact .inr (Nat.le_trans h.size e)
theorem Tk.of_below {W W' : World} (hb : Below W.heap.size W W') (g : Nat) (v : Value) : Tk g v v W W' := ⟨hb.size, fun k hk _ _ => hb.block k hk, fun _ h => .inl h⟩
/-- What is answered, where something is taken. -/
def TkIs (w0 W : World) (q : Rp) (vf : Value) (o : Option (List Vv)) (e : Ending) (w' : World) : Prop :=
  match o with
  | none => e = .returned (.bool false) ∧ Below w0.heap.size w0 w' ∧ ∃ vf', Tk w0.heap.size vf vf' W w'
  | some F => e = .returned (.bool true) ∧ ∃ vf', RdAt w0 w' q vf' F ∧ Tk w0.heap.size vf vf' W w'
theorem new_v (W : World) (v : Vv) : ∀ j u, (v.cells .u16)[j]? = some u → (W.alloc (.cells (v.cells .u16).toArray 114)).cell? ⟨W.heap.size, j, none⟩ = some u := fun j u h => by
  rw [World.cell?_alloc_at _ _ _ _ (by simp)]; simpa using h
theorem step_append_v {ops : Array Oper} {o : Oper} {a : Act} {W : World} {K : Act → World → Prop} {Q : Exit → Act → World → Prop} {E : Prop} (hgd : o.guard = none) (s x : Operand)
    (ho : o.op = .call { callee := .builtin .append, args := #[s, x], argTypes := #[54, 54] })
    (B : Nat) (v : Value) (l : List Vv) (n : Vv) (hown : OwnV 114 .u16 W B v l) (hs : a.eval s = v) (q c : Nat)
    (hx : a.eval x = .slice (some ⟨q, 0, none⟩) 1 c) (hq : ∀ j u, (n.cells .u16)[j]? = some u → W.cell? ⟨q, j, none⟩ = some u) (hlen : l.length ≤ 100000) (hB : B ≤ W.heap.size)
    (h : ∀ v' w', OwnV 114 .u16 w' B v' (l ++ [n]) → W.grownBy w' v.ownBlock → (v'.ownBlock = v.ownBlock ∨ v'.ownBlock = some W.heap.size) → K (a.put o.dst v') w') :
    if Region.wanted o (yielded ops a.tmps) = true then Oper.wp Try.prog o a W K Q else E := by
  have hw : Region.wanted o (yielded ops a.tmps) = true := by simp [Region.wanted, hgd]
  rw [if_pos hw]
  obtain ⟨i, hi, hz0, hz1, hz2⟩ := info_parts info_vp
  obtain ⟨v', w', hr, h2, h3, h4, h5⟩ := run_append_own_at (P := Try.prog) W B 54 o.type 114 i _ 3 40 Try.underlying54 hi hz0 hz1 hz2 rfl (by decide) v l.length (flatV .u16 l) hown ⟨q, 0, none⟩ 1 c (n.cells .u16) rfl
    (fun j u hj => by rw [add_at, Nat.zero_add]; exact hq j u hj) (n.one _) (by unfold maxLen; omega) (by omega) hB
  unfold Oper.wp execOp
  simp only [ho, resolve, invoke, builtin, Sem.run_bind, Sem.run_pure, Result.andThen_ok, List.map_toArray, List.map_cons, List.map_nil, hs, hx, hr]
  refine h v' w' ?_ h3 h5
  unfold OwnV
  rw [List.length_append, flatV_app]
  simpa [flatV] using h2
theorem read_eg : ∀ args w, (callFunc 81 args).run Try.prog w = .ok (.enter 81 args) w := fun args w => by kernel_rfl
end Go.Proofs.Ytdclofiifcpkkaa
namespace Go.Proofs.Ytdclofiifcpkkaa
open Go.RowKit Go.PlainAid Go.Sort
theorem OwnV.form3 {T : TypeId} {K : IntKind} {w : World} {B : Nat} {v : Value} {l : List Vv} (h : OwnV T K w B v l) : ∃ a n cap, v = .slice a n cap := by
  obtain ⟨a, c, e⟩ := h.form
  exact ⟨_, _, _, e⟩
theorem RdAt.put {w0 W W2 W3 : World} {q : Rp} {vf vf' : Value} {F F' : List Vv} (h : RdAt w0 W q vf F) (hs : W.heap.size ≤ W2.heap.size) (hb : Below W.heap.size W W2) (hg : W2.grownBy W3 vf.ownBlock) (ho : OwnV 114 .u16 W3 (w0.heap.size + 1) vf' F')
    (hn : vf'.ownBlock = vf.ownBlock ∨ vf'.ownBlock = some W2.heap.size) (hl : F'.length ≤ 32) (W4 : World) (h4 : W4 = W3.setCell ⟨w0.heap.size, 18, none⟩ vf') :
    RdAt w0 W4 q vf' F' ∧ Tk w0.heap.size vf vf' W W4 := by
  subst h4
  have hlt := h.lt
  have hvf : ∀ k, vf.ownBlock = some k → w0.heap.size + 1 ≤ k := fun k hk => (World.ownsRow.lt h.own k hk).1
  have hne : vf.ownBlock ≠ some w0.heap.size := fun e => by have := hvf _ e; omega
  have hb3 : W3.heap[w0.heap.size]? = some (.cells (q.cells vf).toArray 103 (0, 0)) := by
    rw [hg.block _ (by omega) (fun e => hne e.symm)]; exact block_stay h.blk hb
  have hset : (W3.setCell ⟨w0.heap.size, 18, none⟩ vf').heap[w0.heap.size]? = some (.cells (q.cells vf').toArray 103 (0, 0)) :=
    heap_setCell_at W3 w0.heap.size 18 vf' _ _ _ hb3
  have hoth : ∀ k, k ≠ w0.heap.size → (W3.setCell ⟨w0.heap.size, 18, none⟩ vf').heap[k]? = W3.heap[k]? := fun k hk => Below.heap_setCell _ _ _ _ hk
  have hsz : (W3.setCell ⟨w0.heap.size, 18, none⟩ vf').heap.size = W3.heap.size := by simp
  refine ⟨⟨⟨?_, ?_, ?_, ?_, fun k hk => ?_⟩, hset, ?_, hl⟩, ⟨?_, fun k hk h1 h2 => ?_, fun k hk => ?_⟩⟩
  · exact (hg.os.trans hb.os).trans h.bel.os
  · exact (hg.tape.trans hb.tape).trans h.bel.tape
  · exact (hg.output.trans hb.output).trans h.bel.output
  · rw [hsz]; have := hg.size; have := h.bel.size; omega
  · rw [hoth k (by omega), hg.block k (by omega) (fun e => by have := hvf k e.symm; omega), hb.block k (by omega)]
    exact h.bel.block k hk
  · unfold OwnV at ho ⊢
    refine ⟨ho.1, ?_⟩
    rcases ho.2 with hn | ⟨g, cap, cur, rfl, hB, hgg, rest⟩
    · exact .inl hn
    · exact .inr ⟨g, cap, cur, rfl, hB, by rw [hoth g (by omega)]; exact hgg, rest⟩
  · rw [hsz]; have := hg.size; omega
  · rw [hoth k h1, hg.block k (by omega) (fun e => h2 e.symm), hb.block k hk]
  · rcases hn with e | e
    · exact .inl (e ▸ hk)
    · rw [e] at hk; injection hk with hk; exact .inr (by omega)
set_option maxHeartbeats 4000000 in
set_option maxRecDepth 20000 in
theorem ve_add (w0 W : World) (q : Rp) (vf : Value) (F : List Vv) (h : RdAt w0 W q vf F) (v : Vv) (hv : v.num < 65536) :
    Calls Try.prog 67 #[.pointer (some ⟨w0.heap.size, 0, none⟩), .agg (v.cells .u16).toArray] W fun e w' => TkIs w0 W q vf (addO F v) e w' := by
  have hb1 : Below W.heap.size W (W.alloc (.cells (v.cells .u16).toArray 114)) := (Below.refl _ W).alloc (Nat.le_refl _) _
  have hZ : (W.alloc (.cells (v.cells .u16).toArray 114)).heap[W.heap.size]? = some (.cells (v.cells .u16).toArray 114 (0, 0)) := heap_alloc_new _ _
  have h1 := h.stay hb1
  have HL := hide h.len
  obtain ⟨fa, fn, fc, rfl, hfn⟩ := h.form
  have HF := hide hfn
  have hfl : fn ≤ 32 := by rw [← hfn]; exact h.len
  have HNL : Hid (w0.heap.size < W.heap.size) := h.lt
  have cz := cells_of_block hZ 0 (.int .u16 v.num) rfl
  have hC := lib_ContainsV (W.alloc (.cells (v.cells .u16).toArray 114)) 81 #[.pointer (some ⟨W.heap.size, 0, none⟩)] (fun o => decide (o.num = v.num)) read_eg (.slice fa fn fc) F (h1.own.arg (by have := h.len; omega))
    (fun X s _ hX => (ve_add1 X s W.heap.size v.num ((hX.cell (p := ⟨W.heap.size, 0, none⟩) (World.block_lt_of_cell? _ _ cz)).trans cz)).mono (fun e w' hh => ⟨hh.1, hX.trans (hh.2.mono hX.size)⟩))
  have c18 := cells_of_block h1.blk 18 (.slice fa fn fc) rfl
  have HB1 := hide hb1
  have H1 := hide h1
  have HZ := hide hZ
  have H0 := hide h
  have hnI : (v.num : Int) ≤ 65535 := by omega
  clear h h1 hb1 hfn hv cz hZ
  have HA : Hid (addO F v = if addB F v then some (F ++ [v]) else none) := rfl
  have HAB : Hid (addB F v = (!(F.any fun o => decide (o.num = v.num)) && decide (2 ≤ v.num) && decide (v.num ≤ 32767) && !decide (F.length = 32))) := rfl
  rw [HF.out] at HAB
  generalize (F.any fun o => decide (o.num = v.num)) = A at *
  unfold Vv.cells at *
  go_enter Try.func67, Try.ntmps67
  go_wp2_with fail
  refine hC.mono ?_
  rintro e W2 ⟨rfl, hb2⟩
  have H2 := hide (H1.out.stay hb2)
  have HZ2 := hide (block_stay HZ.out hb2)
  have HB2 := hide (HB1.out.trans (hb2.mono HB1.out.size))
  have z0 := cells_of_block HZ2.out 0 (.int .u16 v.num) rfl
  have d18 := cells_of_block H2.out.blk 18 (.slice fa fn fc) rfl
  have HBW : Hid (Below w0.heap.size w0 W2) := H2.out.bel
  clear hC hb2 c18 H1 HZ HB1
  by_cases hbad : addB F v = false
  · have HR : Hid (addO F v = none) := by rw [Hid, HA.out, hbad]; rfl
    have hcs : A = true ∨ (A = false ∧ (v.num : Int) < 2) ∨ (A = false ∧ ¬ (v.num : Int) < 2 ∧ (32767 : Int) < (v.num : Int)) ∨ (A = false ∧ ¬ (v.num : Int) < 2 ∧ ¬ (32767 : Int) < (v.num : Int) ∧ fn = 32) := by
      rw [HAB.out] at hbad
      cases A with
      | true => exact .inl rfl
      | false =>
        by_cases x1 : v.num < 2
        · exact .inr (.inl ⟨rfl, by omega⟩)
        · by_cases x2 : 32767 < v.num
          · exact .inr (.inr (.inl ⟨rfl, by omega, by omega⟩))
          · by_cases x3 : fn = 32
            · exact .inr (.inr (.inr ⟨rfl, by omega, by omega, x3⟩))
            · rw [decide_eq_true (show 2 ≤ v.num by omega), decide_eq_true (show v.num ≤ 32767 by omega), decide_eq_false x3] at hbad
              cases hbad
    have HFIN : Hid (TkIs w0 W q (.slice fa fn fc) (addO F v) (.returned (.bool false)) W2) := by rw [Hid, HR.out]; exact ⟨rfl, HBW.out, _, Tk.of_below HB2.out _ _⟩
    clear hbad HA HAB HR HF
    rcases hcs with rfl | ⟨rfl, x1⟩ | ⟨rfl, x1, x2⟩ | ⟨rfl, x1, x2, rfl⟩
    all_goals
      go_wp2
      go_ret
      exact HFIN.out
  · have hT : addB F v = true := by cases hh : addB F v; exact absurd hh hbad; rfl
    have HR : Hid (addO F v = some (F ++ [v])) := by rw [Hid, HA.out, hT]; rfl
    rw [HAB.out] at hT
    simp only [Bool.and_eq_true, Bool.not_eq_true', decide_eq_true_eq, decide_eq_false_iff_not] at hT
    obtain ⟨⟨⟨rfl, x1⟩, x2⟩, x3⟩ := hT
    have i1 : ¬ (v.num : Int) < 2 := by omega
    have i2 : ¬ (32767 : Int) < (v.num : Int) := by omega
    have i3 : ((fn : Int) == 32) = false := by simp; omega
    have HFL : Hid ((F ++ [v]).length ≤ 32) := by have := HL.out; have := HF.out; unfold Hid; rw [List.length_append]; simp; omega
    clear hbad HA HAB x1 x2 x3
    go_wp2_with fail
    have a18 : W2.drew.cell? ⟨w0.heap.size, 18, none⟩ = some (.slice fa fn fc) := d18
    have y0 : W2.drew.cell? ⟨W.heap.size, 0, none⟩ = some (.int .u16 v.num) := z0
    have y1 : W2.drew.cell? ⟨W.heap.size, 1, none⟩ = some (.string (txb v.name)) := cells_of_block (w := W2.drew) HZ2.out 1 _ rfl
    have y2 : W2.drew.cell? ⟨W.heap.size, 2, none⟩ = some (.string (txb v.frm)) := cells_of_block (w := W2.drew) HZ2.out 2 _ rfl
    have HDA : Hid (∀ o, Below W2.heap.size W2 (W2.drew.alloc o)) := fun o => (Below.refl _ W2).drew.alloc (Nat.le_refl _) o
    have a18' : ∀ o, (W2.drew.alloc o).cell? ⟨w0.heap.size, 18, none⟩ = some (.slice fa fn fc) := fun o => cells_of_block (H2.out.stay (HDA.out o)).blk 18 _ rfl
    have a18b : ∀ o, (W2.alloc o).cell? ⟨w0.heap.size, 18, none⟩ = some (.slice fa fn fc) := fun o => cells_of_block (H2.out.stay ((Below.refl _ W2).alloc (Nat.le_refl _) o)).blk 18 _ rfl
    have HOA : Hid (∀ o, OwnV 114 .u16 (W2.drew.alloc o) (w0.heap.size + 1) (.slice fa fn fc) F) := fun o => (H2.out.stay (HDA.out o)).own
    have HBK : Hid (∀ o, (W2.drew.alloc o).heap[w0.heap.size]? = some (.cells (q.cells (.slice fa fn fc)).toArray 103 (0, 0))) := fun o => (H2.out.stay (HDA.out o)).blk
    have HBS : Hid (∀ o, w0.heap.size + 1 ≤ (W2.drew.alloc o).heap.size) := fun o => (H2.out.stay (HDA.out o)).lt
    have HNB : Hid ((Value.slice fa fn fc).ownBlock ≠ some w0.heap.size) := fun e => by have := (World.ownsRow.lt H2.out.own _ e).1; omega
    have HNW := hide (new_v W2.drew v)
    unfold Vv.cells at HNW
    clear z0 d18
    go_region_law (refine step_append_v rfl (.tmp 35) (.tmp 37) rfl (w0.heap.size + 1) _ F v (HOA.out _) rfl _ 1 rfl HNW.out (by have := HL.out; omega) (HBS.out _) ?_; intro v6 W6 r6 g6 n6; have HR6 := hide r6; have HG6 := hide g6; have HN6 := hide n6; have b6 := (g6.block w0.heap.size (HBS.out _) (fun e => HNB.out e.symm)).trans (HBK.out _); have c6 := cells_of_block b6 18 (.slice fa fn fc) rfl; have f6 := block_soft b6 18; obtain ⟨fa6, fn6, fc6, hv6⟩ := r6.form3; subst hv6; clear r6 g6 n6 b6)
    all_goals
      have HP := hide (H0.out.put (Nat.le_trans HB2.out.size (HDA.out _).size) (HB2.out.trans ((HDA.out _).mono HB2.out.size)) HG6.out HR6.out HN6.out HFL.out _ rfl)
      clear a18 a18' a18b y0 y1 y2 HDA HOA HBK HBS HNB HNW c6 f6 HR6 HG6 HN6
      go_wp2
      go_ret
      rw [HR.out]
      exact ⟨rfl, _, HP.out⟩
end Go.Proofs.Ytdclofiifcpkkaa
namespace Go.Proofs.Ytdclofiifcpkkaa
open Go.RowKit Go.PlainAid Go.Sort
theorem offN_lo {ps : List Ph} (lo : ∀ p ∈ ps, p.vaddr + p.filesz ≤ 16384) (x s : Nat) (h : (offN ps x s).2 = true) : x + s ≤ 16384 := by
  induction ps with
  | nil => cases h
  | cons p t ih =>
    rw [offN] at h
    split at h
    · rename_i hi
      unfold insN at hi
      have := lo p List.mem_cons_self
      have := of_decide_eq_true hi
      omega
    · exact ih (fun p hp => lo p (List.mem_cons_of_mem _ hp)) h
theorem rc_len (l : List UInt8) (ps : List Ph) (x s : Nat) : (rc l ps x s).length ≤ l.length := by
  unfold rc partZ
  split
  · unfold win; rw [List.length_take, List.length_drop]; omega
  · simp
theorem rc_lo {l : List UInt8} {ps : List Ph} (lo : ∀ p ∈ ps, p.vaddr + p.filesz ≤ 16384) {x s : Nat} (h : rcB l ps x s = true) : x + s ≤ 16384 := by
  unfold rcB partZ at h
  split at h
  · rename_i hc; exact offN_lo lo x s hc.1
  · cases h
theorem RdAt.record {w0 W : World} {q : Rp} (hk : Rk w0 q) {vf : Value} {F : List Vv} (h : RdAt w0 W q vf F) (f k s : Nat) (hf : f + k < 18446744073709551616) (hkk : k < 4294967296) (hs : s < 18446744073709551616) :
    Calls Try.prog 63 #[.pointer (some ⟨w0.heap.size, 0, none⟩), .int .u64 (f : Nat), .int .u32 (k : Nat), .int .u64 (s : Nat)] W fun e w' =>
      (∃ xa xn xc, e = .returned (.tuple #[.agg #[.int .u64 (f + k : Nat), .slice xa xn xc], .bool (rcB q.l q.ps (f + k) s)]) ∧ Own w' W.heap.size (.slice xa xn xc) (rc q.l q.ps (f + k) s)) ∧ Below W.heap.size W w' :=
  ve_record W w0.heap.size q.ba q.bn q.bc q.l (hk.b.below' h.bel) q.m q.va q.vn q.vc q.d q.r q.ps (hk.h.below h.bel) hk.ok _ vf h.blk f k s hf hkk hs
theorem RdAt.text {w0 W : World} {q : Rp} (hk : Rk w0 q) {vf : Value} {F : List Vv} (h : RdAt w0 W q vf F) (p : Nat) (hp : p < 4294967296) :
    Calls Try.prog 66 #[.pointer (some ⟨w0.heap.size, 0, none⟩), .int .u32 (p : Nat)] W fun e w' => e = .returned (.tuple #[.string (txb (txtS q.S p)), .bool (txtB q.S p)]) ∧ Below W.heap.size W w' :=
  ve_text W w0.heap.size _ q.m _ q.d q.r q.sa q.sn q.sc q.S (hk.s.below' h.bel) vf h.blk p hp
theorem ownT_no {l : List UInt8} {ps : List Ph} {S : List UInt8} {a : Nat} {F : List Vv} (h : ownB l ps S a = false) : ownT l ps S a F = none := by unfold ownT ownO; rw [h]; rfl
theorem ownT_file {l : List UInt8} {ps : List Ph} {S : List UInt8} {a : Nat} {F : List Vv} (h : ownB l ps S a = true) (hf : ¬ rd (rc l ps a 20) 2 2 % 2 = 0) : ownT l ps S a F = some F := by unfold ownT ownO; rw [h, if_pos rfl, if_neg hf]; rfl
theorem ownT_yes {l : List UInt8} {ps : List Ph} {S : List UInt8} {a : Nat} {F : List Vv} (h : ownB l ps S a = true) (hf : rd (rc l ps a 20) 2 2 % 2 = 0) : ownT l ps S a F = addO F (ownV l ps S a) := by
  unfold ownT ownO; rw [h, if_pos rfl, if_pos hf]; simp only [Option.bind_some, addAll]; cases addO F (ownV l ps S a) <;> rfl
abbrev Rc (Z a : Nat) (x : Value) (w' : World) : Prop := w'.cell? ⟨Z, 0, none⟩ = some (.int .u64 (a : Nat)) ∧ w'.cell? ⟨Z, 1, none⟩ = some x
theorem built_ver (x : Int) (y : ByteArray) : Try.prog.built 114 [(0, .int .u16 x), (1, .string y)] = some #[.int .u16 x, .string y, .string ⟨#[]⟩] := by kernel_rfl
theorem below1 (W : World) (o : Obj) : Below W.heap.size W (W.alloc o) := (Below.refl _ W).alloc (Nat.le_refl _) o
theorem below1d (W : World) (o : Obj) : Below W.heap.size W (W.alloc o).drew := ((Below.refl _ W).alloc (Nat.le_refl _) o).drew
theorem Rc.stay {Z a : Nat} {x : Value} {W W' : World} (h : Rc Z a x W) (hb : Below W.heap.size W W') : Rc Z a x W' :=
  ⟨(hb.cell (p := ⟨Z, 0, none⟩) (World.block_lt_of_cell? _ _ h.1)).trans h.1, (hb.cell (p := ⟨Z, 1, none⟩) (World.block_lt_of_cell? _ _ h.2)).trans h.2⟩
theorem Rc.set {Z a Y : Nat} {x : Value} {W : World} (h : Rc Z a x W) (hn : Z ≠ Y) (v0 v1 : Value) : Rc Z a x ((W.setCell ⟨Y, 0, none⟩ v0).setCell ⟨Y, 1, none⟩ v1) := by
  have e : ((W.setCell ⟨Y, 0, none⟩ v0).setCell ⟨Y, 1, none⟩ v1).heap[Z]? = W.heap[Z]? := by rw [Below.heap_setCell _ _ _ _ hn, Below.heap_setCell _ _ _ _ hn]
  exact ⟨(World.cell?_of_block (w := W) e).trans h.1, (World.cell?_of_block (w := W) e).trans h.2⟩
def zeroRec : Obj := .cells #[.int .u64 0, .slice none 0 0] 135
/-- A new record lies here. -/
structure NewR (W1 wx : World) (Y : Nat) (v0 v1 : Value) : Prop where
  bel : Below W1.heap.size W1 wx
  low : W1.heap.size ≤ Y
  blk : wx.heap[Y]? = some (.cells #[v0, v1] 135 (0, 0))
theorem NewR.alloc {W1 X : World} (h : Below W1.heap.size W1 X) (v0 v1 : Value) : NewR W1 (X.alloc (.cells #[v0, v1] 135)) X.heap.size v0 v1 := ⟨h.trans ((below1 X _).mono h.size), h.size, heap_alloc_new _ _⟩
theorem NewR.set {W1 X : World} (h : Below W1.heap.size W1 X) {Y : Nat} (hY : W1.heap.size ≤ Y) {c0 c1 : Value} (hb : X.heap[Y]? = some (.cells #[c0, c1] 135 (0, 0))) (v0 v1 : Value) :
    NewR W1 ((X.setCell ⟨Y, 0, none⟩ v0).setCell ⟨Y, 1, none⟩ v1) Y v0 v1 := by
  refine ⟨⟨h.os, h.tape, h.output, by simpa using h.size, fun k hk => ?_⟩, hY, heap_setCell_at _ Y 1 v1 _ _ _ (heap_setCell_at X Y 0 v0 _ _ _ hb)⟩
  rw [Below.heap_setCell _ _ _ _ (show k ≠ Y by omega), Below.heap_setCell _ _ _ _ (show k ≠ Y by omega)]
  exact h.block k hk
theorem own_set {X : World} {B Y : Nat} {v : Value} {l : List UInt8} (h : Own X B v l) (hY : Y < B) (v0 v1 : Value) : Own ((X.setCell ⟨Y, 0, none⟩ v0).setCell ⟨Y, 1, none⟩ v1) B v l := by
  unfold Own at h ⊢
  refine ⟨h.1, ?_⟩
  rcases h.2 with hn | ⟨g, cap, cur, rfl, hB, hg, rest⟩
  · exact .inl hn
  · refine .inr ⟨g, cap, cur, rfl, hB, ?_, rest⟩
    rw [Below.heap_setCell _ _ _ _ (show g ≠ Y by omega), Below.heap_setCell _ _ _ _ (show g ≠ Y by omega)]; exact hg
set_option maxHeartbeats 4000000 in
set_option maxRecDepth 20000 in
theorem ve_own (w0 W : World) (q : Rp) (hk : Rk w0 q) (vf : Value) (F : List Vv) (h : RdAt w0 W q vf F) (a : Nat) (xa : Option Addr) (xn xc : Nat) (hx : Arg W (.slice xa xn xc) (rc q.l q.ps a 20)) (hr : rcB q.l q.ps a 20 = true) :
    Calls Try.prog 43 #[.pointer (some ⟨w0.heap.size, 0, none⟩), .agg #[.int .u64 (a : Nat), .slice xa xn xc]] W fun e w' => TkIs w0 W q vf (ownT q.l q.ps q.S a F) e w' := by
  have ha := rc_lo hk.lo hr
  have haI : (a : Int) ≤ 16384 := by omega
  have hb1 : Below W.heap.size W (W.alloc (.cells #[.int .u64 (a : Nat), .slice xa xn xc] 135)) := (Below.refl _ W).alloc (Nat.le_refl _) _
  have hZ : (W.alloc (.cells #[.int .u64 (a : Nat), .slice xa xn xc] 135)).heap[W.heap.size]? = some (.cells #[.int .u64 (a : Nat), .slice xa xn xc] 135 (0, 0)) := heap_alloc_new _ _
  have HK := hide hk
  have H1 := hide (h.stay hb1)
  have HX1 := hide (hx.below' hb1)
  have HZ1 := hide hZ
  have HT1 := hide (Tk.of_below hb1 w0.heap.size vf)
  have HBW : Hid (Below W.heap.size W (W.alloc (.cells #[.int .u64 (a : Nat), .slice xa xn xc] 135))) := hb1
  have hx4 := rd4 (rc q.l q.ps a 20) 12
  have HNO := hide (fun hh => ownT_no (l := q.l) (ps := q.ps) (S := q.S) (a := a) (F := F) hh)
  have HFI := hide (fun hh hf => ownT_file (l := q.l) (ps := q.ps) (S := q.S) (a := a) (F := F) hh hf)
  have HYE := hide (fun hh hf => ownT_yes (l := q.l) (ps := q.ps) (S := q.S) (a := a) (F := F) hh hf)
  have HLR : Hid (∀ x s, (rc q.l q.ps x s).length ≤ 140737488351232) := fun x s => Nat.le_trans (rc_len _ _ _ _) (by obtain ⟨_, _, _, _, _, hl⟩ := hk.b.isSlice; exact hl)
  clear hb1 hZ hk h hx ha hr
  generalize ownT q.l q.ps q.S a F = O at *
  go_enter Try.func43, Try.ntmps43
  go_wp2_with fail
  generalize hw1 : W.alloc _ = W1 at *
  have HZS : Hid (W1.heap.size = W.heap.size + 1) := by rw [Hid, ← hw1]; simp
  clear hw1
  have HDD : Hid (Below W1.heap.size W1 W1.drew) := (Below.refl _ _).drew
  have HD : Hid (RdAt w0 W1.drew q vf F) := H1.out.stay HDD.out
  have SC : Rc W.heap.size a (.slice xa xn xc) W1.drew := ⟨cells_of_block (w := W1.drew) HZ1.out 0 _ rfl, cells_of_block (w := W1.drew) HZ1.out 1 _ rfl⟩
  have SA : Rc W.heap.size a (.slice xa xn xc) (W1.alloc zeroRec).drew := Rc.stay (W := W1) ⟨cells_of_block HZ1.out 0 _ rfl, cells_of_block HZ1.out 1 _ rfl⟩ (below1d W1 zeroRec)
  have HAZ : Hid ((W1.alloc zeroRec).drew.heap[W1.heap.size]? = some zeroRec) := heap_alloc_new W1 zeroRec
  have hNE : W.heap.size ≠ W1.heap.size := by have := HZS.out; omega
  have HNE := hide hNE
  have HK4 := hide (fun X (hX : Below W1.heap.size W1 X) => ve_four X a (.slice xa xn xc) _ (HX1.out.below' hX) 12 (by decide))
  have HRE := hide (fun X (hX : RdAt w0 X q vf F) => hX.record HK.out a (rd (rc q.l q.ps a 20) 12 4) 8 (by omega) hx4 (by decide))
  have HBA := hide (below1d W1 zeroRec)
  generalize hax : rd (rc q.l q.ps a 20) 12 4 = ax at *
  have HAX := hide hax
  have HOW := hide (rd4 (rc q.l q.ps a 20) 12)
  clear hax hNE
  unfold zeroRec at SA HAZ HBA
  go_upto_region 1 with fail
  go_cut [5, 6] from 8 (fun v5 v6 wx => ∃ (Y : Nat) (ya : Option Addr) (yn yc : Nat), v5 = .pointer (some ⟨Y, 0, none⟩) ∧ v6 = .bool (rcB q.l q.ps (a + ax) 8) ∧ Hid (NewR W1 wx Y (.int .u64 (a + ax : Nat)) (.slice ya yn yc)) ∧ Hid (Arg wx (.slice ya yn yc) (rc q.l q.ps (a + ax) 8)))
  case first =>
    go_region_held_law (fun w' => w'.cell? ⟨W.heap.size, 0, none⟩ = some (.int .u64 (a : Nat)) ∧ w'.cell? ⟨W.heap.size, 1, none⟩ = some (.slice xa xn xc))
      (first | with_reducible assumption | with_reducible exact SB1 _ | with_reducible exact SB2 _ | with_reducible exact SP2 _ _)
      (first
        | (go_at_call 64; refine (HK4.out _ (by first | exact HDD.out | exact HBA.out)).mono ?_; rintro e X1 ⟨rfl, hb⟩; have HX := hide (by first | exact HDD.out.trans (hb.mono HDD.out.size) | exact HBA.out.trans (hb.mono HBA.out.size)); have SC1 := (by first | exact Rc.stay SC hb | exact Rc.stay SA hb); have SB1 := fun o => Rc.stay SC1 (below1 X1 o); first | (have HYB := hide (block_stay HAZ.out hb)) | skip; clear hb)
        | (go_at_call 63; refine (HRE.out _ (by first | exact H1.out.stay HX.out | exact H1.out.stay (HX.out.trans ((below1 _ _).mono HX.out.size)))).mono ?_; rintro e X2 ⟨⟨ya, yn, yc, rfl, own⟩, hb⟩; have HO2 := hide own; have HXX := hide (by first | exact HX.out.trans (hb.mono HX.out.size) | exact (HX.out.trans ((below1 _ _).mono HX.out.size)).trans (hb.mono (HX.out.trans ((below1 _ _).mono HX.out.size)).size)); have SC2 := (by first | exact Rc.stay SC1 hb | exact Rc.stay (SB1 _) hb); have SB2 := fun o => Rc.stay SC2 (below1 X2 o); first | (have hY := block_stay HYB.out hb; have y0 := cells_of_block hY 0 (.int .u64 0) rfl; have y1 := cells_of_block hY 1 (.slice none 0 0) rfl; have f0 := block_soft hY 0; have f1 := block_soft hY 1; have SP2 := fun a b => Rc.set SC2 HNE.out a b; have HY := hide hY; clear hY) | (have hY := block_stay (heap_alloc_new X1 _) hb; have y0 := cells_of_block hY 0 (.int .u64 0) rfl; have y1 := cells_of_block hY 1 (.slice none 0 0) rfl; have f0 := block_soft hY 0; have f1 := block_soft hY 1; have SP2 := fun a b => Rc.set SC2 (show W.heap.size ≠ X1.heap.size by have := HZS.out; have := HX.out.size; omega) a b; have HY := hide hY; clear hY) | skip; clear hb own))
    · go_wp2_with fail
      go_meet
      exact ⟨_, _, _, _, rfl, rfl, by rw [Hid, Int.natCast_add]; exact NewR.alloc HXX.out _ _, (HO2.out.stay (below1 _ _)).arg (HLR.out _ _)⟩
    · have HL8 : Hid (X1.heap.size < (X1.alloc zeroRec).heap.size) := by unfold Hid; simp
      go_wp2_with fail
      go_meet
      exact ⟨_, _, _, _, rfl, rfl, by rw [Hid, Int.natCast_add]; exact NewR.set HXX.out HX.out.size HY.out _ _, (own_set HO2.out HL8.out _ _).arg (HLR.out _ _)⟩
    · have HL8 : Hid (W1.heap.size < X1.heap.size) := (Array.getElem?_eq_some_iff.1 HYB.out).1
      go_wp2_with fail
      go_meet
      exact ⟨_, _, _, _, rfl, rfl, by rw [Hid, Int.natCast_add]; exact NewR.set HXX.out (Nat.le_refl _) HY.out _ _, (own_set HO2.out HL8.out _ _).arg (HLR.out _ _)⟩
  case rest =>
    obtain ⟨Y, ya, yn, yc, rfl, rfl, HN, HA8⟩ := hcut
    have Hc := hide (H1.out.stay HN.out.bel)
    have HTc : Hid (Tk w0.heap.size vf vf W wc) := Tk.of_below (HBW.out.trans (HN.out.bel.mono HBW.out.size)) _ _
    have HXc := hide (HX1.out.below' HN.out.bel)
    have HZc := hide (block_stay HZ1.out HN.out.bel)
    have z0 := cells_of_block HZc.out 0 (.int .u64 (a : Nat)) rfl
    have z1 := cells_of_block HZc.out 1 (.slice xa xn xc) rfl
    have HF0 : Hid (∀ w', Below wc.heap.size wc w' → O = none → TkIs w0 W q vf O (.returned (.bool false)) w') := fun w' hw e => by rw [e]; exact ⟨rfl, (Hc.out.stay hw).bel, vf, HTc.out.trans (Tk.of_below hw _ _)⟩
    have HTW := hide (fun X (hX : Below wc.heap.size wc X) k hk => ve_two X a (.slice xa xn xc) _ (HXc.out.below' hX) k hk)
    clear H1 HX1 HZ1 HT1 HD SC SA HAZ HNE HK4 HRE HBA HDD HBW
    generalize hb8 : rcB q.l q.ps (a + ax) 8 = b8 at *
    have HOB : Hid (ownB q.l q.ps q.S a = (decide (rd (rc q.l q.ps a 20) 0 2 = 1) && !decide (rd (rc q.l q.ps a 20) 6 2 = 0) && rcB q.l q.ps (a + rd (rc q.l q.ps a 20) 12 4) 8 && txtB q.S (rd (rc q.l q.ps (a + rd (rc q.l q.ps a 20) 12 4) 8) 0 4))) := rfl
    rw [HAX.out, hb8] at HOB
    clear hb8
    cases b8 with
    | false =>
      have hO : O = none := HNO.out (by rw [HOB.out, Bool.and_false, Bool.false_and])
      have HFF := hide (HF0.out wc (Below.refl _ _) hO)
      clear HNO HFI HYE hO HOB HF0
      go_wp2
      go_ret
      exact HFF.out
    | true =>
      rw [Bool.and_true] at HOB
      have HCE : Hid (∀ X, Below wc.heap.size wc X → X.cell? ⟨W.heap.size, 0, none⟩ = some (.int .u64 (a : Nat)) ∧ X.cell? ⟨W.heap.size, 1, none⟩ = some (.slice xa xn xc) ∧ X.cell? ⟨Y, 0, none⟩ = some (.int .u64 (a + ax : Nat)) ∧ X.cell? ⟨Y, 1, none⟩ = some (.slice ya yn yc)) := fun X hX =>
        ⟨cells_of_block (block_stay HZc.out hX) 0 _ rfl, cells_of_block (block_stay HZc.out hX) 1 _ rfl, cells_of_block (block_stay HN.out.blk hX) 0 _ rfl, cells_of_block (block_stay HN.out.blk hX) 1 _ rfl⟩
      have HEND : Hid (∀ X, Below wc.heap.size wc X → O = none → TkIs w0 W q vf O (.returned (.bool false)) X) := fun X hX e => HF0.out X hX e
      have HFO := hide (fun X (hX : Below wc.heap.size wc X) => ve_four X (a + ax) (.slice ya yn yc) _ (HA8.out.below' hX) 0 (by decide))
      have HTX := hide (fun X (hX : Below wc.heap.size wc X) => (Hc.out.stay hX).text HK.out (rd (rc q.l q.ps (a + ax) 8) 0 4) (rd4 _ _))
      have HVV : Hid (ownV q.l q.ps q.S a = ⟨rd (rc q.l q.ps a 20) 4 2, txtS q.S (rd (rc q.l q.ps (a + ax) 8) 0 4), []⟩) := by unfold ownV; rw [HAX.out]; rfl
      have HAD := hide (fun X (hX : Below wc.heap.size wc X) => ve_add w0 X q vf F (Hc.out.stay hX) (ownV q.l q.ps q.S a) (rd2 _ _))
      rw [HVV.out] at HAD HYE
      unfold Vv.cells at HAD
      have k0 := HTW.out wc (Below.refl _ _) 0 (by decide)
      generalize rc q.l q.ps a 20 = X20 at *
      generalize rd (rc q.l q.ps (a + ax) 8) 0 4 = p8 at *
      obtain ⟨n0, hn0⟩ : ∃ n, rd X20 0 2 = n := ⟨_, rfl⟩
      rw [hn0] at k0 HOB
      clear hn0 z0 z1 HF0 HN HZc HAX HOW hx4 HLR HK HVV
      obtain ⟨z0, z1, y0, y1⟩ := HCE.out wc (Below.refl _ _)
      by_cases c0 : n0 = 1
      · subst c0
        have k6 := HTW.out
        go_wp2_with fail
        refine k0.mono ?_
        rintro e W2 ⟨rfl, hb2⟩
        have HB2 := hide hb2
        have k6 := HTW.out W2 hb2 6 (by decide)
        clear k0 hb2 z0 z1 y0 y1
        obtain ⟨z0, z1, y0, y1⟩ := HCE.out W2 HB2.out
        obtain ⟨n6, hn6⟩ : ∃ n, rd X20 6 2 = n := ⟨_, rfl⟩
        rw [hn6] at k6 HOB
        clear hn6
        by_cases c6 : n6 = 0
        · subst c6
          have hO : O = none := HNO.out (by rw [HOB.out]; rfl)
          have HF3 := hide (fun X hX => HEND.out X hX hO)
          clear HNO HFI HYE hO HOB HEND
          go_wp2_with fail
          refine k6.mono ?_
          rintro e W3 ⟨rfl, hb3⟩
          have HFF := hide (HF3.out W3 (HB2.out.trans (hb3.mono HB2.out.size)))
          clear k6 hb3 HF3
          go_wp2
          go_ret
          exact HFF.out
        · have c6b : ((n6 : Int) == 0) = false := by simp; omega
          rw [decide_eq_false c6] at HOB
          clear c6
          go_wp2_with fail
          refine k6.mono ?_
          rintro e W3 ⟨rfl, hb3⟩
          have HB3 := hide (HB2.out.trans (hb3.mono HB2.out.size))
          clear k6 hb3 z0 z1 y0 y1
          obtain ⟨z0, z1, y0, y1⟩ := HCE.out W3 HB3.out
          have k8 := HFO.out W3 HB3.out
          go_wp2_with fail
          refine k8.mono ?_
          rintro e W4 ⟨rfl, hb4⟩
          have HB4 := hide (HB3.out.trans (hb4.mono HB3.out.size))
          have kt := HTX.out W4 HB4.out
          clear k8 hb4 z0 z1 y0 y1
          obtain ⟨tb, htb⟩ : ∃ b, txtB q.S p8 = b := ⟨_, rfl⟩
          rw [htb] at kt HOB
          clear htb
          go_wp2_with fail
          refine kt.mono ?_
          rintro e W5 ⟨rfl, hb5⟩
          have HB5 := hide (HB4.out.trans (hb5.mono HB4.out.size))
          clear kt hb5
          cases tb with
          | false =>
            have hO : O = none := HNO.out (by rw [HOB.out]; rfl)
            have HFF := hide (HEND.out W5 HB5.out hO)
            clear HNO HFI HYE hO HOB HEND
            go_wp2
            go_ret
            exact HFF.out
          | true =>
            have hOB : ownB q.l q.ps q.S a = true := by rw [HOB.out]; rfl
            have HFI2 := hide (HFI.out hOB)
            have HYE2 := hide (HYE.out hOB)
            obtain ⟨z0, z1, y0, y1⟩ := HCE.out W5 HB5.out
            have k2 := HTW.out W5 HB5.out 2 (by decide)
            obtain ⟨n2, hn2⟩ : ∃ n, rd X20 2 2 = n := ⟨_, rfl⟩
            have hl2 : n2 < 65536 := by rw [← hn2]; exact rd2 _ _
            rw [hn2] at k2 HFI2 HYE2
            clear hn2 hOB HFI HYE HOB HNO HEND
            have hbit : bits BinOp.and IntKind.u16 (n2 : Int) 1 = ((n2 % 2 : Nat) : Int) := by
              have := u16_and_nat n2 1 hl2 (by decide)
              rw [Nat.and_one_is_mod] at this
              exact this
            by_cases c2 : n2 % 2 = 0
            · have hb0 : (bits BinOp.and IntKind.u16 (n2 : Int) 1 != 0) = false := by rw [hbit, c2]; rfl
              have HOO := hide (HYE2.out c2)
              clear HFI2 HYE2 c2 hbit
              go_wp2_with fail
              refine k2.mono ?_
              rintro e W6 ⟨rfl, hb6⟩
              have HB6 := hide (HB5.out.trans (hb6.mono HB5.out.size))
              clear k2 hb6 z0 z1 y0 y1
              obtain ⟨z0, z1, y0, y1⟩ := HCE.out W6 HB6.out
              have k4 := HTW.out W6 HB6.out 4 (by decide)
              generalize rd X20 4 2 = n4 at *
              go_wp2_with fail
              refine k4.mono ?_
              rintro e W7 ⟨rfl, hb7⟩
              have HB7 := hide (HB6.out.trans (hb7.mono HB6.out.size))
              have kad := HAD.out W7 HB7.out
              have hbu := fun (x : Int) (y : ByteArray) => built_ver x y
              clear k4 hb7 z0 z1 y0 y1
              go_wp2_with fail
              refine kad.mono ?_
              rintro e W8 hT8
              have HT8 := hide hT8
              have HTT := hide (HTc.out.trans (Tk.of_below HB7.out w0.heap.size vf))
              clear kad hT8 hbu
              obtain ⟨P, hP⟩ : ∃ P, addO F ⟨n4, txtS q.S p8, []⟩ = P := ⟨_, rfl⟩
              rw [hP] at HT8 HOO
              clear hP
              cases P with
              | none =>
                obtain ⟨he, hb8, vg, hTk⟩ := HT8.out
                subst he
                have HTk := hide (HTT.out.trans hTk)
                clear hTk
                clear HT8
                go_wp2
                go_ret
                rw [HOO.out]
                exact ⟨rfl, hb8, vg, HTk.out⟩
              | some G =>
                obtain ⟨he, vg, hG, hTk⟩ := HT8.out
                subst he
                have HG := hide hG
                have HTk := hide (HTT.out.trans hTk)
                clear HT8 hG hTk
                go_wp2
                go_ret
                rw [HOO.out]
                exact ⟨rfl, vg, HG.out, HTk.out⟩
            · have hb0 : (bits BinOp.and IntKind.u16 (n2 : Int) 1 != 0) = true := by
                have : n2 % 2 = 1 := by omega
                rw [hbit, this]; rfl
              have HOO := hide (HFI2.out c2)
              clear HFI2 HYE2 c2 hbit
              go_wp2_with fail
              refine k2.mono ?_
              rintro e W6 ⟨rfl, hb6⟩
              have HB6 := hide (HB5.out.trans (hb6.mono HB5.out.size))
              clear k2 hb6 z0 z1 y0 y1
              go_wp2
              go_ret
              rw [HOO.out]
              exact ⟨rfl, vf, Hc.out.stay HB6.out, HTc.out.trans (Tk.of_below HB6.out w0.heap.size vf)⟩
      · have c0b : ((n0 : Int) != 1) = true := by simp; omega
        have hO : O = none := HNO.out (by rw [HOB.out, decide_eq_false c0]; rfl)
        have HF3 := hide (fun X hX => HEND.out X hX hO)
        clear HNO HFI HYE hO HOB HEND c0
        go_wp2_with fail
        refine k0.mono ?_
        rintro e W3 ⟨rfl, hb3⟩
        have HFF := hide (HF3.out W3 hb3)
        clear k0 hb3 HF3
        go_wp2
        go_ret
        exact HFF.out
end Go.Proofs.Ytdclofiifcpkkaa
namespace Go.Proofs.Ytdclofiifcpkkaa
open Go.RowKit Go.PlainAid Go.Sort
theorem own_tk {g : Nat} {vf vf' : Value} {X X' : World} {B : Nat} {v : Value} {l : List UInt8} (h : Own X B v l) (ht : Tk g vf vf' X X') (hg : g < B) (hv : ∀ k, vf.ownBlock = some k → k < B) : Own X' B v l := by
  unfold Own at h ⊢
  refine ⟨h.1, ?_⟩
  rcases h.2 with hn | ⟨b, cap, cur, rfl, hB, hb, rest⟩
  · exact .inl hn
  · refine .inr ⟨b, cap, cur, rfl, hB, ?_, rest⟩
    rw [ht.block b (Array.getElem?_eq_some_iff.1 hb).1 (by omega) (fun e => by have := hv b e; omega)]; exact hb
theorem tk_block {g : Nat} {vf vf' : Value} {X X' : World} {b : Nat} {o : Obj} (ht : Tk g vf vf' X X') (h : X.heap[b]? = some o) (hg : b ≠ g) (hv : vf.ownBlock ≠ some b) : X'.heap[b]? = some o := by
  rw [ht.block b (Array.getElem?_eq_some_iff.1 h).1 hg hv]; exact h
theorem along_no {l : List UInt8} {ps : List Ph} {tk : Nat → List Vv → Option (List Vv)} {long next i a : Nat} {F : List Vv} (h : rcB l ps a long = false) : alongZ l ps tk long next (i + 1) a F = none := by rw [alongZ, if_pos h]
theorem along_yes {l : List UInt8} {ps : List Ph} {tk : Nat → List Vv → Option (List Vv)} {long next i a : Nat} {F : List Vv} (h : rcB l ps a long = true) :
    alongZ l ps tk long next (i + 1) a F = match tk a F with | none => none | some G => if rd (rc l ps a long) next 4 = 0 then some G else alongZ l ps tk long next i (a + rd (rc l ps a long) next 4) G := by
  rw [alongZ, if_neg (by rw [h]; simp)]
  all_goals (cases tk a F <;> rfl)
/-- A row that is gone along: where it stands. -/
structure Al (w0 W wr : World) (q : Rp) (vf vf' : Value) (F' : List Vv) (many long next : Nat) : Prop where
  at_ : RdAt w0 wr q vf' F'
  tk : Tk w0.heap.size vf vf' W wr
  row : wr.heap[W.heap.size]? = some (.cells #[.int .u64 many, .int .u64 long, .int .u64 next] 106 (0, 0))
  ne : vf'.ownBlock ≠ some W.heap.size
  gt : w0.heap.size < W.heap.size
theorem Al.below {w0 W wr X : World} {q : Rp} {vf vf' : Value} {F' : List Vv} {many long next : Nat} (h : Al w0 W wr q vf vf' F' many long next) (hb : Below wr.heap.size wr X) : Al w0 W X q vf vf' F' many long next :=
  ⟨h.at_.stay hb, h.tk.trans (Tk.of_below hb _ _), block_stay h.row hb, h.ne, h.gt⟩
theorem Al.take {w0 W X X' : World} {q : Rp} {vf vf' vf'' : Value} {F' F'' : List Vv} {many long next : Nat} (h : Al w0 W X q vf vf' F' many long next) (hr : RdAt w0 X' q vf'' F'') (ht : Tk w0.heap.size vf' vf'' X X') : Al w0 W X' q vf vf'' F'' many long next :=
  ⟨hr, h.tk.trans ht, tk_block ht h.row (by have := h.gt; omega) h.ne, fun e => by
    rcases ht.next _ e with q | q
    · exact h.ne q
    · have := (Array.getElem?_eq_some_iff.1 h.row).1; omega, h.gt⟩
set_option maxHeartbeats 4000000 in
set_option maxRecDepth 20000 in
theorem ve_along (w0 W : World) (q : Rp) (hk : Rk w0 q) (vf : Value) (F : List Vv) (h : RdAt w0 W q vf F) (tk : Nat → List Vv → Option (List Vv)) (G : Nat) (bd cb : Array Value) (eg : ∀ args w, (callFunc G args).run Try.prog w = .ok (.enter G args) w)
    (long next many f k : Nat) (hf : f + k < 18446744073709551616) (hk4 : k < 4294967296) (hlo : long ≤ 100) (hne : next ≤ 100) (hma : many ≤ 100000)
    (ht : ∀ X vf' F' a xa xn xc, Tk w0.heap.size vf vf' W X → RdAt w0 X q vf' F' → Arg X (.slice xa xn xc) (rc q.l q.ps a long) → rcB q.l q.ps a long = true →
      Calls Try.prog G (bd.push (.agg #[.int .u64 (a : Nat), .slice xa xn xc]) ++ cb) X fun e w' => TkIs w0 X q vf' (tk a F') e w') :
    Calls Try.prog 42 #[.pointer (some ⟨w0.heap.size, 0, none⟩), .int .u64 (f : Nat), .int .u32 (k : Nat), .agg #[.int .u64 (many : Nat), .int .u64 (long : Nat), .int .u64 (next : Nat)], .func (.func G) bd cb] W fun e w' =>
      TkIs w0 W q vf (alongZ q.l q.ps tk long next many (f + k) F) e w' := by
  have HAL : Hid (Al w0 W (W.alloc (.cells #[.int .u64 (many : Nat), .int .u64 (long : Nat), .int .u64 (next : Nat)] 106)) q vf vf F many long next) :=
    ⟨h.stay (below1 _ _), Tk.of_below (below1 _ _) _ _, heap_alloc_new _ _, fun e => Nat.lt_irrefl _ (World.ownsRow.lt h.own _ e).2, h.lt⟩
  have HT := hide ht
  have HK := hide hk
  have HLR : Hid (∀ x s, (rc q.l q.ps x s).length ≤ 140737488351232) := fun x s => Nat.le_trans (rc_len _ _ _ _) (by obtain ⟨_, _, _, _, _, hl⟩ := hk.b.isSlice; exact hl)
  have HLO := hide (fun x (hx : rcB q.l q.ps x long = true) => rc_lo hk.lo hx)
  obtain ⟨O, hO⟩ : ∃ O, alongZ q.l q.ps tk long next many (f + k) F = O := ⟨_, rfl⟩
  have HO : Hid (alongZ q.l q.ps tk long next (many - 0) (f + k) F = O) := hO
  rw [hO]
  have HF : Hid (f + k < 18446744073709551616) := hf
  clear h ht hk hO hf
  have c0 := cells_of_block HAL.out.row 0 (.int .u64 (many : Nat)) rfl
  have hmaI : (many : Int) ≤ 100000 := by omega
  go_enter Try.func42, Try.ntmps42
  go_wp2
  clear c0
  go_loopw [1, 2, 15] (fun v1 v2 v15 wr => ∃ (i f' k' : Nat) (vf' : Value) (F' : List Vv), v1 = .int .u64 f' ∧ v2 = .int .u32 k' ∧ v15 = .int .u64 i ∧ i ≤ many ∧ Hid (f' + k' < 18446744073709551616) ∧ Hid (k' < 4294967296) ∧ Hid (Al w0 W wr q vf vf' F' many long next) ∧ Hid (alongZ q.l q.ps tk long next (many - i) (f' + k') F' = O))
    (fun _ _ v15 _ => many - (intOf v15).toNat)
  case atStart => exact ⟨0, f, k, vf, F, rfl, rfl, rfl, by omega, HF, hk4, HAL, HO⟩
  case round =>
    obtain ⟨i, f', k', vf', F', rfl, rfl, rfl, hi, HF', HK', HA, HR⟩ := hrel
    clear HAL HO HF hk4
    by_cases hlt : i < many
    · have hltI : (i : Int) < (many : Int) := by omega
      have c1 := cells_of_block HA.out.row 1 (.int .u64 (long : Nat)) rfl
      have kr := HA.out.at_.record HK.out f' k' long HF'.out HK'.out (by omega)
      have hR := HR.out
      rw [show many - i = (many - (i + 1)) + 1 by omega] at hR
      clear HR
      obtain ⟨b8, hb8⟩ : ∃ b, rcB q.l q.ps (f' + k') long = b := ⟨_, rfl⟩
      rw [hb8] at kr
      go_wp2_with fail
      refine kr.mono ?_
      rintro e X1 ⟨⟨xa, xn, xc, rfl, own⟩, hb1⟩
      have HOW := hide own
      have HB1 := hide hb1
      have HA1 := hide (HA.out.below hb1)
      clear kr own hb1 c1
      cases b8 with
      | false =>
        rw [along_no hb8] at hR
        have HR := hide hR
        have HBB : Hid (Below w0.heap.size w0 (X1.alloc (.cells #[.int .u64 (f' + k' : Nat), .slice xa xn xc] 135))) := (HA1.out.at_.stay (below1 _ _)).bel
        clear hR hb8
        have HTB : Hid (Tk w0.heap.size vf vf' W (X1.alloc (.cells #[.int .u64 (f' + k' : Nat), .slice xa xn xc] 135))) := HA1.out.tk.trans (Tk.of_below (below1 _ _) _ _)
        rw [Int.natCast_add] at HBB HTB
        go_wp2
        go_ret
        rw [← HR.out]
        exact ⟨rfl, HBB.out, vf', HTB.out⟩
      | true =>
        rw [along_yes hb8] at hR
        have hpl := HLO.out _ hb8
        have kt := HT.out (X1.alloc (.cells #[.int .u64 (f' + k' : Nat), .slice xa xn xc] 135)) vf' F' (f' + k') xa xn xc (HA1.out.tk.trans (Tk.of_below (below1 _ _) _ _)) (HA1.out.at_.stay (below1 _ _)) ((HOW.out.stay (below1 _ _)).arg (HLR.out _ _)) hb8
        have HA2 : Hid (Al w0 W (X1.alloc (.cells #[.int .u64 (f' + k' : Nat), .slice xa xn xc] 135)) q vf vf' F' many long next) := HA1.out.below (below1 _ _)
        have HOW2 : Hid (Own (X1.alloc (.cells #[.int .u64 (f' + k' : Nat), .slice xa xn xc] 135)) wr.heap.size (.slice xa xn xc) (rc q.l q.ps (f' + k') long)) := HOW.out.stay (below1 _ _)
        have HY2 : Hid ((X1.alloc (.cells #[.int .u64 (f' + k' : Nat), .slice xa xn xc] 135)).heap[X1.heap.size]? = some (.cells #[.int .u64 (f' + k' : Nat), .slice xa xn xc] 135 (0, 0))) := heap_alloc_new _ _
        obtain ⟨P, hP⟩ : ∃ P, tk (f' + k') F' = P := ⟨_, rfl⟩
        rw [hP] at kt hR
        have HR := hide hR
        have HWX : Hid (wr.heap.size ≤ X1.heap.size) := HB1.out.size
        have HVL : Hid (∀ k, vf'.ownBlock = some k → k < wr.heap.size) := fun k hk => (World.ownsRow.lt HA.out.at_.own k hk).2
        have HGL : Hid (w0.heap.size < wr.heap.size) := HA.out.at_.lt
        clear hR hb8 hP HOW HA1 HB1 HA
        rw [Int.natCast_add] at kt HA2 HOW2 HY2
        go_wp2_with fail
        refine kt.mono ?_
        rintro e X3 hT3
        have HT3 := hide hT3
        clear kt hT3
        cases P with
        | none =>
          obtain ⟨he, hb3, vg, hTk⟩ := HT3.out
          subst he
          have HB3 := hide hb3
          have HTk := hide (HA2.out.tk.trans hTk)
          clear hTk
          have HR2 : Hid (none = O) := HR.out
          clear HT3 hb3 HR
          go_wp2
          go_ret
          rw [← HR2.out]
          exact ⟨rfl, HB3.out, vg, HTk.out⟩
        | some G' =>
          obtain ⟨he, vg, hG, hTk⟩ := HT3.out
          subst he
          have HA3 := hide (HA2.out.take hG hTk)
          have HOW3 := hide (own_tk HOW2.out hTk HGL.out HVL.out)
          have HY3 := hide (tk_block hTk HY2.out (by have := HGL.out; have := HWX.out; omega) (fun e => by have := HVL.out _ e; have := HWX.out; omega))
          have HK4 := hide (fun X (hX : Below X3.heap.size X3 X) => ve_four X (f' + k') (.slice xa xn xc) _ ((HOW3.out.arg (HLR.out _ _)).below' hX) next (by omega))
          have hn4 := rd4 (rc q.l q.ps (f' + k') long) next
          obtain ⟨n, hn⟩ : ∃ n, rd (rc q.l q.ps (f' + k') long) next 4 = n := ⟨_, rfl⟩
          have hR := HR.out
          simp only [hn] at hR HK4 hn4
          rw [Int.natCast_add] at HK4
          have HR3 := hide hR
          have hpI : (f' : Int) + (k' : Int) ≤ 16384 := by omega
          clear hG hTk HT3 HA2 HOW2 HY2 hn hR HR
          have hY0 := cells_of_block HY3.out 0 (.int .u64 ((f' : Int) + (k' : Int))) rfl
          have hY1 := cells_of_block HY3.out 1 (.slice xa xn xc) rfl
          have hR2 := cells_of_block HA3.out.row 2 (.int .u64 (next : Nat)) rfl
          go_wp2_with fail
          try simp only [List.append_eq, List.cons_append, List.nil_append]
          refine wp_region_quiet_below (by kernel_rfl) (by kernel_rfl) ?_
          have y0 := cell_regrown hY0
          have y1 := cell_regrown hY1
          have r2 := cell_regrown hR2
          repeat (go_big_quiet_step (first | (with_reducible exact Calls.regrown_of (HK4.out _ (below_regrown _ _ _)))))
          refine wpQuiet_nil ?_
          intro _ hwq
          obtain ⟨⟨dq, osq⟩, hwq2⟩ := hwq
          subst hwq2
          have HA4 := hide (HA3.out.below (below_regrown X3 dq osq))
          clear y0 y1 r2 hY0 hY1 hR2 HA3 HK4 HY3 HOW3
          generalize grow _ _ = X4 at *
          by_cases c0 : n = 0
          · subst c0
            have HR4 : Hid (some G' = O) := by have := HR3.out; rw [if_pos rfl] at this; exact this
            clear HR3
            go_wp2
            go_ret
            rw [← HR4.out]
            exact ⟨rfl, vg, HA4.out.at_, HA4.out.tk⟩
          · have c0b : ((n : Int) == 0) = false := by simp; omega
            have HR4 := hide (by have := HR3.out; rw [if_neg c0] at this; exact this)
            have HF9 : Hid (f' + k' + n < 18446744073709551616) := by unfold Hid; omega
            clear HR3 c0
            go_wp2
            go_roundw
            case rel => exact ⟨i + 1, f' + k', n, vg, G', by go_num, by go_num, by go_num, by omega, HF9, hn4, HA4, HR4⟩
            case measure => simp [intOf]; omega
    · have hltI : ¬ (i : Int) < (many : Int) := by omega
      have hR := HR.out
      rw [show many - i = 0 by omega] at hR
      have hR2 : some F' = O := hR
      have HR2 := hide hR2
      clear hR hR2 HR
      go_wp2
      go_ret
      rw [← HR2.out]
      exact ⟨rfl, vf', HA.out.at_, HA.out.tk⟩
end Go.Proofs.Ytdclofiifcpkkaa
