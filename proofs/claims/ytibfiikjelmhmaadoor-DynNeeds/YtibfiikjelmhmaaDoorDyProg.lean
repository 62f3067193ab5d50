
/-
  Layer 9 (dyn): the program's functions, up to Parse, keep their contracts.
-/
import Derived.Test.YtibfiikjelmhmaaDoorDyJ
import Derived.Maps.OwnSet
import Derived.Maps.RangeWalk
import Derived.Carry
import Derived.Deep.RegionHeldLaw
import Derived.Lib.QuietBelow
import Derived.Test.YtibfiikjelmhmaaDoorProg
import Derived.BigQuiet
import Derived.Deep.Cut
import Derived.Deep.CutRange
import Derived.OwnWalk
set_option linter.unusedVariables false
namespace Go.Proofs.YtibfiikjelmhmaaDoor
open Go.RowKit Go.PlainAid Go.Sort
theorem ArgD.form3 {w : World} {v : Value} {l : List De} (h : ArgD w v l) : ∃ a n cap, v = .slice a n cap ∧ l.length = n := by
  obtain ⟨a, cap, rfl⟩ := h.form
  exact ⟨a, _, cap, rfl, rfl⟩
theorem part_len (l : List UInt8) (ps : List Ph) (x s : Nat) : (partZ l ps x s).1.length ≤ l.length := by
  unfold partZ
  split
  · unfold win; rw [List.length_take, List.length_drop]; omega
  · simp
end Go.Proofs.YtibfiikjelmhmaaDoor
namespace Go.Proofs.YtibfiikjelmhmaaDoor
open Go.RowKit Go.PlainAid Go.Sort
def knownL : List Nat := [1, 14, 29, 5, 10, 6, 11, 4, 1879047925, 7, 8, 9, 17, 18, 19, 23, 2, 20, 36, 35, 37, 1610612751, 1610612752, 1610612753, 1610612754, 25, 27, 26, 28, 16, 30, 1879048187, 1879048176, 1879048188, 1879048189, 1879048190, 1879048191]
def kn (t : Nat) : Bool := knownL.contains t
def pairsP : List De := [⟨5, 10⟩, ⟨17, 18⟩, ⟨7, 8⟩, ⟨23, 2⟩, ⟨23, 20⟩, ⟨36, 35⟩, ⟨1610612751, 1610612752⟩, ⟨1610612753, 1610612754⟩, ⟨25, 27⟩, ⟨26, 28⟩, ⟨1879048188, 1879048189⟩, ⟨1879048190, 1879048191⟩]
/-- How often, and which value last, of the tags that are looked at. -/
def oft (E : List De) (t : Nat) : Nat := if kn t = true then cntT E t else 0
def lvT (E : List De) (t : Nat) : Nat := if kn t = true then valT E.reverse t else 0
def needs (E : List De) : List Nat := (E.filter fun e => decide (e.tag = 1)).map De.val
theorem cnt_cons (e : De) (r : List De) (t : Nat) : cntT (e :: r) t = (if e.tag = t then 1 else 0) + cntT r t := by
  unfold cntT
  by_cases h : e.tag = t
  · rw [List.filter_cons_of_pos (by simpa using h), if_pos h, List.length_cons]; omega
  · rw [List.filter_cons_of_neg (by simpa using h), if_neg h]; omega
theorem cnt_app (a b : List De) (t : Nat) : cntT (a ++ b) t = cntT a t + cntT b t := by unfold cntT; simp
theorem cnt_rev (a : List De) (t : Nat) : cntT a.reverse t = cntT a t := by unfold cntT; simp
theorem val_none : ∀ (E : List De) (t : Nat), cntT E t = 0 → valT E t = 0
  | [], t, _ => rfl
  | e :: r, t, h => by
    rw [cnt_cons] at h
    by_cases c : e.tag = t
    · rw [if_pos c] at h; omega
    · rw [valT, if_neg c]
      exact val_none r t (by rw [if_neg c] at h; omega)
theorem val_app : ∀ (a b : List De) (t : Nat), valT (a ++ b) t = if cntT a t = 0 then valT b t else valT a t
  | [], b, t => by simp [cntT]
  | e :: r, b, t => by
    rw [List.cons_append, valT, cnt_cons]
    by_cases c : e.tag = t
    · rw [if_pos c, if_pos c, if_neg (by omega), valT, if_pos c]
    · rw [if_neg c, if_neg c, val_app r b t, Nat.zero_add]
      congr 1
      rw [valT, if_neg c]
theorem val_rev : ∀ (E : List De) (t : Nat), cntT E t ≤ 1 → valT E.reverse t = valT E t
  | [], t, _ => rfl
  | e :: r, t, h => by
    rw [cnt_cons] at h
    rw [List.reverse_cons, val_app, cnt_rev]
    by_cases c : e.tag = t
    · rw [if_pos c] at h
      rw [if_pos (by omega), valT, if_pos c, valT, if_pos c]
    · rw [if_neg c] at h
      have e1 : valT (e :: r) t = valT r t := by rw [valT, if_neg c]
      have e2 : valT [e] t = 0 := by rw [valT, if_neg c]; rfl
      rw [e1, e2]
      by_cases z : cntT r t = 0
      · rw [if_pos z, val_none r t z]
      · rw [if_neg z]; exact val_rev r t (by omega)
/-- The program's three questions. -/
def hasT (E : List De) (t : Nat) : Bool := decide (oft E t ≠ 0)
def twiceB (E : List De) : Bool := knownL.any fun t => decide (1 < cntT E t) && decide (t ≠ 1)
def onlyB (E : List De) (t : Nat) (l : List Nat) : Bool := !hasT E t || l.contains (lvT E t)
def togB (E : List De) : Bool := pairsP.all (fun p => hasT E p.tag == hasT E p.val) && (!(!hasT E 5 || (!hasT E 6 || (!hasT E 4 && !hasT E 1879047925))) && (!hasT E 1610612751 || !hasT E 1610612753))
def valdB (E : List De) : Bool := onlyB E 20 [7, 17] && (onlyB E 11 [24] && (onlyB E 9 [24] && (onlyB E 19 [16] && onlyB E 37 [8])))
theorem known_single : ∀ t ∈ knownL, t = 1 ∨ t ∈ singlesL := by decide
theorem single_known : ∀ t ∈ singlesL, t ∈ knownL ∧ t ≠ 1 := by decide
theorem kn_mem {t : Nat} (h : t ∈ knownL) : kn t = true := by unfold kn; simpa using h
theorem oft_is {E : List De} {t : Nat} (h : t ∈ knownL) : oft E t = cntT E t := by unfold oft; rw [if_pos (kn_mem h)]
theorem lv_is {E : List De} {t : Nat} (h : t ∈ knownL) (h1 : cntT E t ≤ 1) : lvT E t = valT E t := by unfold lvT; rw [if_pos (kn_mem h), val_rev E t h1]
theorem pairs_known : (pairsP.all fun p => singlesL.contains p.tag && singlesL.contains p.val) = true := by decide
theorem only_fixed {E : List De} {t c : Nat} (h : t ∈ singlesL) (h1 : cntT E t ≤ 1) : onlyB E t [c] = fP E ⟨t, c⟩ := by
  have k := (single_known t h).1
  unfold onlyB hasT fP
  simp only
  rw [oft_is k, lv_is k h1]
  by_cases a : cntT E t = 0
  · have : ¬ cntT E t = 1 := by omega
    simp [a]
  · have : cntT E t = 1 := by omega
    simp [this]
theorem only_kind {E : List De} (h1 : cntT E 20 ≤ 1) : onlyB E 20 [7, 17] = kindB E := by
  have k : 20 ∈ knownL := by decide
  unfold onlyB hasT kindB
  rw [oft_is k, lv_is k h1]
  by_cases a : cntT E 20 = 0
  · simp [a]
  · simp [a]
theorem prog_right (E : List De) : (!twiceB E && (togB E && valdB E)) = rightB E := by
  by_cases h : ∀ t ∈ singlesL, cntT E t ≤ 1
  · have h1 : twiceB E = false := by
      unfold twiceB
      rw [List.any_eq_false]
      intro t ht hc
      simp only [Bool.and_eq_true, decide_eq_true_eq] at hc
      rcases known_single t ht with e | e
      · exact hc.2 e
      · have := h t e; omega
    have h2 : singlesL.all (sP E) = true := by
      rw [List.all_eq_true]
      intro t ht
      unfold sP
      exact decide_eq_true (h t ht)
    have g : ∀ t ∈ singlesL, hasT E t = decide (cntT E t ≠ 0) := fun t ht => by unfold hasT; rw [oft_is (single_known t ht).1]
    have pe : ∀ p ∈ pairsP, (hasT E p.tag == hasT E p.val) = pP E p := by
      intro p hp
      have k := List.all_eq_true.1 pairs_known p hp
      simp only [Bool.and_eq_true, List.contains_iff_mem] at k
      rw [g _ k.1, g _ k.2]
      have a := h _ k.1
      have b := h _ k.2
      unfold pP
      by_cases c : cntT E p.tag = cntT E p.val
      · simp [c]
      · rw [decide_eq_false c]
        by_cases d : cntT E p.tag = 0
        · have : cntT E p.val ≠ 0 := by omega
          simp [d, this]
        · have : cntT E p.val = 0 := by omega
          simp [d, this]
    have hp1 : pairsP.all (fun p => hasT E p.tag == hasT E p.val) = pairsP.all (pP E) := by
      rw [Bool.eq_iff_iff, List.all_eq_true, List.all_eq_true]
      constructor
      · intro hh p hp; rw [← pe p hp]; exact hh p hp
      · intro hh p hp; rw [pe p hp]; exact hh p hp
    have hp2 : pairsP.all (pP E) = pairsL.all (pP E) := by
      simp only [pairsP, pairsL, List.all_cons, List.all_nil, Bool.and_true]
      ac_rfl
    have hv : valdB E = (kindB E && fixedL.all (fP E)) := by
      unfold valdB
      rw [only_kind (h 20 (by decide)), only_fixed (by decide) (h 11 (by decide)), only_fixed (by decide) (h 9 (by decide)), only_fixed (by decide) (h 19 (by decide)), only_fixed (by decide) (h 37 (by decide))]
      simp only [fixedL, List.all_cons, List.all_nil, Bool.and_true]
    have hm : (!(!hasT E 5 || (!hasT E 6 || (!hasT E 4 && !hasT E 1879047925))) && (!hasT E 1610612751 || !hasT E 1610612753)) = mustB E := by
      rw [g 5 (by decide), g 6 (by decide), g 4 (by decide), g 1879047925 (by decide), g 1610612751 (by decide), g 1610612753 (by decide)]
      have a := h 1610612751 (by decide)
      have b := h 1610612753 (by decide)
      unfold mustB
      rw [Bool.eq_iff_iff]
      simp only [Bool.and_eq_true, Bool.or_eq_true, Bool.not_eq_true', Bool.or_eq_false_iff, Bool.and_eq_false_iff, Bool.not_eq_false', decide_eq_true_eq, decide_eq_false_iff_not]
      omega
    unfold togB rightB
    rw [h1, h2, hp1, hp2, hv, hm]
    simp only [Bool.not_false, Bool.true_and]
    ac_rfl
  · have h2 : singlesL.all (sP E) = false := by
      rw [Bool.eq_false_iff]
      intro c
      refine h (fun t ht => ?_)
      have := List.all_eq_true.1 c t ht
      unfold sP at this
      exact of_decide_eq_true this
    have h1 : twiceB E = true := by
      refine (Bool.not_eq_false _).mp ?_
      intro c
      unfold twiceB at c
      rw [List.any_eq_false] at c
      refine h (fun t ht => ?_)
      have k := single_known t ht
      have := c t k.1
      simp only [Bool.and_eq_true, decide_eq_true_eq] at this
      by_cases d : cntT E t ≤ 1
      · exact d
      · exact absurd ⟨by omega, k.2⟩ this
    unfold rightB
    rw [h1, h2]
    rfl
/-! ### One entry more -/
theorem oft_more {E : List De} {i : Nat} (h : i < E.length) (t : Nat) : oft (E.take (i + 1)) t = if kn t = true ∧ E[i].tag = t then oft (E.take i) t + 1 else oft (E.take i) t := by
  unfold oft
  rw [cnt_snoc h t]
  by_cases a : kn t = true
  · rw [if_pos a, if_pos a]
    by_cases b : E[i].tag = t
    · rw [if_pos b, if_pos ⟨a, b⟩]
    · rw [if_neg b, if_neg (fun c => b c.2)]; rfl
  · rw [if_neg a, if_neg a, if_neg (fun c => a c.1)]
theorem lv_more {E : List De} {i : Nat} (h : i < E.length) (t : Nat) : lvT (E.take (i + 1)) t = if kn t = true ∧ E[i].tag = t then E[i].val else lvT (E.take i) t := by
  unfold lvT
  have e : (E.take (i + 1)).reverse = E[i] :: (E.take i).reverse := by
    rw [List.take_add_one, List.getElem?_eq_getElem h]
    simp
  rw [e, valT]
  by_cases a : kn t = true
  · rw [if_pos a, if_pos a]
    by_cases b : E[i].tag = t
    · rw [if_pos b, if_pos ⟨a, b⟩]
    · rw [if_neg b, if_neg (fun c => b c.2)]
  · rw [if_neg a, if_neg a, if_neg (fun c => a c.1)]
theorem needs_more {E : List De} {i : Nat} (h : i < E.length) : needs (E.take (i + 1)) = needs (E.take i) ++ (if E[i].tag = 1 then [E[i].val] else []) := by
  unfold needs
  rw [List.take_add_one, List.getElem?_eq_getElem h, List.filter_append, List.map_append]
  congr 1
  by_cases b : E[i].tag = 1 <;> simp [b]
theorem needs_len (E : List De) : (needs E).length = cntT E 1 := by unfold needs cntT; simp
theorem needs_le (E : List De) : (needs E).length ≤ E.length := by rw [needs_len]; exact cnt_le E 1
end Go.Proofs.YtibfiikjelmhmaaDoor
namespace Go.Proofs.YtibfiikjelmhmaaDoor
open Go.RowKit Go.PlainAid Go.Sort
theorem keyU : Maps.Keyed Tryd.prog 26 := Maps.int_keyed Tryd.underlying26
theorem wf_of_u64 {t : Nat} (h : (t : Int) ≤ 18446744073709551615) : (Lit.int .u64 (t : Nat)).wf = true := by
  have a : IntKind.u64.min = 0 := rfl
  have b : IntKind.u64.max = 18446744073709551615 := rfl
  simp [Lit.wf]
  omega
theorem wf_of_i64 {t : Nat} (h : (t : Int) ≤ 9223372036854775807) : (Lit.int .i64 (t : Nat)).wf = true := by
  have a : IntKind.i64.min = -9223372036854775808 := rfl
  have b : IntKind.i64.max = 9223372036854775807 := rfl
  simp [Lit.wf]
  omega
theorem zeroI (w : World) : (zeroValue 3).run Tryd.prog w = .ok (.int .i64 0) w := by kernel_rfl
/-- Block M is a map of at most n entries by tags: at each tag t it has f t. -/
def MapI (w : World) (M n : Nat) (f : Nat → Nat) : Prop :=
  ∃ D : DataW Unit, w.ownsMap Tryd.prog 26 (plainElem Tryd.prog 3) M n D ∧ ∀ t : Nat, D.atKey (.int .u64 (t : Nat)) (.lit (.int .i64 0)) = .lit (.int .i64 (f t : Nat))
theorem MapI.made (w : World) : MapI (w.alloc (.map #[] 0)) w.heap.size 0 (fun _ => 0) := ⟨_, World.ownsMap_made w _ _ _, fun s => rfl⟩
theorem MapI.block {w w' : World} {M n : Nat} {f : Nat → Nat} (h : MapI w M n f) (hb : w'.heap[M]? = w.heap[M]?) : MapI w' M n f := by
  obtain ⟨D, ⟨es, clock, hb2, r⟩, h2⟩ := h
  exact ⟨D, ⟨es, clock, hb.trans hb2, r⟩, h2⟩
theorem MapI.lt {w : World} {M n : Nat} {f : Nat → Nat} (h : MapI w M n f) : M < w.heap.size := h.choose_spec.1.lt
theorem MapI.le {w : World} {M n m : Nat} {f : Nat → Nat} (h : MapI w M n f) (hm : n ≤ m) : MapI w M m f := by
  obtain ⟨D, hD, h2⟩ := h
  exact ⟨D, hD.mono hm, h2⟩
theorem MapI.get {w : World} {M n : Nat} {f : Nat → Nat} (h : MapI w M n f) (t : Nat) (ht : (t : Int) ≤ 18446744073709551615) : (Instr.lookup 65 (.map (some M)) (.int .u64 (t : Nat)) false).run Tryd.prog w = .ok (.int .i64 (f t : Nat)) w := by
  obtain ⟨D, hD, h2⟩ := h
  obtain ⟨c, hr, hc, _⟩ := hD.lookup_int keyU Tryd.underlying65 Tryd.underlying3 (zeroI w) (Maps.keyOf_int_mk Tryd.underlying26 (wf_of_u64 ht))
  rw [h2 t] at hc
  simp only [DataW.lit.injEq, Lit.int.injEq, true_and] at hc
  rw [hr, ← hc]
theorem MapI.put {w : World} {M n : Nat} {f : Nat → Nat} (h : MapI w M n f) (t : Nat) (ht : (t : Int) ≤ 18446744073709551615) (hn : n ≤ 1000) (v : Nat) (hv : (v : Int) ≤ 9223372036854775807) : ∃ w', (Instr.mapUpdate 65 (.map (some M)) (.int .u64 (t : Nat)) (.int .i64 (v : Nat))).run Tryd.prog w = .ok () w' ∧ MapI w' M (n + 1) (fun s => if s = t then v else f s) ∧ w.grownBy w' (some M) := by
  obtain ⟨D, hD, h2⟩ := h
  obtain ⟨w', hr, ho, hg⟩ := hD.update keyU Tryd.underlying65 (by unfold maxLen; omega) (Maps.keyOf_int_mk Tryd.underlying26 (wf_of_u64 ht)) (plainElem_int Tryd.underlying3 (wf_of_i64 hv))
  refine ⟨w', hr, ⟨_, ho, fun s => ?_⟩, hg⟩
  by_cases e : s = t
  · subst e
    rw [Maps.atKey_put_same hD.isMap (k := .int .u64 (s : Nat)) trivial]
    simp
  · rw [Maps.atKey_put_other (by intro h; injection h with _ h; exact e (by omega)), h2 s]
    simp [e]
theorem zeroU (w : World) : (zeroValue 26).run Tryd.prog w = .ok (.int .u64 0) w := by kernel_rfl
/-- Block M is a map of at most n entries by tags: at each tag t it has f t. -/
def MapU (w : World) (M n : Nat) (f : Nat → Nat) : Prop :=
  ∃ D : DataW Unit, w.ownsMap Tryd.prog 26 (plainElem Tryd.prog 26) M n D ∧ ∀ t : Nat, D.atKey (.int .u64 (t : Nat)) (.lit (.int .u64 0)) = .lit (.int .u64 (f t : Nat))
theorem MapU.made (w : World) : MapU (w.alloc (.map #[] 0)) w.heap.size 0 (fun _ => 0) := ⟨_, World.ownsMap_made w _ _ _, fun s => rfl⟩
theorem MapU.block {w w' : World} {M n : Nat} {f : Nat → Nat} (h : MapU w M n f) (hb : w'.heap[M]? = w.heap[M]?) : MapU w' M n f := by
  obtain ⟨D, ⟨es, clock, hb2, r⟩, h2⟩ := h
  exact ⟨D, ⟨es, clock, hb.trans hb2, r⟩, h2⟩
theorem MapU.lt {w : World} {M n : Nat} {f : Nat → Nat} (h : MapU w M n f) : M < w.heap.size := h.choose_spec.1.lt
theorem MapU.le {w : World} {M n m : Nat} {f : Nat → Nat} (h : MapU w M n f) (hm : n ≤ m) : MapU w M m f := by
  obtain ⟨D, hD, h2⟩ := h
  exact ⟨D, hD.mono hm, h2⟩
theorem MapU.get {w : World} {M n : Nat} {f : Nat → Nat} (h : MapU w M n f) (t : Nat) (ht : (t : Int) ≤ 18446744073709551615) : (Instr.lookup 66 (.map (some M)) (.int .u64 (t : Nat)) false).run Tryd.prog w = .ok (.int .u64 (f t : Nat)) w := by
  obtain ⟨D, hD, h2⟩ := h
  obtain ⟨c, hr, hc, _⟩ := hD.lookup_int keyU Tryd.underlying66 Tryd.underlying26 (zeroU w) (Maps.keyOf_int_mk Tryd.underlying26 (wf_of_u64 ht))
  rw [h2 t] at hc
  simp only [DataW.lit.injEq, Lit.int.injEq, true_and] at hc
  rw [hr, ← hc]
theorem MapU.put {w : World} {M n : Nat} {f : Nat → Nat} (h : MapU w M n f) (t : Nat) (ht : (t : Int) ≤ 18446744073709551615) (hn : n ≤ 1000) (v : Nat) (hv : (v : Int) ≤ 18446744073709551615) : ∃ w', (Instr.mapUpdate 66 (.map (some M)) (.int .u64 (t : Nat)) (.int .u64 (v : Nat))).run Tryd.prog w = .ok () w' ∧ MapU w' M (n + 1) (fun s => if s = t then v else f s) ∧ w.grownBy w' (some M) := by
  obtain ⟨D, hD, h2⟩ := h
  obtain ⟨w', hr, ho, hg⟩ := hD.update keyU Tryd.underlying66 (by unfold maxLen; omega) (Maps.keyOf_int_mk Tryd.underlying26 (wf_of_u64 ht)) (plainElem_int Tryd.underlying26 (wf_of_u64 hv))
  refine ⟨w', hr, ⟨_, ho, fun s => ?_⟩, hg⟩
  by_cases e : s = t
  · subst e
    rw [Maps.atKey_put_same hD.isMap (k := .int .u64 (s : Nat)) trivial]
    simp
  · rw [Maps.atKey_put_other (by intro h; injection h with _ h; exact e (by omega)), h2 s]
    simp [e]
set_option maxHeartbeats 8000000 in
set_option maxRecDepth 20000 in
theorem dyn_known (t : Nat) (w : World) : Calls Tryd.prog 41 #[.int .u64 (t : Nat)] w fun e w' => e = .returned (.bool (kn t)) ∧ w = w' := by
  by_cases h : t ∈ knownL
  · simp only [knownL, List.mem_cons, List.not_mem_nil, or_false] at h
    rcases h with rfl | rfl | rfl | rfl | rfl | rfl | rfl | rfl | rfl | rfl | rfl | rfl | rfl | rfl | rfl | rfl | rfl | rfl | rfl | rfl | rfl | rfl | rfl | rfl | rfl | rfl | rfl | rfl | rfl | rfl | rfl | rfl | rfl | rfl | rfl | rfl | rfl
    all_goals
      go_enter Tryd.func41, Tryd.ntmps41
      go_wp2
      go_ret
      exact ⟨rfl, rfl⟩
  · have hk : kn t = false := by unfold kn; simpa using h
    rw [hk]
    simp only [knownL, List.mem_cons, List.not_mem_nil, or_false, not_or] at h
    obtain ⟨h1, h2, h3, h4, h5, h6, h7, h8, h9, h10, h11, h12, h13, h14, h15, h16, h17, h18, h19, h20, h21, h22, h23, h24, h25, h26, h27, h28, h29, h30, h31, h32, h33, h34, h35, h36, h37⟩ := h
    have e1 : ((t : Int) == 1) = false := by rw [beq_eq_false_iff_ne]; omega
    have e2 : ((t : Int) == 14) = false := by rw [beq_eq_false_iff_ne]; omega
    have e3 : ((t : Int) == 29) = false := by rw [beq_eq_false_iff_ne]; omega
    have e4 : ((t : Int) == 5) = false := by rw [beq_eq_false_iff_ne]; omega
    have e5 : ((t : Int) == 10) = false := by rw [beq_eq_false_iff_ne]; omega
    have e6 : ((t : Int) == 6) = false := by rw [beq_eq_false_iff_ne]; omega
    have e7 : ((t : Int) == 11) = false := by rw [beq_eq_false_iff_ne]; omega
    have e8 : ((t : Int) == 4) = false := by rw [beq_eq_false_iff_ne]; omega
    have e9 : ((t : Int) == 1879047925) = false := by rw [beq_eq_false_iff_ne]; omega
    have e10 : ((t : Int) == 7) = false := by rw [beq_eq_false_iff_ne]; omega
    have e11 : ((t : Int) == 8) = false := by rw [beq_eq_false_iff_ne]; omega
    have e12 : ((t : Int) == 9) = false := by rw [beq_eq_false_iff_ne]; omega
    have e13 : ((t : Int) == 17) = false := by rw [beq_eq_false_iff_ne]; omega
    have e14 : ((t : Int) == 18) = false := by rw [beq_eq_false_iff_ne]; omega
    have e15 : ((t : Int) == 19) = false := by rw [beq_eq_false_iff_ne]; omega
    have e16 : ((t : Int) == 23) = false := by rw [beq_eq_false_iff_ne]; omega
    have e17 : ((t : Int) == 2) = false := by rw [beq_eq_false_iff_ne]; omega
    have e18 : ((t : Int) == 20) = false := by rw [beq_eq_false_iff_ne]; omega
    have e19 : ((t : Int) == 36) = false := by rw [beq_eq_false_iff_ne]; omega
    have e20 : ((t : Int) == 35) = false := by rw [beq_eq_false_iff_ne]; omega
    have e21 : ((t : Int) == 37) = false := by rw [beq_eq_false_iff_ne]; omega
    have e22 : ((t : Int) == 1610612751) = false := by rw [beq_eq_false_iff_ne]; omega
    have e23 : ((t : Int) == 1610612752) = false := by rw [beq_eq_false_iff_ne]; omega
    have e24 : ((t : Int) == 1610612753) = false := by rw [beq_eq_false_iff_ne]; omega
    have e25 : ((t : Int) == 1610612754) = false := by rw [beq_eq_false_iff_ne]; omega
    have e26 : ((t : Int) == 25) = false := by rw [beq_eq_false_iff_ne]; omega
    have e27 : ((t : Int) == 27) = false := by rw [beq_eq_false_iff_ne]; omega
    have e28 : ((t : Int) == 26) = false := by rw [beq_eq_false_iff_ne]; omega
    have e29 : ((t : Int) == 28) = false := by rw [beq_eq_false_iff_ne]; omega
    have e30 : ((t : Int) == 16) = false := by rw [beq_eq_false_iff_ne]; omega
    have e31 : ((t : Int) == 30) = false := by rw [beq_eq_false_iff_ne]; omega
    have e32 : ((t : Int) == 1879048187) = false := by rw [beq_eq_false_iff_ne]; omega
    have e33 : ((t : Int) == 1879048176) = false := by rw [beq_eq_false_iff_ne]; omega
    have e34 : ((t : Int) == 1879048188) = false := by rw [beq_eq_false_iff_ne]; omega
    have e35 : ((t : Int) == 1879048189) = false := by rw [beq_eq_false_iff_ne]; omega
    have e36 : ((t : Int) == 1879048190) = false := by rw [beq_eq_false_iff_ne]; omega
    have e37 : ((t : Int) == 1879048191) = false := by rw [beq_eq_false_iff_ne]; omega
    clear h1 h2 h3 h4 h5 h6 h7 h8 h9 h10 h11 h12 h13 h14 h15 h16 h17 h18 h19 h20 h21 h22 h23 h24 h25 h26 h27 h28 h29 h30 h31 h32 h33 h34 h35 h36 h37 hk
    go_enter Tryd.func41, Tryd.ntmps41
    go_wp2
    go_ret
    exact ⟨rfl, rfl⟩
end Go.Proofs.YtibfiikjelmhmaaDoor
namespace Go.Proofs.YtibfiikjelmhmaaDoor
open Go.RowKit Go.PlainAid Go.Sort
/-- What is gathered so far; N: the heap's size at the call. -/
structure GA (w wr : World) (N : Nat) (E : List De) (i : Nat) (vn : Value) : Prop where
  below : Below N w wr
  size : N + 4 ≤ wr.heap.size
  res : wr.heap[N]? = some (.cells #[.map none, .map none, .slice none 0 0] 69 (0, 0))
  tg : wr.heap[N + 3]? = some (.cells #[.map (some (N + 1)), .map (some (N + 2)), vn] 69 (0, 0))
  m1 : MapI wr (N + 1) i (oft (E.take i))
  m2 : MapU wr (N + 2) i (lvT (E.take i))
  row : OwnU wr (N + 4) vn (needs (E.take i))
theorem GA.stay {w wr w' : World} {N : Nat} {E : List De} {i : Nat} {vn : Value} (h : GA w wr N E i vn) (hb : Below wr.heap.size wr w') : GA w w' N E i vn :=
  ⟨h.below.trans (hb.mono (Nat.le_trans (by omega) h.size)), Nat.le_trans h.size hb.size, block_stay h.res hb, block_stay h.tg hb, h.m1.block (hb.block _ h.m1.lt), h.m2.block (hb.block _ h.m2.lt), h.row.stay hb⟩
theorem GA.cells {w wr : World} {N : Nat} {E : List De} {i : Nat} {vn : Value} (h : GA w wr N E i vn) : wr.cell? ⟨N + 3, 0, none⟩ = some (.map (some (N + 1))) ∧ wr.cell? ⟨N + 3, 1, none⟩ = some (.map (some (N + 2))) ∧ wr.cell? ⟨N + 3, 2, none⟩ = some vn :=
  ⟨cells_of_block h.tg 0 _ rfl, cells_of_block h.tg 1 _ rfl, cells_of_block h.tg 2 _ rfl⟩
theorem ga_start (w : World) (E : List De) : GA w ((((w.alloc (.cells #[.map none, .map none, .slice none 0 0] 69)).alloc (.map #[] 0)).alloc (.map #[] 0)).alloc (.cells #[.map (some (w.heap.size + 1)), .map (some (w.heap.size + 2)), .slice none 0 0] 69)) w.heap.size E 0 (.slice none 0 0) := by
  obtain ⟨a, ha⟩ : ∃ a, w.alloc (.cells #[.map none, .map none, .slice none 0 0] 69) = a := ⟨_, rfl⟩
  have sa : a.heap.size = w.heap.size + 1 := by rw [← ha]; simp
  have ka := MapKept.heap_alloc w (.cells #[.map none, .map none, .slice none 0 0] 69)
  rw [ha] at ka ⊢
  obtain ⟨b, hb⟩ : ∃ b, a.alloc (.map #[] 0) = b := ⟨_, rfl⟩
  have sb : b.heap.size = w.heap.size + 2 := by rw [← hb]; simp [sa]
  have kb := MapKept.heap_alloc a (.map #[] 0)
  have mb := MapI.made a
  rw [hb, sa] at kb mb
  rw [hb]
  obtain ⟨c, hc⟩ : ∃ c, b.alloc (.map #[] 0) = c := ⟨_, rfl⟩
  have sc : c.heap.size = w.heap.size + 3 := by rw [← hc]; simp [sb]
  have kc := MapKept.heap_alloc b (.map #[] 0)
  have mc := MapU.made b
  rw [hc, sb] at kc mc
  rw [hc]
  have kd := MapKept.heap_alloc c (.cells #[.map (some (w.heap.size + 1)), .map (some (w.heap.size + 2)), .slice none 0 0] 69)
  have hB : Below w.heap.size w (c.alloc (.cells #[.map (some (w.heap.size + 1)), .map (some (w.heap.size + 2)), .slice none 0 0] 69)) := by
    have b1 : Below w.heap.size w a := by rw [← ha]; exact (Below.refl _ _).alloc (Nat.le_refl _) _
    have b2 : Below w.heap.size w b := by rw [← hb]; exact b1.alloc b1.size _
    have b3 : Below w.heap.size w c := by rw [← hc]; exact b2.alloc b2.size _
    exact b3.alloc b3.size _
  rw [sc] at kd
  refine ⟨hB, by simp [sc], ?_, kd.1, ?_, ?_, World.ownsRow_nil _ _ _ _⟩
  · rw [kd.2 _ (by omega), kc.2 _ (by omega), kb.2 _ (by omega)]; exact ka.1
  · have e : oft (E.take 0) = fun _ => 0 := funext fun t => by simp [oft, cntT]
    rw [e]
    exact (mb.block (kc.2 _ (by omega))).block (kd.2 _ (by omega))
  · have e : lvT (E.take 0) = fun _ => 0 := funext fun t => by simp [lvT, valT]
    rw [e]
    exact mc.block (kd.2 _ (by omega))
theorem oft_le (E : List De) (t : Nat) : oft E t ≤ E.length := by
  unfold oft
  split
  · exact cnt_le E t
  · omega
/-- A tag that is looked at: both maps are turned. -/
theorem GA.tags {w W0 : World} {N : Nat} {E : List De} {i : Nat} {vn : Value} (h : GA w W0 N E i vn) (hi : i < E.length) (hl : E.length ≤ 128) (hok : ∀ e ∈ E, e.ok) (hk : kn E[i].tag = true) :
    (Instr.lookup 65 (.map (some (N + 1))) (.int .u64 (E[i].tag : Nat)) false).run Tryd.prog W0 = .ok (.int .i64 (oft (E.take i) E[i].tag : Nat)) W0 ∧
    ∃ W1, (Instr.mapUpdate 65 (.map (some (N + 1))) (.int .u64 (E[i].tag : Nat)) (.int .i64 ((oft (E.take i) E[i].tag : Int) + 1))).run Tryd.prog W0 = .ok () W1 ∧ W0.grownBy W1 (some (N + 1)) ∧
    ∃ W2, (Instr.mapUpdate 66 (.map (some (N + 2))) (.int .u64 (E[i].tag : Nat)) (.int .u64 (E[i].val : Nat))).run Tryd.prog W1 = .ok () W2 ∧ W1.grownBy W2 (some (N + 2)) ∧
    (E[i].tag ≠ 1 → GA w W2 N E (i + 1) vn) ∧ (E[i].tag = 1 → OwnU W2 (N + 4) vn (needs (E.take i)) ∧ ∀ W3 v', (∀ k, k < W2.heap.size → k ≠ N + 3 → (∀ g, vn.ownBlock = some g → k ≠ g) → W3.heap[k]? = W2.heap[k]?) → W2.heap.size ≤ W3.heap.size → W3.os = W2.os → W3.tape = W2.tape → W3.output = W2.output →
      W3.heap[N + 3]? = some (.cells #[.map (some (N + 1)), .map (some (N + 2)), v'] 69 (0, 0)) → OwnU W3 (N + 4) v' (needs (E.take i) ++ [E[i].val]) → GA w W3 N E (i + 1) v') ∧ W2.heap[N + 3]? = some (.cells #[.map (some (N + 1)), .map (some (N + 2)), vn] 69 (0, 0)) := by
  have ho := hok _ (List.getElem_mem hi)
  have ht := ho.tag
  have hv := ho.val
  have hol := oft_le (E.take i) E[i].tag
  have hol2 : oft (E.take i) E[i].tag ≤ 128 := Nat.le_trans hol (by rw [List.length_take]; omega)
  refine ⟨h.m1.get _ ht, ?_⟩
  obtain ⟨W1, r1, p1, g1⟩ := h.m1.put E[i].tag ht (by omega) (oft (E.take i) E[i].tag + 1) (by omega)
  have n1 : MapU W1 (N + 2) i (lvT (E.take i)) := h.m2.block (g1.block _ h.m2.lt (fun e => by injection e with e; omega))
  refine ⟨W1, by simpa using r1, g1, ?_⟩
  obtain ⟨W2, r2, p2, g2⟩ := n1.put E[i].tag ht (by omega) E[i].val hv
  have hlt : N + 4 ≤ W0.heap.size := h.size
  have q1 : MapI W2 (N + 1) (i + 1) (oft (E.take (i + 1))) := by
    have e : oft (E.take (i + 1)) = fun s => if s = E[i].tag then oft (E.take i) E[i].tag + 1 else oft (E.take i) s := funext fun s => by
      rw [oft_more hi s]
      by_cases c : s = E[i].tag
      · subst c; rw [if_pos ⟨hk, rfl⟩, if_pos rfl]
      · rw [if_neg (fun d => c d.2.symm), if_neg c]
    rw [e]
    exact p1.block (g2.block _ p1.lt (fun e => by injection e with e; omega))
  have q2 : MapU W2 (N + 2) (i + 1) (lvT (E.take (i + 1))) := by
    have e : lvT (E.take (i + 1)) = fun s => if s = E[i].tag then E[i].val else lvT (E.take i) s := funext fun s => by
      rw [lv_more hi s]
      by_cases c : s = E[i].tag
      · subst c; rw [if_pos ⟨hk, rfl⟩, if_pos rfl]
      · rw [if_neg (fun d => c d.2.symm), if_neg c]
    rw [e]
    exact p2
  have bl : ∀ k, k < W0.heap.size → k ≠ N + 1 → k ≠ N + 2 → W2.heap[k]? = W0.heap[k]? := fun k hk a b => by
    rw [g2.block k (Nat.lt_of_lt_of_le hk g1.size) (fun e => b (Option.some.inj e)), g1.block k hk (fun e => a (Option.some.inj e))]
  have hb2 : Below N w W2 := ⟨g2.os.trans (g1.os.trans h.below.os), g2.tape.trans (g1.tape.trans h.below.tape), g2.output.trans (g1.output.trans h.below.output), Nat.le_trans h.below.size (Nat.le_trans g1.size g2.size), fun k hk => by
    rw [bl k (by omega) (by omega) (by omega)]; exact h.below.block k hk⟩
  have hr2 : OwnU W2 (N + 4) vn (needs (E.take i)) := by
    refine (h.row.apart g1 (fun k hk e => ?_)).apart g2 (fun k hk e => ?_)
    · have := (World.ownsRow.lt h.row k hk).1; injection e with e; omega
    · have := (World.ownsRow.lt h.row k hk).1; injection e with e; omega
  have ht2 := (bl (N + 3) (by omega) (by omega) (by omega)).trans h.tg
  have hs2 : N + 4 ≤ W2.heap.size := Nat.le_trans hlt (Nat.le_trans g1.size g2.size)
  refine ⟨W2, r2, g2, fun hne => ?_, fun he => ⟨hr2, fun W3 v' hW hsz h1 h2 h3 h4 h5 => ?_⟩, ht2⟩
  · refine ⟨hb2, hs2, (bl N (by omega) (by omega) (by omega)).trans h.res, ht2, q1, q2, ?_⟩
    rw [needs_more hi, if_neg hne, List.append_nil]
    exact hr2
  · have far : ∀ k, k < N + 4 → k ≠ N + 3 → W3.heap[k]? = W2.heap[k]? := fun k hk hn => hW k (by omega) hn (fun g hg => by have := (World.ownsRow.lt hr2 g hg).1; omega)
    refine ⟨⟨h1.trans hb2.os, h2.trans hb2.tape, h3.trans hb2.output, Nat.le_trans hb2.size hsz, fun k hk => (far k (by omega) (by omega)).trans (hb2.block k hk)⟩, Nat.le_trans hs2 hsz, (far N (by omega) (by omega)).trans ((bl N (by omega) (by omega) (by omega)).trans h.res), h4, q1.block (far _ (by omega) (by omega)), q2.block (far _ (by omega) (by omega)), ?_⟩
    rw [needs_more hi, if_pos he]
    exact h5
/-- Entries by their tags. -/
structure TagsAt (w : World) (M1 M2 : Nat) (vn : Value) (E : List De) : Prop where
  m1 : ∃ n, MapI w M1 n (oft E)
  m2 : ∃ n, MapU w M2 n (lvT E)
  row : ArgU w vn (needs E)
theorem TagsAt.below {w w' : World} {M1 M2 : Nat} {vn : Value} {E : List De} (h : TagsAt w M1 M2 vn E) (hb : Below w.heap.size w w') : TagsAt w' M1 M2 vn E := by
  obtain ⟨⟨n, h1⟩, ⟨m, h2⟩, h3⟩ := h
  exact ⟨⟨n, h1.block (hb.block _ h1.lt)⟩, ⟨m, h2.block (hb.block _ h2.lt)⟩, h3.below hb⟩
def IsTags (E : List De) (e : Ending) (w' : World) : Prop := ∃ M1 M2 vn, e = .returned (.agg #[.map (some M1), .map (some M2), vn]) ∧ TagsAt w' M1 M2 vn E
theorem tg_size : ∀ w, (Go.sizeOf 69).run Tryd.prog w = .ok 3 w := Tryd.sizeOf69
theorem us_size : ∀ w, (Go.sizeOf 67).run Tryd.prog w = .ok 1 w := Tryd.sizeOf67
theorem en_cells (w : World) (e : De) : (w.alloc (.cells #[.int .u64 (e.tag : Nat), .int .u64 (e.val : Nat)] 63)).heap[w.heap.size]? = some (.cells #[.int .u64 (e.tag : Nat), .int .u64 (e.val : Nat)] 63 (0, 0)) := (MapKept.heap_alloc w _).1
set_option maxHeartbeats 4000000 in
set_option maxRecDepth 20000 in
theorem dyn_gather (w : World) (v : Value) (E : List De) (h : ArgD w v E) (hl : E.length ≤ 128) (hok : ∀ e ∈ E, e.ok) :
    Calls Tryd.prog 23 #[v] w fun e w' => IsTags E e w' ∧ Below w.heap.size w w' := by
  have HA := hide h
  have HOK := hide hok
  obtain ⟨a, cap, rfl⟩ := h.form
  obtain ⟨n, hN⟩ : ∃ n, E.length = n := ⟨_, rfl⟩
  have HN := hide hN
  have HG := hide (ga_start w E)
  have hmm := @run_makeMap Tryd.prog
  rw [hN] at hl ⊢
  rw [hN] at HA
  clear h hok hN
  go_enter Tryd.func23, Tryd.ntmps23
  go_wp2
  clear hmm
  generalize hNN : w.heap.size = N at *
  have HNN := hide hNN
  generalize hw0 : (World.alloc _ _).alloc _ = w0 at *
  clear hw0 hNN
  go_loopw [11] (fun vi wr => ∃ (i : Nat) (vn : Value), vi = .int .i64 i ∧ i ≤ n ∧ Hid (GA w wr N E i vn))
    (fun vi _ => n - (intOf vi).toNat)
  case atStart => exact ⟨0, _, rfl, by omega, HG⟩
  case round =>
    obtain ⟨i, vn, rfl, hi, HG1⟩ := hrel
    clear HG
    by_cases hlt : i < n
    · have hltI : (i : Int) < (n : Int) := by omega
      have hil : i < E.length := by rw [HN.out]; exact hlt
      obtain ⟨g, rfl, p1, p2, _, y0, y1⟩ := (HA.out.below (by rw [HNN.out]; exact HG1.out.below)).at i hil
      have hok := HOK.out _ (List.getElem_mem hil)
      have hta := hok.tag
      have hva := hok.val
      have HT := hide (fun W0 (hG : GA w W0 N E i vn) hk => hG.tags hil (by rw [HN.out]; exact hl) HOK.out hk)
      have HNX := hide (fun W0 (hG : GA w W0 N E i vn) (hk : kn E[i].tag = false) => (show GA w W0 N E (i + 1) vn from by
        refine ⟨hG.below, hG.size, hG.res, hG.tg, ?_, ?_, ?_⟩
        · have e : oft (E.take (i + 1)) = oft (E.take i) := funext fun t => by
            rw [oft_more hil t, if_neg]
            intro c
            rw [c.2, c.1] at hk
            cases hk
          rw [e]; exact hG.m1.le (by omega)
        · have e : lvT (E.take (i + 1)) = lvT (E.take i) := funext fun t => by
            rw [lv_more hil t, if_neg]
            intro c
            rw [c.2, c.1] at hk
            cases hk
          rw [e]; exact hG.m2.le (by omega)
        · rw [needs_more hil, if_neg (fun c => by rw [c] at hk; cases hk), List.append_nil]
          exact hG.row))
      have hkn := dyn_known E[i].tag
      have HX := hide (en_cells wr E[i])
      have HGA := hide (HG1.out.stay ((Below.refl _ wr).alloc (Nat.le_refl _) (.cells #[.int .u64 (E[i].tag : Nat), .int .u64 (E[i].val : Nat)] 63)))
      generalize E[i].tag = tg at *
      generalize E[i].val = vl at *
      have HZ : Hid (N + 4 ≤ wr.heap.size) := HG1.out.size
      clear hok HG1
      go_wp2_with fail
      generalize wr.heap.size = Z at *
      generalize wr.alloc _ = W0 at *
      clear y0 y1
      have k := hkn W0
      cases hk : kn tg
      · rw [hk] at k
        refine k.mono ?_
        rintro e w' ⟨rfl, rfl⟩
        have HG2 := hide (HNX.out W0 HGA.out hk)
        clear k hk HNX HT HGA
        go_wp2
        go_roundw
        case rel => exact ⟨i + 1, vn, by go_num, by omega, HG2⟩
        case measure => simp [intOf]; omega
      · rw [hk] at k
        refine k.mono ?_
        rintro e w' ⟨rfl, rfl⟩
        obtain ⟨l0, W1, up1, g1, W2, up2, g2, hne, heq, htg2⟩ := HT.out W0 HGA.out hk
        obtain ⟨t0, t1, _⟩ := HGA.out.cells
        have x0 := cells_of_block HX.out 0 _ rfl
        have x1 := cells_of_block HX.out 1 _ rfl
        have hZl : Z < W0.heap.size := (Array.getElem?_eq_some_iff.1 HX.out).1
        have hNl : N + 3 < W0.heap.size := Nat.lt_of_lt_of_le (by omega) HGA.out.size
        have hX1 : W1.heap[Z]? = W0.heap[Z]? := g1.block Z hZl (fun e => by have := HZ.out; injection e with e; omega)
        have hT1 : W1.heap[N + 3]? = W0.heap[N + 3]? := g1.block _ hNl (fun e => by injection e with e; omega)
        have hX2 : W2.heap[Z]? = W0.heap[Z]? := (g2.block Z (Nat.lt_of_lt_of_le hZl g1.size) (fun e => by have := HZ.out; injection e with e; omega)).trans hX1
        have u0 := cells_of_block (hX1.trans HX.out) 0 _ rfl
        have u1 := cells_of_block (hX1.trans HX.out) 1 _ rfl
        have v1 := cells_of_block (hT1.trans HGA.out.tg) 1 _ rfl
        have z0 := cells_of_block (hX2.trans HX.out) 0 _ rfl
        have z1 := cells_of_block (hX2.trans HX.out) 1 _ rfl
        have z2 := cells_of_block htg2 2 _ rfl
        have HNE := hide hne
        have HEQ := hide heq
        have HT2 := hide htg2
        have HN2 : Hid (N + 4 ≤ W2.heap.size) := Nat.le_trans HGA.out.size (Nat.le_trans g1.size g2.size)
        have hof := oft_le (E.take i) tg
        have hofl : (oft (E.take i) tg : Int) ≤ 128 := by
          have : (E.take i).length ≤ 128 := by rw [List.length_take]; have := HN.out; omega
          omega
        generalize oft (E.take i) tg = oo at *
        clear k hk HNX HT HGA g1 g2 hne heq htg2 hX1 hT1 hX2 HX hof hkn
        by_cases ht1 : tg = 1
        · have htb : ((tg : Int) == 1) = true := by rw [ht1]; rfl
          obtain ⟨hrow, hfin⟩ := HEQ.out ht1
          have HROW := hide hrow
          have HFIN := hide hfin
          clear HNE HEQ hrow hfin ht1
          have hnl : (needs (E.take i)).length ≤ 128 := Nat.le_trans (needs_le _) (by rw [List.length_take]; have := HN.out; omega)
          go_wp2_with (at_builtin; refine append_u rfl _ _ rfl (N + 4) W2 vn (needs (E.take i)) [vl] HROW.out rfl rfl (by simp; omega) HN2.out ?_)
          intro v' w5 hown5 hg5 hp5
          have HT5 : Hid (w5.heap[N + 3]? = some (.cells #[.map (some (N + 1)), .map (some (N + 2)), vn] 69 (0, 0))) := by
            rw [Hid, hg5.block (N + 3) (Nat.lt_of_lt_of_le (by omega) HN2.out) (fun e => by have := (World.ownsRow.lt HROW.out _ e.symm).1; omega)]
            exact HT2.out
          obtain ⟨a5, c5, hv5⟩ := (hown5.arg (by simp; omega)).form
          have HO5 := hide hown5
          have HG5 := hide hg5
          generalize ((needs (E.take i)) ++ [vl]).length = n5 at hv5
          subst hv5
          clear hown5 hg5 hp5 z0 z1 z2 u0 u1 v1 x0 x1 t0 t1
          go_wp2_with ((with_reducible refine at_store ?_); refine store_any rfl _ _ _ rfl (N + 3) 2 69 _ (.slice a5 n5 c5) [.slice a5 n5 c5] #[.map (some (N + 1)), .map (some (N + 2)), .slice a5 n5 c5] HT5.out rfl rfl rfl us_size (by intro u hu; rw [List.mem_singleton.1 hu]; rfl) (show 2 + 1 ≤ 3 by decide) rfl ?_)
          intro w6 hg6 hb6
          have HG6 := hide (HFIN.out w6 (.slice a5 n5 c5) (fun k hk h3 ho => by
            rw [hb6.block k (Nat.lt_of_lt_of_le hk HG5.out.size) (fun e => h3 (Option.some.inj e)), HG5.out.block k hk (fun e => ho k e.symm rfl)])
            (Nat.le_trans HG5.out.size hb6.size) (hb6.os.trans HG5.out.os) (hb6.tape.trans HG5.out.tape) (hb6.output.trans HG5.out.output) hg6
            (HO5.out.apart hb6 (fun k hk e => by have := (World.ownsRow.lt HO5.out k hk).1; injection e with e; omega)))
          clear hg6 hb6 HG5 HO5 HT5 HFIN HROW HT2
          go_wp2
          go_roundw
          case rel => exact ⟨i + 1, _, by go_num, by omega, HG6⟩
          case measure => simp [intOf]; omega
        · have htb : ((tg : Int) == 1) = false := by rw [beq_eq_false_iff_ne]; omega
          have HG2 := hide (HNE.out ht1)
          clear HNE HEQ ht1
          go_wp2
          go_roundw
          case rel => exact ⟨i + 1, vn, by go_num, by omega, HG2⟩
          case measure => simp [intOf]; omega
    · have hltI : ¬ (i : Int) < (n : Int) := by omega
      have he : i = n := by omega
      subst he
      obtain ⟨t0, t1, t2⟩ := HG1.out.cells
      have hrow := HG1.out.row
      rw [← HN.out, List.take_length] at hrow
      have hnl := needs_le E
      obtain ⟨a5, c5, hv5⟩ := (hrow.arg (by have := HN.out; omega)).form
      generalize (needs E).length = n5 at hv5
      subst hv5
      have HGA := hide HG1.out
      have HRES := hide HG1.out.res
      clear HG1 hrow hnl
      go_wp2_with ((with_reducible refine at_store ?_); refine store_part rfl _ _ _ rfl N 0 69 _ [.map (some (N + 1)), .map (some (N + 2)), .slice a5 n5 c5] #[.map (some (N + 1)), .map (some (N + 2)), .slice a5 n5 c5] HRES.out rfl rfl tg_size (by intro u hu; simp only [List.mem_cons, List.not_mem_nil, or_false] at hu; rcases hu with rfl | rfl | rfl <;> rfl) (show 0 + 3 ≤ 3 by decide) rfl ?_)
      intro w6 hg6 hb6
      have HG6 := hide hg6
      have HB6 := hide hb6
      clear hg6 hb6 t0 t1 t2
      go_wp2
      refine bodyPost_ret (results_cell1 rfl _ _ N _ _ _ _ rfl HG6.out Tryd.underlying69 rfl (by kernel_rfl)) rfl ?_
      have g := HGA.out
      have far : ∀ k, k < wr.heap.size → k ≠ N → w6.heap[k]? = wr.heap[k]? := fun k hk hne => HB6.out.block k hk (fun e => hne (Option.some.inj e))
      have hsz := g.size
      refine ⟨⟨N + 1, N + 2, _, rfl, ⟨i, ?_⟩, ⟨i, ?_⟩, ?_⟩, ?_⟩
      · have := g.m1
        rw [← HN.out, List.take_length] at this
        rw [← HN.out]
        exact this.block (far _ (by omega) (by omega))
      · have := g.m2
        rw [← HN.out, List.take_length] at this
        rw [← HN.out]
        exact this.block (far _ (by omega) (by omega))
      · have := g.row
        rw [← HN.out, List.take_length] at this
        refine OwnU.arg (this.apart HB6.out (fun k hk e => ?_)) (Nat.le_trans (needs_le E) (by have := HN.out; omega))
        have := (World.ownsRow.lt this k hk).1
        injection e with e
        omega
      · rw [HNN.out]
        exact ⟨HB6.out.os.trans g.below.os, HB6.out.tape.trans g.below.tape, HB6.out.output.trans g.below.output, Nat.le_trans g.below.size HB6.out.size, fun k hk => (far k (by omega) (by omega)).trans (g.below.block k hk)⟩
end Go.Proofs.YtibfiikjelmhmaaDoor
namespace Go.Proofs.YtibfiikjelmhmaaDoor
open Go.RowKit Go.PlainAid Go.Sort
theorem bel1 (w : World) (o : Obj) : Below w.heap.size w (w.alloc o) := Below.alloc (Below.refl _ _) (Nat.le_refl _) o
theorem has_eq (E : List De) (t : Nat) : ((oft E t : Int) != 0) = hasT E t := by
  unfold hasT
  by_cases c : oft E t = 0
  · rw [c]; rfl
  · rw [decide_eq_true c]; simp; omega
theorem wf_u64' {n : Int} (h : (Lit.int .u64 n).wf = true) : 0 ≤ n ∧ n ≤ 18446744073709551615 := by
  have a : IntKind.u64.min = 0 := rfl
  have b : IntKind.u64.max = 18446744073709551615 := rfl
  simp [Lit.wf] at h
  omega
theorem tag_block (w : World) (M1 M2 : Nat) (a : Option Addr) (n c : Nat) : (w.alloc (.cells #[.map (some M1), .map (some M2), .slice a n c] 69)).heap[w.heap.size]? = some (.cells #[.map (some M1), .map (some M2), .slice a n c] 69 (0, 0)) := (MapKept.heap_alloc w _).1
set_option maxHeartbeats 1000000 in
theorem dyn_has (w : World) (M1 M2 : Nat) (a : Option Addr) (n c : Nat) (E : List De) (h : TagsAt w M1 M2 (.slice a n c) E) (t : Nat) (ht : (t : Int) ≤ 18446744073709551615) :
    Calls Tryd.prog 42 #[.agg #[.map (some M1), .map (some M2), .slice a n c], .int .u64 (t : Nat)] w fun e w' => e = .returned (.bool (hasT E t)) ∧ Below w.heap.size w w' := by
  have HB := hide (bel1 w (.cells #[.map (some M1), .map (some M2), .slice a n c] 69))
  obtain ⟨_, hm⟩ := (h.below HB.out).m1
  have hg := hm.get t ht
  have he := has_eq E t
  generalize oft E t = oo at *
  generalize hasT E t = hh at *
  clear h hm
  go_enter Tryd.func42, Tryd.ntmps42
  go_wp2
  go_ret
  exact ⟨by rw [← he]; rfl, HB.out⟩
def IdxSays (k : Int) (l : List Nat) (x : Nat) : Prop := decide (0 ≤ k) = l.contains x
set_option maxHeartbeats 1000000 in
theorem lib_Index (w : World) (v : Value) (l : List Nat) (h : ArgU w v l) (x : Nat) :
    Calls Tryd.prog 61 #[v, .int .u64 (x : Nat)] w fun e w' => ∃ k : Int, e = .returned (.int .i64 k) ∧ IdxSays k l x ∧ w = w' := by
  have HA := hide h
  obtain ⟨a, cap, rfl⟩ := h.form
  obtain ⟨n, hN⟩ : ∃ n, l.length = n := ⟨_, rfl⟩
  have HN := hide hN
  have hnl : n ≤ 65536 := by rw [← hN]; exact h.1
  rw [hN] at HA ⊢
  clear h hN
  go_enter Tryd.func61, Tryd.ntmps61
  go_wp2
  go_loop [8] (fun vi => ∃ i : Nat, vi = .int .i64 i ∧ i ≤ n ∧ Hid (∀ j (hj : j < l.length), j < i → l[j] ≠ x))
    (fun vi => n - (intOf vi).toNat)
  case atStart => exact ⟨0, rfl, by omega, fun j hj h => by omega⟩
  case round =>
    obtain ⟨i, rfl, hi, HP⟩ := hrel
    by_cases hlt : i < n
    · have hltI : (i : Int) < (n : Int) := by omega
      have hil : i < l.length := by rw [HN.out]; exact hlt
      obtain ⟨g, rfl, p1, p2, _, y0⟩ := HA.out.at i hil
      obtain ⟨z, hz⟩ : ∃ z, l[i] = z := ⟨_, rfl⟩
      rw [hz] at y0
      have HZ := hide hz
      clear hz
      by_cases c : z = x
      · have cb : ((x : Int) == (z : Int)) = true := by rw [c]; simp
        have HC := hide c
        clear c
        go_wp2
        go_ret
        refine ⟨_, rfl, ?_, rfl⟩
        rw [IdxSays, decide_eq_true (by omega)]
        symm
        rw [List.contains_iff_mem]
        rw [← HC.out, ← HZ.out]
        exact List.getElem_mem hil
      · have cb : ((x : Int) == (z : Int)) = false := by rw [beq_eq_false_iff_ne]; omega
        have HC := hide c
        clear c
        go_wp2
        go_round
        case rel => exact ⟨i + 1, by go_num, by omega, fun j hj hji => by
          by_cases e : j = i
          · subst e; rw [HZ.out]; exact HC.out
          · exact HP.out j hj (by omega)⟩
        case measure => simp [intOf]; omega
    · have hltI : ¬ (i : Int) < (n : Int) := by omega
      go_wp2
      go_ret
      refine ⟨_, rfl, ?_, rfl⟩
      rw [IdxSays, decide_eq_false (by omega)]
      symm
      rw [Bool.eq_false_iff]
      intro hc
      rw [List.contains_iff_mem] at hc
      obtain ⟨j, hj, e⟩ := List.mem_iff_getElem.1 hc
      exact HP.out j hj (by have := HN.out; omega) e
set_option maxHeartbeats 1000000 in
theorem lib_Contains (w : World) (v : Value) (l : List Nat) (h : ArgU w v l) (x : Nat) :
    Calls Tryd.prog 58 #[v, .int .u64 (x : Nat)] w fun e w' => e = .returned (.bool (l.contains x)) ∧ w = w' := by
  have k := lib_Index w v l h x
  obtain ⟨a, cap, rfl⟩ := h.form
  go_enter Tryd.func58, Tryd.ntmps58
  go_wp2_with fail
  refine k.mono ?_
  rintro e w' ⟨z, rfl, hz, rfl⟩
  go_wp2
  go_ret
  exact ⟨by rw [← show decide (0 ≤ z) = l.contains x from hz]; rfl, rfl⟩
set_option maxHeartbeats 1000000 in
theorem dyn_only (w : World) (M1 M2 : Nat) (a : Option Addr) (n c : Nat) (E : List De) (h : TagsAt w M1 M2 (.slice a n c) E) (t : Nat) (ht : (t : Int) ≤ 18446744073709551615) (v : Value) (l : List Nat) (hv : ArgU w v l) :
    Calls Tryd.prog 43 #[.agg #[.map (some M1), .map (some M2), .slice a n c], .int .u64 (t : Nat), v] w fun e w' => e = .returned (.bool (onlyB E t l)) ∧ Below w.heap.size w w' := by
  have HB := hide (bel1 w (.cells #[.map (some M1), .map (some M2), .slice a n c] 69))
  have HT := hide (h.below HB.out)
  have HV := hide (hv.below HB.out)
  have HG := hide (tag_block w M1 M2 a n c)
  have k1 := dyn_has _ M1 M2 a n c E HT.out t ht
  obtain ⟨va, vc, rfl⟩ := hv.form
  unfold onlyB
  generalize l.length = ln at *
  cases hh : hasT E t
  · rw [hh] at k1
    clear h hv hh
    go_enter Tryd.func43, Tryd.ntmps43
    go_wp2_with fail
    refine k1.mono ?_
    rintro e w1 ⟨rfl, hb1⟩
    have HB1 := hide (HB.out.trans (hb1.mono HB.out.size))
    clear k1 hb1
    go_wp2
    go_ret
    exact ⟨rfl, HB1.out⟩
  · rw [hh] at k1
    clear h hv hh
    go_enter Tryd.func43, Tryd.ntmps43
    go_wp2_with fail
    refine k1.mono ?_
    generalize w.alloc _ = w0 at *
    generalize hsz : w.heap.size = Z at *
    have HSZ := hide hsz
    clear hsz
    rintro e w1 ⟨rfl, hb1⟩
    have HB1 : Hid (Below Z w w1) := HB.out.trans (hb1.mono (by have := HB.out.size; have := HSZ.out; omega))
    obtain ⟨_, hm⟩ := (HT.out.below hb1).m2
    have hg := hm.get t ht
    have x1 := cells_of_block (block_stay HG.out hb1) 1 _ rfl
    have k2 := lib_Contains w1 _ l (HV.out.below hb1) (lvT E t)
    obtain ⟨cc, hcc⟩ : ∃ cc, l.contains (lvT E t) = cc := ⟨_, rfl⟩
    rw [hcc] at k2
    have HCC := hide hcc
    clear k1 hb1 HB HT HV HG hm hcc
    go_wp2_with fail
    refine k2.mono ?_
    rintro e w' ⟨rfl, rfl⟩
    go_wp2
    go_ret
    exact ⟨by rw [HCC.out]; cases cc <;> rfl, by rw [HSZ.out]; exact HB1.out⟩
/-! ### More than once -/
theorem twice_of {E : List De} {t : Nat} (h : 1 < oft E t) (h1 : t ≠ 1) : twiceB E = true := by
  unfold oft at h
  by_cases k : kn t = true
  · rw [if_pos k] at h
    unfold twiceB
    rw [List.any_eq_true]
    unfold kn at k
    rw [List.contains_iff_mem] at k
    exact ⟨t, k, by simp [h, h1]⟩
  · rw [if_neg k] at h; omega
theorem twice_not {E : List De} (h : ∀ t, 1 < oft E t → t ≠ 1 → False) : twiceB E = false := by
  unfold twiceB
  rw [List.any_eq_false]
  intro t ht hc
  simp only [Bool.and_eq_true, decide_eq_true_eq] at hc
  exact h t (by rw [oft_is ht]; exact hc.1) hc.2
set_option maxHeartbeats 4000000 in
set_option maxRecDepth 20000 in
theorem dyn_twice (w : World) (M1 M2 : Nat) (a : Option Addr) (n c : Nat) (E : List De) (h : TagsAt w M1 M2 (.slice a n c) E) :
    Calls Tryd.prog 24 #[.agg #[.map (some M1), .map (some M2), .slice a n c]] w fun e w' => e = .returned (.bool (twiceB E)) ∧ Below w.heap.size w w' := by
  have HB := hide (bel1 w (.cells #[.map (some M1), .map (some M2), .slice a n c] 69))
  obtain ⟨k, D, hown, hat⟩ := (h.below HB.out).m1
  have HAT := hide hat
  obtain ⟨TW, hTW⟩ : ∃ TW, twiceB E = TW := ⟨_, rfl⟩
  have HTW := hide hTW
  rw [hTW]
  clear h hTW hat
  have sz : (w.alloc (.cells #[.map (some M1), .map (some M2), .slice a n c] 69)).heap.size = w.heap.size + 1 := by simp
  have HSZ := hide sz
  clear sz
  go_enter Tryd.func24, Tryd.ntmps24
  go_wp2_with (first
    | (at_range; refine wpList_range_own _ rfl _ 65 rfl 26 3 keyU Tryd.underlying65 _ M1 k D rfl hown ?_; intro w0 hrg0 hg0 hs0)
    | go_in)
  go_frame
  simp only [HSZ.out] at *
  have HB0 : Hid (Below w.heap.size w w0) := HB.out.trans (⟨hg0.os, hg0.tape, hg0.output, hg0.size, fun q hq => hg0.block q (Nat.lt_of_lt_of_le hq HB.out.size) (by simp)⟩)
  have HR0 := hide hrg0
  clear hrg0 hg0 hs0 hown HB HSZ
  go_loopw [8] (fun _ wr => ∃ (left : Lit → Bool) (cnt : Nat), Hid (wr.ranges Tryd.prog 26 (plainElem Tryd.prog 3) M1 (w.heap.size + 1) k D left cnt) ∧ Hid (Below w.heap.size w wr) ∧ Hid (∀ t : Nat, 1 < oft E t → t ≠ 1 → left (.int .u64 (t : Nat)) = true))
    (fun _ wr => wr.rangeLeft M1 (w.heap.size + 1))
  case atStart =>
    refine ⟨_, _, HR0, HB0, fun t ht _ => ?_⟩
    cases hh : Maps.has D (.int .u64 (t : Nat))
    · have := HAT.out t
      rw [Maps.atKey_of_not_has hh] at this
      simp only [DataW.lit.injEq, Lit.int.injEq, true_and] at this
      omega
    · rfl
  case round =>
    obtain ⟨left, cnt, HR, HBW, HL⟩ := hrel
    go_wp2_with (first
      | (at_next; refine wpList_next_ranges_ii _ rfl _ rfl 26 3 .u64 .i64 keyU Tryd.underlying26 Tryd.underlying3 M1 (w.heap.size + 1) k D _ _ rfl HR.out ?_ ?_)
      | go_in)
    · intro _ hl0
      have hno : twiceB E = false := twice_not (fun t h1 h2 => by have := HL.out t h1 h2; rw [hl0] at this; cases this)
      have HNO := hide hno
      clear hno hl0
      go_wp2
      go_ret
      exact ⟨by rw [← HTW.out, HNO.out]; rfl, HBW.out⟩
    · intro x cv w1 cnt1 hwx hwc hlx hat1 hrg1 hlt hg1 hs1 hen
      have HB1 : Hid (Below w.heap.size w w1) := HBW.out.grown hg1 (by have := HBW.out.size; exact this) (fun q hq => by injection hq with hq; omega)
      have hx0 := wf_u64' hwx
      obtain ⟨xn, rfl⟩ := Int.eq_ofNat_of_zero_le hx0.1
      have hcv : cv = (oft E xn : Int) := by
        have e1 := HAT.out xn
        rw [hat1] at e1
        simp only [DataW.lit.injEq, Lit.int.injEq, true_and] at e1
        exact e1
      subst hcv
      have HR1 := hide hrg1
      have HLT : Hid (cnt1 < cnt) := hlt
      clear hwx hwc hat1 hrg1 hlt hg1 hs1 hlx
      by_cases hbad : 1 < oft E xn ∧ xn ≠ 1
      · have hyes := twice_of hbad.1 hbad.2
        have d1 : (1 : Int) < (oft E xn : Int) := by omega
        have d2 : ((xn : Int) != 1) = true := by simp; omega
        have HY := hide hyes
        clear hbad hyes
        go_wp2
        go_ret
        exact ⟨by rw [← HTW.out, HY.out]; rfl, HB1.out⟩
      · have HL1 : Hid (∀ t : Nat, 1 < oft E t → t ≠ 1 → (left (.int .u64 (t : Nat)) && !(Lit.int .u64 (t : Nat)).sameKey (.int .u64 (xn : Nat))) = true) := fun t h1 h2 => by
          have hne : t ≠ xn := fun e => hbad (by rw [← e]; exact ⟨h1, h2⟩)
          rw [HL.out t h1 h2, Maps.sameKey_ne (fun e => hne (by injection e with _ e; omega))]
          rfl
        by_cases d : 1 < oft E xn
        · have d1 : (1 : Int) < (oft E xn : Int) := by omega
          have hx1 : xn = 1 := by
            by_cases e : xn = 1
            · exact e
            · exact absurd ⟨d, e⟩ hbad
          have d2 : ((xn : Int) != 1) = false := by rw [hx1]; rfl
          clear hbad d hx1
          go_wp2
          go_roundw
          case rel => exact ⟨_, cnt1, HR1, HB1, HL1⟩
          case measure => rw [HR1.out.left_eq, HR.out.left_eq]; exact HLT.out
        · have d1 : ¬ (1 : Int) < (oft E xn : Int) := by omega
          clear hbad d
          go_wp2
          go_roundw
          case rel => exact ⟨_, cnt1, HR1, HB1, HL1⟩
          case measure => rw [HR1.out.left_eq, HR.out.left_eq]; exact HLT.out
end Go.Proofs.YtibfiikjelmhmaaDoor
namespace Go.Proofs.YtibfiikjelmhmaaDoor
open Go.RowKit Go.PlainAid Go.Sort
theorem tag_cells {w : World} {Z M1 M2 : Nat} {a : Option Addr} {n c : Nat} (h : w.heap[Z]? = some (.cells #[.map (some M1), .map (some M2), .slice a n c] 69 (0, 0))) : w.cell? ⟨Z, 0, none⟩ = some (.map (some M1)) ∧ w.cell? ⟨Z, 1, none⟩ = some (.map (some M2)) ∧ w.cell? ⟨Z, 2, none⟩ = some (.slice a n c) :=
  ⟨cells_of_block h 0 _ rfl, cells_of_block h 1 _ rfl, cells_of_block h 2 _ rfl⟩
set_option maxHeartbeats 1000000 in
set_option maxRecDepth 20000 in
theorem dyn_valued (w : World) (M1 M2 : Nat) (a : Option Addr) (n c : Nat) (E : List De) (h : TagsAt w M1 M2 (.slice a n c) E) :
    Calls Tryd.prog 26 #[.agg #[.map (some M1), .map (some M2), .slice a n c]] w fun e w' => e = .returned (.bool (valdB E)) ∧ Below w.heap.size w w' := by
  have HB0 := hide (bel1 w (.cells #[.map (some M1), .map (some M2), .slice a n c] 69))
  have HT0 := hide (h.below HB0.out)
  have HG0 := hide (tag_block w M1 M2 a n c)
  have HVD : Hid (valdB E = (onlyB E 20 [7, 17] && (onlyB E 11 [24] && (onlyB E 9 [24] && (onlyB E 19 [16] && onlyB E 37 [8]))))) := rfl
  clear h
  go_enter Tryd.func26, Tryd.ntmps26
  have hbA0 := bel1 (w.alloc (.cells #[.map (some M1), .map (some M2), .slice a n c] 69)) (.cells #[.int .u64 7, .int .u64 17] 26)
  have k0 := dyn_only ((w.alloc (.cells #[.map (some M1), .map (some M2), .slice a n c] 69)).alloc (.cells #[.int .u64 7, .int .u64 17] 26)) M1 M2 a n c E (HT0.out.below hbA0) 20 (by decide) (.slice (some ⟨(w.alloc (.cells #[.map (some M1), .map (some M2), .slice a n c] 69)).heap.size, 0, none⟩) 2 2) [7, 17] ((OwnU.of_new (w.alloc (.cells #[.map (some M1), .map (some M2), .slice a n c] 69)) [7, 17] (by decide)).arg (by decide))
  have sz0 : (w.alloc (.cells #[.map (some M1), .map (some M2), .slice a n c] 69)).heap.size = w.heap.size + 1 := by simp
  rw [sz0] at k0
  clear sz0
  have HBn0 := hide (HB0.out.trans (hbA0.mono HB0.out.size))
  have HTn0 := hide (HT0.out.below hbA0)
  have HGn0 := hide (block_stay HG0.out hbA0)
  obtain ⟨ob, hob⟩ : ∃ ob, onlyB E 20 [7, 17] = ob := ⟨_, rfl⟩
  have HO0 := hide hob
  rw [hob] at k0
  clear hbA0 hob HB0 HT0
  have q0 : True := trivial
  have q1 : True := trivial
  have q2 : True := trivial
  go_wp2_with fail
  cases ob
  · refine k0.mono ?_
    rintro e w1 ⟨rfl, hb1⟩
    have HB1 := hide (HBn0.out.trans (hb1.mono HBn0.out.size))
    clear k0 hb1 q0 q1 q2
    go_wp2
    go_ret
    exact ⟨by rw [HVD.out]; rw [HO0.out]; rfl, HB1.out⟩
  · refine k0.mono ?_
    rintro e u0 ⟨rfl, hb1⟩
    have HB1 := hide (HBn0.out.trans (hb1.mono HBn0.out.size))
    have HT1 := hide (HTn0.out.below hb1)
    have HG1 := hide (block_stay HGn0.out hb1)
    clear k0 hb1 q0 q1 q2 HBn0 HTn0 HGn0 HG0
    have hbA1 := bel1 u0 (.cells #[.int .u64 24] 26)
    have k1 := dyn_only (u0.alloc (.cells #[.int .u64 24] 26)) M1 M2 a n c E (HT1.out.below hbA1) 11 (by decide) (.slice (some ⟨u0.heap.size, 0, none⟩) 1 1) [24] ((OwnU.of_new u0 [24] (by decide)).arg (by decide))
    have HBn1 := hide (HB1.out.trans (hbA1.mono HB1.out.size))
    have HTn1 := hide (HT1.out.below hbA1)
    have HGn1 := hide (block_stay HG1.out hbA1)
    obtain ⟨ob, hob⟩ : ∃ ob, onlyB E 11 [24] = ob := ⟨_, rfl⟩
    have HO1 := hide hob
    rw [hob] at k1
    clear hbA1 hob HB1 HT1
    obtain ⟨q0, q1, q2⟩ := tag_cells HG1.out
    go_wp2_with fail
    cases ob
    · refine k1.mono ?_
      rintro e w1 ⟨rfl, hb1⟩
      have HB1 := hide (HBn1.out.trans (hb1.mono HBn1.out.size))
      clear k1 hb1 q0 q1 q2
      go_wp2
      go_ret
      exact ⟨by rw [HVD.out]; rw [HO0.out, HO1.out]; rfl, HB1.out⟩
    · refine k1.mono ?_
      rintro e u1 ⟨rfl, hb1⟩
      have HB2 := hide (HBn1.out.trans (hb1.mono HBn1.out.size))
      have HT2 := hide (HTn1.out.below hb1)
      have HG2 := hide (block_stay HGn1.out hb1)
      clear k1 hb1 q0 q1 q2 HBn1 HTn1 HGn1 HG1
      have hbA2 := bel1 u1 (.cells #[.int .u64 24] 26)
      have k2 := dyn_only (u1.alloc (.cells #[.int .u64 24] 26)) M1 M2 a n c E (HT2.out.below hbA2) 9 (by decide) (.slice (some ⟨u1.heap.size, 0, none⟩) 1 1) [24] ((OwnU.of_new u1 [24] (by decide)).arg (by decide))
      have HBn2 := hide (HB2.out.trans (hbA2.mono HB2.out.size))
      have HTn2 := hide (HT2.out.below hbA2)
      have HGn2 := hide (block_stay HG2.out hbA2)
      obtain ⟨ob, hob⟩ : ∃ ob, onlyB E 9 [24] = ob := ⟨_, rfl⟩
      have HO2 := hide hob
      rw [hob] at k2
      clear hbA2 hob HB2 HT2
      obtain ⟨q0, q1, q2⟩ := tag_cells HG2.out
      go_wp2_with fail
      cases ob
      · refine k2.mono ?_
        rintro e w1 ⟨rfl, hb1⟩
        have HB1 := hide (HBn2.out.trans (hb1.mono HBn2.out.size))
        clear k2 hb1 q0 q1 q2
        go_wp2
        go_ret
        exact ⟨by rw [HVD.out]; rw [HO0.out, HO1.out, HO2.out]; rfl, HB1.out⟩
      · refine k2.mono ?_
        rintro e u2 ⟨rfl, hb1⟩
        have HB3 := hide (HBn2.out.trans (hb1.mono HBn2.out.size))
        have HT3 := hide (HTn2.out.below hb1)
        have HG3 := hide (block_stay HGn2.out hb1)
        clear k2 hb1 q0 q1 q2 HBn2 HTn2 HGn2 HG2
        have hbA3 := bel1 u2 (.cells #[.int .u64 16] 26)
        have k3 := dyn_only (u2.alloc (.cells #[.int .u64 16] 26)) M1 M2 a n c E (HT3.out.below hbA3) 19 (by decide) (.slice (some ⟨u2.heap.size, 0, none⟩) 1 1) [16] ((OwnU.of_new u2 [16] (by decide)).arg (by decide))
        have HBn3 := hide (HB3.out.trans (hbA3.mono HB3.out.size))
        have HTn3 := hide (HT3.out.below hbA3)
        have HGn3 := hide (block_stay HG3.out hbA3)
        obtain ⟨ob, hob⟩ : ∃ ob, onlyB E 19 [16] = ob := ⟨_, rfl⟩
        have HO3 := hide hob
        rw [hob] at k3
        clear hbA3 hob HB3 HT3
        obtain ⟨q0, q1, q2⟩ := tag_cells HG3.out
        go_wp2_with fail
        cases ob
        · refine k3.mono ?_
          rintro e w1 ⟨rfl, hb1⟩
          have HB1 := hide (HBn3.out.trans (hb1.mono HBn3.out.size))
          clear k3 hb1 q0 q1 q2
          go_wp2
          go_ret
          exact ⟨by rw [HVD.out]; rw [HO0.out, HO1.out, HO2.out, HO3.out]; rfl, HB1.out⟩
        · refine k3.mono ?_
          rintro e u3 ⟨rfl, hb1⟩
          have HB4 := hide (HBn3.out.trans (hb1.mono HBn3.out.size))
          have HT4 := hide (HTn3.out.below hb1)
          have HG4 := hide (block_stay HGn3.out hb1)
          clear k3 hb1 q0 q1 q2 HBn3 HTn3 HGn3 HG3
          have hbA4 := bel1 u3 (.cells #[.int .u64 8] 26)
          have k4 := dyn_only (u3.alloc (.cells #[.int .u64 8] 26)) M1 M2 a n c E (HT4.out.below hbA4) 37 (by decide) (.slice (some ⟨u3.heap.size, 0, none⟩) 1 1) [8] ((OwnU.of_new u3 [8] (by decide)).arg (by decide))
          have HBn4 := hide (HB4.out.trans (hbA4.mono HB4.out.size))
          have HTn4 := hide (HT4.out.below hbA4)
          have HGn4 := hide (block_stay HG4.out hbA4)
          obtain ⟨ob, hob⟩ : ∃ ob, onlyB E 37 [8] = ob := ⟨_, rfl⟩
          have HO4 := hide hob
          rw [hob] at k4
          clear hbA4 hob HB4 HT4
          obtain ⟨q0, q1, q2⟩ := tag_cells HG4.out
          go_wp2_with fail
          cases ob
          · refine k4.mono ?_
            rintro e w1 ⟨rfl, hb1⟩
            have HB1 := hide (HBn4.out.trans (hb1.mono HBn4.out.size))
            clear k4 hb1 q0 q1 q2
            go_wp2
            go_ret
            exact ⟨by rw [HVD.out]; rw [HO0.out, HO1.out, HO2.out, HO3.out, HO4.out]; rfl, HB1.out⟩
          · refine k4.mono ?_
            rintro e w1 ⟨rfl, hb1⟩
            have HB1 := hide (HBn4.out.trans (hb1.mono HBn4.out.size))
            clear k4 hb1 q0 q1 q2
            go_wp2
            go_ret
            exact ⟨by rw [HVD.out]; rw [HO0.out, HO1.out, HO2.out, HO3.out, HO4.out]; rfl, HB1.out⟩
end Go.Proofs.YtibfiikjelmhmaaDoor
namespace Go.Proofs.YtibfiikjelmhmaaDoor
open Go.RowKit Go.PlainAid Go.Sort
def txV (s : List UInt8) (p : Nat) : List UInt8 × Int := if (textAt s p).2 = 0 then ((textAt s p).1, 0) else ([], 91)
set_option maxHeartbeats 1000000 in
theorem dyn_textAt (w : World) (v : Value) (s : List UInt8) (h : Arg w v s) (p : Nat) (hp : (p : Int) ≤ 18446744073709551615) :
    Calls Tryd.prog 59 #[v, .int .u64 (p : Nat)] w fun e w' => e = .returned (.tuple #[.string (txb (txV s p).1), .int .i64 (txV s p).2]) ∧ Below w.heap.size w w' := by
  have k := le_Text w v s h p hp
  obtain ⟨a, cap, rfl, _⟩ := h.isSlice
  unfold txV txb
  generalize textAt s p = T at *
  obtain ⟨x, c⟩ := T
  generalize s.length = n at *
  clear h
  simp only at k ⊢
  by_cases hc : c = 0
  · subst hc
    go_enter Tryd.func59, Tryd.ntmps59
    go_wp2_with fail
    refine k.mono ?_
    rintro e w1 ⟨rfl, hb⟩
    go_wp2
    go_ret2
    exact ⟨rfl, hb⟩
  · have hcb : (c != 0) = true := by simpa using hc
    rw [if_neg hc]
    clear hc
    go_enter Tryd.func59, Tryd.ntmps59
    go_wp2_with fail
    refine k.mono ?_
    rintro e w1 ⟨rfl, hb⟩
    go_wp2
    go_ret2
    exact ⟨rfl, hb⟩
def nmV (s : List UInt8) (E : List De) (t : Nat) : List UInt8 × Int := if hasT E t = true then txV s (lvT E t) else ([], 0)
theorem nmV_is {s : List UInt8} {E : List De} {t : Nat} (hk : t ∈ knownL) (h1 : cntT E t ≤ 1) : nmV s E t = match nameT s E t with | none => ([], 91) | some x => (x, 0) := by
  unfold nmV nameT hasT txV
  rw [oft_is hk, lv_is hk h1]
  by_cases c : cntT E t = 1
  · rw [if_pos c, if_pos (by simp [c])]
    by_cases d : (textAt s (valT E t)).2 = 0
    · rw [if_pos d, if_pos d]
    · rw [if_neg d, if_neg d]
  · have : cntT E t = 0 := by omega
    rw [if_neg c, if_neg (by simp [this])]
set_option maxHeartbeats 1000000 in
theorem dyn_text (w : World) (M1 M2 : Nat) (a : Option Addr) (n c : Nat) (E : List De) (h : TagsAt w M1 M2 (.slice a n c) E) (v : Value) (s : List UInt8) (hv : Arg w v s) (t : Nat) (ht : (t : Int) ≤ 18446744073709551615) (hlv : (lvT E t : Int) ≤ 18446744073709551615) :
    Calls Tryd.prog 45 #[.agg #[.map (some M1), .map (some M2), .slice a n c], v, .int .u64 (t : Nat)] w fun e w' => e = .returned (.tuple #[.string (txb (nmV s E t).1), .int .i64 (nmV s E t).2]) ∧ Below w.heap.size w w' := by
  have HB := hide (bel1 w (.cells #[.map (some M1), .map (some M2), .slice a n c] 69))
  have HT := hide (h.below HB.out)
  have HV := hide (hv.below' HB.out)
  have HG := hide (tag_block w M1 M2 a n c)
  have k1 := dyn_has _ M1 M2 a n c E HT.out t ht
  have HTX := hide (fun W hW => dyn_textAt W v s hW (lvT E t) hlv)
  obtain ⟨va, vc, rfl, _⟩ := hv.isSlice
  obtain ⟨T, hT⟩ : ∃ T, nmV s E t = T := ⟨_, rfl⟩
  rw [hT]
  unfold nmV at hT
  generalize s.length = sn at *
  cases hh : hasT E t
  · rw [hh] at k1
    rw [hh, if_neg (by simp)] at hT
    subst hT
    clear h hv hh
    simp only [txb]
    go_enter Tryd.func45, Tryd.ntmps45
    go_wp2_with fail
    refine k1.mono ?_
    rintro e w1 ⟨rfl, hb1⟩
    have HB1 := hide (HB.out.trans (hb1.mono HB.out.size))
    clear k1 hb1
    go_wp2
    go_ret2
    exact ⟨rfl, HB1.out⟩
  · rw [hh] at k1
    rw [hh, if_pos rfl] at hT
    rw [hT] at HTX
    clear h hv hh hT
    go_enter Tryd.func45, Tryd.ntmps45
    go_wp2_with fail
    refine k1.mono ?_
    generalize w.alloc _ = w0 at *
    generalize hsz : w.heap.size = Z at *
    have HSZ := hide hsz
    clear hsz
    rintro e w1 ⟨rfl, hb1⟩
    have HB1 : Hid (Below Z w w1) := HB.out.trans (hb1.mono (by have := HB.out.size; have := HSZ.out; omega))
    have HL1 : Hid (Z ≤ w1.heap.size) := by have a1 := HB.out.size; have a2 := HSZ.out; have a3 := hb1.size; unfold Hid; omega
    obtain ⟨_, hm⟩ := (HT.out.below hb1).m2
    have hg := hm.get t ht
    have x1 := cells_of_block (block_stay HG.out hb1) 1 _ rfl
    have k2 := HTX.out w1 (HV.out.below' hb1)
    generalize lvT E t = lv at *
    clear k1 hb1 HB HT HV HG hm HTX
    go_wp2_with fail
    refine k2.mono ?_
    rintro e w2 ⟨rfl, hb2⟩
    have HB2 := hide (HB1.out.trans (hb2.mono HL1.out))
    clear k2 hb2
    go_wp2
    go_ret2
    exact ⟨rfl, by rw [HSZ.out]; exact HB2.out⟩
/-- The names of what is needed, by their places. -/
def needN (s : List UInt8) : List Nat → Except Nat (List (List UInt8))
  | [] => .ok []
  | p :: r => if (textAt s p).2 ≠ 0 then .error 91 else if (textAt s p).1 = [] then .error 92 else (needN s r).map ((textAt s p).1 :: ·)
theorem needN_is (s : List UInt8) : ∀ E : List De, needN s (needs E) = needL s E
  | [] => rfl
  | e :: r => by
    have ih := needN_is s r
    unfold needs at ih ⊢
    rw [needL]
    by_cases c : e.tag = 1
    · rw [List.filter_cons_of_pos (by simpa using c), List.map_cons, needN, if_pos c, ih]
    · rw [List.filter_cons_of_neg (by simpa using c), if_neg c, ih]
def needW (s : List UInt8) (acc : List (List UInt8)) (L : List Nat) : Except Nat (List (List UInt8)) := (needN s L).map (acc ++ ·)
theorem needW_next (s : List UInt8) (acc : List (List UInt8)) (p : Nat) (r : List Nat) (h : (textAt s p).2 = 0) (h2 : (textAt s p).1 ≠ []) : needW s acc (p :: r) = needW s (acc ++ [(textAt s p).1]) r := by
  unfold needW
  rw [needN, if_neg (by simpa using h), if_neg h2]
  cases needN s r <;> simp [Except.map]
def NeedIs (w' : World) (B : Nat) (o : Except Nat (List (List UInt8))) (e : Ending) : Prop :=
  match o with
  | .error n => e = .returned (.tuple #[.slice none 0 0, .int .i64 n])
  | .ok l => ∃ a n c, e = .returned (.tuple #[.slice a n c, .int .i64 0]) ∧ OwnT w' B (.slice a n c) l
set_option maxHeartbeats 2000000 in
set_option maxRecDepth 20000 in
theorem dyn_neededOnes (w : World) (v : Value) (s : List UInt8) (hv : Arg w v s) (u : Value) (L : List Nat) (hu : ArgU w u L) (hL : ∀ p ∈ L, (p : Int) ≤ 18446744073709551615) :
    Calls Tryd.prog 46 #[v, u] w fun e w' => NeedIs w' w.heap.size (if 16 < L.length then .error 92 else needN s L) e ∧ Below w.heap.size w w' := by
  have HV := hide hv
  have HU := hide hu
  have HL := hide hL
  obtain ⟨va, vc, rfl, _⟩ := hv.isSlice
  obtain ⟨ua, uc, rfl⟩ := hu.form
  generalize s.length = sn at *
  obtain ⟨m, hM⟩ : ∃ m, L.length = m := ⟨_, rfl⟩
  have hm : m ≤ 65536 := by rw [← hM]; exact hu.1
  have HM := hide hM
  rw [hM] at HU ⊢
  clear hv hu hL hM
  by_cases h16 : 16 < m
  · rw [if_pos h16]
    have hI : (16 : Int) < (m : Int) := by omega
    clear h16
    go_enter Tryd.func46, Tryd.ntmps46
    go_wp2
    go_ret2
    exact ⟨rfl, Below.refl _ _⟩
  · rw [if_neg h16]
    have hI : ¬ (16 : Int) < (m : Int) := by omega
    obtain ⟨O, hO⟩ : ∃ O, needN s L = O := ⟨_, rfl⟩
    have HO : Hid (needW s [] (L.drop 0) = O) := by rw [Hid, ← hO]; unfold needW; simp only [List.drop_zero]; cases needN s L <;> simp [Except.map]
    rw [hO]
    clear h16 hO
    go_enter Tryd.func46, Tryd.ntmps46
    go_wp2
    go_loopw [6, 16] (fun vo vi wr => ∃ (i : Nat) (acc : List (List UInt8)), vi = .int .i64 i ∧ i ≤ m ∧ Hid (OwnT wr w.heap.size vo acc) ∧ Hid (acc.length = i) ∧ Hid (Below w.heap.size w wr) ∧ Hid (needW s acc (L.drop i) = O))
      (fun _ vi _ => m - (intOf vi).toNat)
    case atStart => exact ⟨0, [], rfl, by omega, OwnT.nil _ _, rfl, Below.refl _ _, HO⟩
    case round =>
      obtain ⟨i, acc, rfl, hi, HOW, HLEN, HB, HR⟩ := hrel
      by_cases hlt : i < m
      · have hltI : (i : Int) < (m : Int) := by omega
        have hil : i < L.length := by rw [HM.out]; exact hlt
        obtain ⟨g, rfl, p1, p2, _, y0⟩ := (HU.out.below HB.out).at i hil
        have hp := HL.out _ (List.getElem_mem hil)
        have k := dyn_textAt wr _ s (HV.out.below' HB.out) L[i] hp
        have hd : L.drop i = L[i] :: L.drop (i + 1) := List.drop_eq_getElem_cons hil
        have hR := HR.out
        rw [hd] at hR
        obtain ⟨p, hpe⟩ : ∃ p, L[i] = p := ⟨_, rfl⟩
        rw [hpe] at y0 k hR
        clear hd hpe hp HR HO
        unfold txV at k
        by_cases hc : (textAt s p).2 = 0
        · rw [if_pos hc] at k
          by_cases hne : (textAt s p).1 = []
          · have hRE : Except.error 92 = O := by
              rw [← hR]; unfold needW; rw [needN, if_neg (by simpa using hc), if_pos hne]; rfl
            rw [hne] at k
            subst hRE
            clear hR hc hne
            simp only [txb] at k
            go_wp2_with fail
            refine k.mono ?_
            rintro e w1 ⟨rfl, hb1⟩
            have HB1 := hide (HB.out.trans (hb1.mono HB.out.size))
            clear k hb1
            go_wp2
            go_ret2
            exact ⟨rfl, HB1.out⟩
          · rw [needW_next s acc p _ hc hne] at hR
            have HR1 := hide hR
            obtain ⟨x, hx⟩ : ∃ x, (textAt s p).1 = x := ⟨_, rfl⟩
            rw [hx] at k HR1 hne
            have hxe : x.isEmpty = false := by cases x with
              | nil => exact absurd rfl hne
              | cons a b => rfl
            have hxb : (x == []) = false := by cases x with
              | nil => exact absurd rfl hne
              | cons a b => rfl
            clear hR hc hne hx
            simp only [txb] at k
            go_wp2_with fail
            refine k.mono ?_
            rintro e w1 ⟨rfl, hb1⟩
            have HB1 := hide (HB.out.trans (hb1.mono HB.out.size))
            have HO1 := hide (HOW.out.stay hb1)
            clear k hb1
            go_wp2_with (at_builtin; refine append_t rfl _ _ rfl w.heap.size w1 _ acc x HO1.out rfl rfl (by have := HLEN.out; omega) HB1.out.size ?_)
            intro v' w2 hown2 hb2
            have HB2 := hide (HB1.out.trans hb2)
            have HO2 := hide hown2
            clear hown2 hb2
            go_wp2
            go_roundw
            case rel => exact ⟨i + 1, acc ++ [x], by go_num, by omega, HO2, by rw [Hid, List.length_append, HLEN.out]; rfl, HB2, HR1⟩
            case measure => simp [intOf]; omega
        · rw [if_neg hc] at k
          have hRE : Except.error 91 = O := by
            rw [← hR]; unfold needW; rw [needN, if_pos hc]; rfl
          subst hRE
          clear hR hc
          simp only [txb] at k
          go_wp2_with fail
          refine k.mono ?_
          rintro e w1 ⟨rfl, hb1⟩
          have HB1 := hide (HB.out.trans (hb1.mono HB.out.size))
          clear k hb1
          go_wp2
          go_ret2
          exact ⟨rfl, HB1.out⟩
      · have hltI : ¬ (i : Int) < (m : Int) := by omega
        have hR := HR.out
        rw [List.drop_eq_nil_of_le (by have := HM.out; omega)] at hR
        have hR2 : Except.ok acc = O := by rw [← hR]; unfold needW needN; simp [Except.map]
        subst hR2
        obtain ⟨fa, fc, hvo⟩ := HOW.out.form
        rw [HLEN.out] at hvo
        subst hvo
        clear hR HR
        go_wp2
        go_ret2
        exact ⟨⟨_, _, _, rfl, HOW.out⟩, HB.out⟩
end Go.Proofs.YtibfiikjelmhmaaDoor
namespace Go.Proofs.YtibfiikjelmhmaaDoor
open Go.RowKit Go.PlainAid Go.Sort
/-- A whole value is stored in a known block, as a step of a drawn region. -/
theorem step_store {ops : Array Oper} {o : Oper} {a : Act} {w : World} {K : Act → World → Prop} {Q : Exit → Act → World → Prop} {X : Prop} (hgd : o.guard = none) (T : TypeId) (x y : Operand) (ho : o.op = .store T x y)
    (g k : Nat) (U : TypeId) (cur : Array Value) (v : Value) (cs : List Value) (new : Array Value) (hg : w.heap[g]? = some (.cells cur U (0, 0))) (hx : a.eval x = .pointer (some ⟨g, k, none⟩)) (hy : a.eval y = v)
    (hcs : v.cells = cs.toArray) (hsz : ∀ w, (Go.sizeOf T).run Tryd.prog w = .ok cs.length w) (hone : ∀ v ∈ cs, v.oneCell' = true) (hfit : k + cs.length ≤ cur.size) (hnew : (cur.toList.take k ++ cs ++ cur.toList.drop (k + cs.length)).toArray = new)
    (h : ∀ w', w'.heap[g]? = some (.cells new U (0, 0)) → w.grownBy w' (some g) → K (a.put o.dst undef) w') : if Region.wanted o (yielded ops a.tmps) = true then Oper.wp Tryd.prog o a w K Q else X := by
  have hw : Region.wanted o (yielded ops a.tmps) = true := by simp [Region.wanted, hgd]
  rw [if_pos hw]
  subst hnew
  have hst := run_storeCells_at Tryd.prog g k U cs 0 cur w hg (by simpa using hfit) hone
  have hr : (Instr.storeAt T (.pointer (some ⟨g, k, none⟩)) v).run Tryd.prog w = .ok () (w.setRow g (cur.toList.take k ++ cs ++ cur.toList.drop (k + cs.length)).toArray) := by
    simp only [Nat.add_zero] at hst
    simp only [Instr.storeAt, Instr.sureAddr, Sem.run_bind, Sem.run_pure, Result.andThen_ok, storeVar, hsz, hcs, List.size_toArray]
    simpa using hst
  unfold Oper.wp execOp
  simp only [ho, hx, hy, Sem.run_bind, Sem.run_pure, Result.andThen_ok, hr]
  exact h _ (setRow_heap w g _ _ _ _ hg) ⟨rfl, rfl, rfl, by simp, fun k _ hk => setRow_other w g k _ (fun e => hk (by rw [e]))⟩
theorem ar_size : ∀ w, (Go.sizeOf 36).run Tryd.prog w = .ok 3 w := Tryd.sizeOf36
theorem frozen_of_block {w : World} {g : Nat} {cs : Array Value} {T : TypeId} (h : w.heap[g]? = some (.cells cs T (0, 0))) (k : Nat) : w.frozen? ⟨g, k, none⟩ = false := by
  unfold World.frozen?
  rw [h]
  simp
def arV (E : List De) (t u : Nat) : List Value := [.bool (hasT E t), .int .u64 (lvT E t : Nat), .int .u64 (lvT E u : Nat)]
theorem arV_is {E : List De} {t u : Nat} (ht : t ∈ knownL) (hu : u ∈ knownL) (h1 : cntT E t ≤ 1) (h2 : cntT E u ≤ 1) : arV E t u = areaC E t u := by
  unfold arV areaC hasT
  rw [oft_is ht, lv_is ht h1, lv_is hu h2]
  congr 2
  by_cases c : cntT E t = 1
  · simp [c]
  · have : cntT E t = 0 := by omega
    simp [this]
abbrev Tc (Z M1 M2 : Nat) (a : Option Addr) (n c : Nat) (w' : World) : Prop := w'.cell? ⟨Z, 0, none⟩ = some (.map (some M1)) ∧ w'.cell? ⟨Z, 1, none⟩ = some (.map (some M2)) ∧ w'.cell? ⟨Z, 2, none⟩ = some (.slice a n c)
theorem set3_same {w : World} {g : Nat} {x0 x1 x2 : Value} {T : TypeId} (h : w.heap[g]? = some (.cells #[x0, x1, x2] T (0, 0))) (v0 v1 v2 : Value) : (((w.setCell ⟨g, 0, none⟩ v0).setCell ⟨g, 1, none⟩ v1).setCell ⟨g, 2, none⟩ v2).heap[g]? = some (.cells #[v0, v1, v2] T (0, 0)) :=
  heap_setCell_at _ g 2 v2 _ T _ (heap_setCell_at _ g 1 v1 _ T _ (heap_setCell_at w g 0 v0 _ T _ h))
theorem set3_other (w : World) (g k : Nat) (v0 v1 v2 : Value) (h : k ≠ g) : (((w.setCell ⟨g, 0, none⟩ v0).setCell ⟨g, 1, none⟩ v1).setCell ⟨g, 2, none⟩ v2).heap[k]? = w.heap[k]? := by
  rw [Below.heap_setCell _ _ _ _ h, Below.heap_setCell _ _ _ _ h, Below.heap_setCell _ _ _ _ h]
theorem set3_size (w : World) (g : Nat) (v0 v1 v2 : Value) : (((w.setCell ⟨g, 0, none⟩ v0).setCell ⟨g, 1, none⟩ v1).setCell ⟨g, 2, none⟩ v2).heap.size = w.heap.size := by simp
theorem tc_set {W : World} {Z M1 M2 : Nat} {a : Option Addr} {n c : Nat} (h : W.heap[Z]? = some (.cells #[.map (some M1), .map (some M2), .slice a n c] 69 (0, 0))) (v0 v1 v2 : Value) : Tc Z M1 M2 a n c (((W.setCell ⟨Z + 1, 0, none⟩ v0).setCell ⟨Z + 1, 1, none⟩ v1).setCell ⟨Z + 1, 2, none⟩ v2) :=
  tag_cells ((set3_other W (Z + 1) Z v0 v1 v2 (by omega)).trans h)
theorem built_ar (b : Bool) (x y : Int) : Tryd.prog.built 36 [(0, .bool b), (1, .int .u64 x), (2, .int .u64 y)] = some #[.bool b, .int .u64 x, .int .u64 y] := by kernel_rfl
set_option maxHeartbeats 1000000 in
set_option maxRecDepth 20000 in
theorem dyn_area (w : World) (M1 M2 : Nat) (a : Option Addr) (n c : Nat) (E : List De) (h : TagsAt w M1 M2 (.slice a n c) E) (t u : Nat) (ht : (t : Int) ≤ 18446744073709551615) (hu : (u : Int) ≤ 18446744073709551615) :
    Calls Tryd.prog 44 #[.agg #[.map (some M1), .map (some M2), .slice a n c], .int .u64 (t : Nat), .int .u64 (u : Nat)] w fun e w' => e = .returned (.agg (arV E t u).toArray) ∧ Below w.heap.size w w' := by
  have HB := hide (bel1 w (.cells #[.map (some M1), .map (some M2), .slice a n c] 69))
  have HG := hide (tag_block w M1 M2 a n c)
  have hb2 := bel1 (w.alloc (.cells #[.map (some M1), .map (some M2), .slice a n c] 69)) (.cells #[.bool false, .int .u64 0, .int .u64 0] 36)
  have hR := (MapKept.heap_alloc (w.alloc (.cells #[.map (some M1), .map (some M2), .slice a n c] 69)) (.cells #[.bool false, .int .u64 0, .int .u64 0] 36)).1
  have sz : (w.alloc (.cells #[.map (some M1), .map (some M2), .slice a n c] 69)).heap.size = w.heap.size + 1 := by simp
  rw [sz] at hR
  have HB2 := hide (HB.out.trans (hb2.mono HB.out.size))
  have HT2 := hide ((h.below HB.out).below hb2)
  have HG2 := hide (block_stay HG.out hb2)
  have HR2 := hide hR
  unfold arV
  clear h hb2 hR sz HB HG
  go_enter Tryd.func44, Tryd.ntmps44
  go_wp2_with fail
  generalize (w.alloc _).alloc _ = w0 at *
  generalize hsz : w.heap.size = Z at *
  have HSZ := hide hsz
  clear hsz
  have HT3 : Hid (TagsAt w0.drew M1 M2 (.slice a n c) E) := HT2.out.below ⟨rfl, rfl, rfl, Nat.le_refl _, fun _ _ => rfl⟩
  have SC : Tc Z M1 M2 a n c w0.drew := tag_cells (w := w0.drew) HG2.out
  have HGET := hide (fun W (hb : Below w0.drew.heap.size w0.drew W) (x : Nat) (hx : (x : Int) ≤ 18446744073709551615) => (HT3.out.below hb).m2.choose_spec.get x hx)
  have l1 := HGET.out w0.drew (Below.refl _ _) t ht
  have l2 := HGET.out w0.drew (Below.refl _ _) u hu
  have HHAS := hide (fun W (hb : Below w0.drew.heap.size w0.drew W) => dyn_has W M1 M2 a n c E (HT3.out.below hb) t ht)
  obtain ⟨hh, hhe⟩ : ∃ hh, hasT E t = hh := ⟨_, rfl⟩
  obtain ⟨lt, hlt⟩ : ∃ lt, lvT E t = lt := ⟨_, rfl⟩
  obtain ⟨lu, hlu⟩ : ∃ lu, lvT E u = lu := ⟨_, rfl⟩
  rw [hhe] at HHAS
  rw [hlt] at l1
  rw [hlu] at l2
  have HE1 := hide hhe
  have HE2 := hide hlt
  have HE3 := hide hlu
  clear hhe hlt hlu
  have hbu := fun x y => built_ar hh x y
  go_region_held_law (fun w' => w'.cell? ⟨Z, 0, none⟩ = some (.map (some M1)) ∧ w'.cell? ⟨Z, 1, none⟩ = some (.map (some M2)) ∧ w'.cell? ⟨Z, 2, none⟩ = some (.slice a n c))
    (first | with_reducible assumption | exact tc_set HGK.out _ _ _)
    (first
      | (go_at_call 42; refine (HHAS.out _ (Below.refl _ _)).mono ?_; rintro e W3 ⟨rfl, hb3⟩; have l3 := (by have := HGET.out W3 hb3 t ht; rw [HE2.out] at this; exact this); have l4 := (by have := HGET.out W3 hb3 u hu; rw [HE3.out] at this; exact this); have SC3 : Tc Z M1 M2 a n c W3 := tag_cells (block_stay (w := w0.drew) HG2.out hb3); have HR3 := hide (block_stay (w := w0.drew) HR2.out hb3); have HB3 := hide hb3; have HGK := hide (block_stay (w := w0.drew) HG2.out hb3); have r0 := cells_of_block HR3.out 0 (.bool false) rfl; have r1 := cells_of_block HR3.out 1 (.int .u64 0) rfl; have r2 := cells_of_block HR3.out 2 (.int .u64 0) rfl; have z0 := frozen_of_block HR3.out 0; have z1 := frozen_of_block HR3.out 1; have z2 := frozen_of_block HR3.out 2; clear hb3))
  all_goals
    have HB4 : Hid (Below Z w (((W3.setCell ⟨Z + 1, 0, none⟩ (.bool hh)).setCell ⟨Z + 1, 1, none⟩ (.int .u64 (lt : Nat))).setCell ⟨Z + 1, 2, none⟩ (.int .u64 (lu : Nat)))) := by
      have b := HB2.out.trans (⟨HB3.out.os, HB3.out.tape, HB3.out.output, HB3.out.size, fun k hk => HB3.out.block k (show k < w0.heap.size from Nat.lt_of_lt_of_le hk (by have := HB2.out.size; have := HSZ.out; omega))⟩ : Below Z w0 W3)
      refine ⟨b.os, b.tape, b.output, by rw [set3_size]; exact b.size, fun k hk => ?_⟩
      rw [set3_other _ _ _ _ _ _ (by omega)]
      exact b.block k hk
    have HRR := hide (set3_same HR3.out (.bool hh) (.int .u64 (lt : Nat)) (.int .u64 (lu : Nat)))
    clear r0 r1 r2 z0 z1 z2 SC SC3 l1 l2 l3 l4 HR3 HGK HB3 HGET HHAS HT3 HT2 HG2 HR2
    generalize World.setCell _ _ _ = W5 at *
    go_wp2
    refine bodyPost_ret (results_cell1 rfl _ _ (Z + 1) _ _ _ _ rfl HRR.out Tryd.underlying36 rfl (by kernel_rfl)) rfl ?_
    exact ⟨by rw [HE1.out, HE2.out, HE3.out], by rw [HSZ.out]; exact HB4.out⟩
end Go.Proofs.YtibfiikjelmhmaaDoor
namespace Go.Proofs.YtibfiikjelmhmaaDoor
open Go.RowKit Go.PlainAid Go.Sort
def prs : List Value := [.int .u64 5, .int .u64 10, .int .u64 17, .int .u64 18, .int .u64 7, .int .u64 8, .int .u64 23, .int .u64 2, .int .u64 23, .int .u64 20, .int .u64 36, .int .u64 35, .int .u64 1610612751, .int .u64 1610612752, .int .u64 1610612753, .int .u64 1610612754, .int .u64 25, .int .u64 27, .int .u64 26, .int .u64 28, .int .u64 1879048188, .int .u64 1879048189, .int .u64 1879048190, .int .u64 1879048191]
/-- The package's own pairs, as its text lays them. -/
def PairsAt (w : World) : Prop := ∃ T, w.heap[0]? = some (.cells prs.toArray T (0, 0))
theorem PairsAt.below {w w' : World} (h : PairsAt w) (hb : Below w.heap.size w w') : PairsAt w' := by
  obtain ⟨T, h⟩ := h
  exact ⟨T, block_stay h hb⟩
theorem load_prs {w : World} (h : PairsAt w) : (loadVar 93 ⟨0, 0, none⟩).run Tryd.prog w = .ok (.agg prs.toArray) w := by
  obtain ⟨T, h⟩ := h
  exact run_loadVar_row (P := Tryd.prog) w 0 _ _ prs.toArray (0, 0) _ h Tryd.underlying93 rfl (by kernel_rfl)
theorem at_loadP {ops : Array Oper} {rest : List Oper} {a : Act} {Q : Exit → Act → World → Prop} {w : World} {ty : TypeId} {x : Operand} {d : Option Tmp} {ps : String} {af : Array Edge}
    (h : wpList Tryd.prog ops Q ({ dst := d, op := .load 93 x, type := ty, pos := ps, after := af, guard := none } :: rest) a w) : wpList Tryd.prog ops Q ({ dst := d, op := .load 93 x, type := ty, pos := ps, after := af, guard := none } :: rest) a w := h
theorem two_block (w : World) (x y : Int) : (w.alloc (.cells #[.int .u64 x, .int .u64 y] 92)).heap[w.heap.size]? = some (.cells #[.int .u64 x, .int .u64 y] 92 (0, 0)) := (MapKept.heap_alloc w _).1
set_option maxHeartbeats 40000000 in
set_option maxRecDepth 20000 in
theorem dyn_together (w : World) (M1 M2 : Nat) (a : Option Addr) (n c : Nat) (E : List De) (h : TagsAt w M1 M2 (.slice a n c) E) (hp : PairsAt w) :
    Calls Tryd.prog 25 #[.agg #[.map (some M1), .map (some M2), .slice a n c]] w fun e w' => e = .returned (.bool (togB E)) ∧ Below w.heap.size w w' := by
  have HB0 := hide (bel1 w (.cells #[.map (some M1), .map (some M2), .slice a n c] 69))
  have HT0 := hide (h.below HB0.out)
  have HG0 := hide (tag_block w M1 M2 a n c)
  have HP0 := hide (hp.below HB0.out)
  obtain ⟨O, hO⟩ : ∃ O, togB E = O := ⟨_, rfl⟩
  have HO := hide hO
  rw [hO]
  clear h hp hO
  go_enter Tryd.func25, Tryd.ntmps25
  go_wp2_with ((with_reducible refine at_loadP ?_); refine load_row rfl _ _ rfl 0 prs.toArray (load_prs HP0.out) rfl ?_)
  generalize w.alloc _ = w0 at *
  generalize hsz : w.heap.size = Z at *
  have HSZ := hide hsz
  have HL0 : Hid (Z ≤ w0.heap.size) := by have := HB0.out.size; unfold Hid; omega
  clear hsz HP0
  unfold prs
  go_loopw [6] (fun vi wr => ∃ i : Nat, vi = .int .i64 i ∧ i ≤ 12 ∧ Hid (Below Z w wr) ∧ Hid (TagsAt wr M1 M2 (.slice a n c) E) ∧ Hid (wr.heap[Z]? = some (.cells #[.map (some M1), .map (some M2), .slice a n c] 69 (0, 0))) ∧ Hid (Z ≤ wr.heap.size) ∧ Hid (∀ j (hj : j < pairsP.length), j < i → (hasT E pairsP[j].tag == hasT E pairsP[j].val) = true))
    (fun vi _ => 12 - (intOf vi).toNat)
  case atStart => exact ⟨0, rfl, by omega, HB0, HT0, HG0, HL0, fun j hj h => by omega⟩
  case round =>
    obtain ⟨i, rfl, hi, HB, HT, HG, HL, HA⟩ := hrel
    clear HB0 HT0 HG0 HL0
    match i, hi with
    | 0, _ =>
      have hix : ∀ W, (Instr.index 93 (.agg #[.int .u64 5, .int .u64 10, .int .u64 17, .int .u64 18, .int .u64 7, .int .u64 8, .int .u64 23, .int .u64 2, .int .u64 23, .int .u64 20, .int .u64 36, .int .u64 35, .int .u64 1610612751, .int .u64 1610612752, .int .u64 1610612753, .int .u64 1610612754, .int .u64 25, .int .u64 27, .int .u64 26, .int .u64 28, .int .u64 1879048188, .int .u64 1879048189, .int .u64 1879048190, .int .u64 1879048191]) (.int .i64 0)).run Tryd.prog W = .ok (.agg #[.int .u64 5, .int .u64 10]) W := fun W => by kernel_rfl
      have hbA := bel1 wr (.cells #[.int .u64 5, .int .u64 10] 92)
      have HB1 := hide (HB.out.trans (hbA.mono HL.out))
      have HT1 := hide (HT.out.below hbA)
      have HG1 := hide (block_stay HG.out hbA)
      have HL1 := hide (Nat.le_trans HL.out hbA.size)
      have HX1 := hide (two_block wr 5 10)
      have HK1 : Hid (∀ W, Below (wr.alloc (.cells #[.int .u64 5, .int .u64 10] 92)).heap.size (wr.alloc (.cells #[.int .u64 5, .int .u64 10] 92)) W → Calls Tryd.prog 42 #[.agg #[.map (some M1), .map (some M2), .slice a n c], .int .u64 5] W fun e w' => e = .returned (.bool (hasT E 5)) ∧ Below W.heap.size W w') := fun W hb => dyn_has W M1 M2 a n c E (HT1.out.below hb) 5 (by decide)
      have HK2 : Hid (∀ W, Below (wr.alloc (.cells #[.int .u64 5, .int .u64 10] 92)).heap.size (wr.alloc (.cells #[.int .u64 5, .int .u64 10] 92)) W → Calls Tryd.prog 42 #[.agg #[.map (some M1), .map (some M2), .slice a n c], .int .u64 10] W fun e w' => e = .returned (.bool (hasT E 10)) ∧ Below W.heap.size W w') := fun W hb => dyn_has W M1 M2 a n c E (HT1.out.below hb) 10 (by decide)
      obtain ⟨h1, he1⟩ : ∃ h1, hasT E 5 = h1 := ⟨_, rfl⟩
      obtain ⟨h2, he2⟩ : ∃ h2, hasT E 10 = h2 := ⟨_, rfl⟩
      rw [he1] at HK1
      rw [he2] at HK2
      have HE1 := hide he1
      have HE2 := hide he2
      clear he1 he2 hbA
      obtain ⟨r, hr⟩ : ∃ r, (!(h1 == h2)) = r := ⟨_, rfl⟩
      have hr2 : (h1 != h2) = r := by rw [← hr]; rfl
      have HR := hide hr
      go_wp2_with fail
      try simp only [List.append_eq, List.cons_append, List.nil_append]
      refine wp_region_quiet_below (by kernel_rfl) (by kernel_rfl) ?_
      obtain ⟨x0, x1, x2⟩ := tag_cells HG1.out
      have e0 := cell_regrown x0
      have e1 := cell_regrown x1
      have e2 := cell_regrown x2
      have e3 := cell_regrown (cells_of_block HX1.out 0 (.int .u64 5) rfl)
      have e4 := cell_regrown (cells_of_block HX1.out 1 (.int .u64 10) rfl)
      clear x0 x1 x2
      repeat (go_big_quiet_step (first | (with_reducible exact Calls.regrown_of (HK1.out _ (below_regrown _ _ _))) | (with_reducible exact Calls.regrown_of (HK2.out _ (below_regrown _ _ _)))))
      refine wpQuiet_nil ?_
      intro _ hwq
      obtain ⟨⟨dq, osq⟩, hwq2⟩ := hwq
      subst hwq2
      have HB2 := hide (HB1.out.trans ((below_regrown _ dq osq).mono HL1.out))
      have HT2 := hide (HT1.out.below (below_regrown _ dq osq))
      have HG2 := hide (block_stay HG1.out (below_regrown _ dq osq))
      have HL2 := hide (Nat.le_trans HL1.out (below_regrown _ dq osq).size)
      clear e0 e1 e2 e3 e4 HX1 HK1 HK2 HB HT HG HL HB1 HT1 HG1 HL1
      generalize grow _ _ = w2 at *
      clear hr hr2
      cases r
      · go_wp2
        go_roundw
        case rel => exact ⟨1, by go_num, by omega, HB2, HT2, HG2, HL2, fun j hj hji => by
          by_cases e : j < 0
          · exact HA.out j hj e
          · have e2 : j = 0 := by omega
            subst e2
            show (hasT E 5 == hasT E 10) = true
            rw [HE1.out, HE2.out]; have := HR.out; simpa using this⟩
        case measure => simp [intOf]
      · go_wp2
        go_ret
        refine ⟨?_, by rw [HSZ.out]; exact HB2.out⟩
        have hall : pairsP.all (fun p => hasT E p.tag == hasT E p.val) = false := by
          rw [List.all_eq_false]
          refine ⟨⟨5, 10⟩, by simp [pairsP], ?_⟩
          simp only [HE1.out, HE2.out]
          have := HR.out
          simpa using this
        rw [← HO.out]
        unfold togB
        rw [hall]
        rfl
    | 1, _ =>
      have hix : ∀ W, (Instr.index 93 (.agg #[.int .u64 5, .int .u64 10, .int .u64 17, .int .u64 18, .int .u64 7, .int .u64 8, .int .u64 23, .int .u64 2, .int .u64 23, .int .u64 20, .int .u64 36, .int .u64 35, .int .u64 1610612751, .int .u64 1610612752, .int .u64 1610612753, .int .u64 1610612754, .int .u64 25, .int .u64 27, .int .u64 26, .int .u64 28, .int .u64 1879048188, .int .u64 1879048189, .int .u64 1879048190, .int .u64 1879048191]) (.int .i64 1)).run Tryd.prog W = .ok (.agg #[.int .u64 17, .int .u64 18]) W := fun W => by kernel_rfl
      have hbA := bel1 wr (.cells #[.int .u64 17, .int .u64 18] 92)
      have HB1 := hide (HB.out.trans (hbA.mono HL.out))
      have HT1 := hide (HT.out.below hbA)
      have HG1 := hide (block_stay HG.out hbA)
      have HL1 := hide (Nat.le_trans HL.out hbA.size)
      have HX1 := hide (two_block wr 17 18)
      have HK1 : Hid (∀ W, Below (wr.alloc (.cells #[.int .u64 17, .int .u64 18] 92)).heap.size (wr.alloc (.cells #[.int .u64 17, .int .u64 18] 92)) W → Calls Tryd.prog 42 #[.agg #[.map (some M1), .map (some M2), .slice a n c], .int .u64 17] W fun e w' => e = .returned (.bool (hasT E 17)) ∧ Below W.heap.size W w') := fun W hb => dyn_has W M1 M2 a n c E (HT1.out.below hb) 17 (by decide)
      have HK2 : Hid (∀ W, Below (wr.alloc (.cells #[.int .u64 17, .int .u64 18] 92)).heap.size (wr.alloc (.cells #[.int .u64 17, .int .u64 18] 92)) W → Calls Tryd.prog 42 #[.agg #[.map (some M1), .map (some M2), .slice a n c], .int .u64 18] W fun e w' => e = .returned (.bool (hasT E 18)) ∧ Below W.heap.size W w') := fun W hb => dyn_has W M1 M2 a n c E (HT1.out.below hb) 18 (by decide)
      obtain ⟨h1, he1⟩ : ∃ h1, hasT E 17 = h1 := ⟨_, rfl⟩
      obtain ⟨h2, he2⟩ : ∃ h2, hasT E 18 = h2 := ⟨_, rfl⟩
      rw [he1] at HK1
      rw [he2] at HK2
      have HE1 := hide he1
      have HE2 := hide he2
      clear he1 he2 hbA
      obtain ⟨r, hr⟩ : ∃ r, (!(h1 == h2)) = r := ⟨_, rfl⟩
      have hr2 : (h1 != h2) = r := by rw [← hr]; rfl
      have HR := hide hr
      go_wp2_with fail
      try simp only [List.append_eq, List.cons_append, List.nil_append]
      refine wp_region_quiet_below (by kernel_rfl) (by kernel_rfl) ?_
      obtain ⟨x0, x1, x2⟩ := tag_cells HG1.out
      have e0 := cell_regrown x0
      have e1 := cell_regrown x1
      have e2 := cell_regrown x2
      have e3 := cell_regrown (cells_of_block HX1.out 0 (.int .u64 17) rfl)
      have e4 := cell_regrown (cells_of_block HX1.out 1 (.int .u64 18) rfl)
      clear x0 x1 x2
      repeat (go_big_quiet_step (first | (with_reducible exact Calls.regrown_of (HK1.out _ (below_regrown _ _ _))) | (with_reducible exact Calls.regrown_of (HK2.out _ (below_regrown _ _ _)))))
      refine wpQuiet_nil ?_
      intro _ hwq
      obtain ⟨⟨dq, osq⟩, hwq2⟩ := hwq
      subst hwq2
      have HB2 := hide (HB1.out.trans ((below_regrown _ dq osq).mono HL1.out))
      have HT2 := hide (HT1.out.below (below_regrown _ dq osq))
      have HG2 := hide (block_stay HG1.out (below_regrown _ dq osq))
      have HL2 := hide (Nat.le_trans HL1.out (below_regrown _ dq osq).size)
      clear e0 e1 e2 e3 e4 HX1 HK1 HK2 HB HT HG HL HB1 HT1 HG1 HL1
      generalize grow _ _ = w2 at *
      clear hr hr2
      cases r
      · go_wp2
        go_roundw
        case rel => exact ⟨2, by go_num, by omega, HB2, HT2, HG2, HL2, fun j hj hji => by
          by_cases e : j < 1
          · exact HA.out j hj e
          · have e2 : j = 1 := by omega
            subst e2
            show (hasT E 17 == hasT E 18) = true
            rw [HE1.out, HE2.out]; have := HR.out; simpa using this⟩
        case measure => simp [intOf]
      · go_wp2
        go_ret
        refine ⟨?_, by rw [HSZ.out]; exact HB2.out⟩
        have hall : pairsP.all (fun p => hasT E p.tag == hasT E p.val) = false := by
          rw [List.all_eq_false]
          refine ⟨⟨17, 18⟩, by simp [pairsP], ?_⟩
          simp only [HE1.out, HE2.out]
          have := HR.out
          simpa using this
        rw [← HO.out]
        unfold togB
        rw [hall]
        rfl
    | 2, _ =>
      have hix : ∀ W, (Instr.index 93 (.agg #[.int .u64 5, .int .u64 10, .int .u64 17, .int .u64 18, .int .u64 7, .int .u64 8, .int .u64 23, .int .u64 2, .int .u64 23, .int .u64 20, .int .u64 36, .int .u64 35, .int .u64 1610612751, .int .u64 1610612752, .int .u64 1610612753, .int .u64 1610612754, .int .u64 25, .int .u64 27, .int .u64 26, .int .u64 28, .int .u64 1879048188, .int .u64 1879048189, .int .u64 1879048190, .int .u64 1879048191]) (.int .i64 2)).run Tryd.prog W = .ok (.agg #[.int .u64 7, .int .u64 8]) W := fun W => by kernel_rfl
      have hbA := bel1 wr (.cells #[.int .u64 7, .int .u64 8] 92)
      have HB1 := hide (HB.out.trans (hbA.mono HL.out))
      have HT1 := hide (HT.out.below hbA)
      have HG1 := hide (block_stay HG.out hbA)
      have HL1 := hide (Nat.le_trans HL.out hbA.size)
      have HX1 := hide (two_block wr 7 8)
      have HK1 : Hid (∀ W, Below (wr.alloc (.cells #[.int .u64 7, .int .u64 8] 92)).heap.size (wr.alloc (.cells #[.int .u64 7, .int .u64 8] 92)) W → Calls Tryd.prog 42 #[.agg #[.map (some M1), .map (some M2), .slice a n c], .int .u64 7] W fun e w' => e = .returned (.bool (hasT E 7)) ∧ Below W.heap.size W w') := fun W hb => dyn_has W M1 M2 a n c E (HT1.out.below hb) 7 (by decide)
      have HK2 : Hid (∀ W, Below (wr.alloc (.cells #[.int .u64 7, .int .u64 8] 92)).heap.size (wr.alloc (.cells #[.int .u64 7, .int .u64 8] 92)) W → Calls Tryd.prog 42 #[.agg #[.map (some M1), .map (some M2), .slice a n c], .int .u64 8] W fun e w' => e = .returned (.bool (hasT E 8)) ∧ Below W.heap.size W w') := fun W hb => dyn_has W M1 M2 a n c E (HT1.out.below hb) 8 (by decide)
      obtain ⟨h1, he1⟩ : ∃ h1, hasT E 7 = h1 := ⟨_, rfl⟩
      obtain ⟨h2, he2⟩ : ∃ h2, hasT E 8 = h2 := ⟨_, rfl⟩
      rw [he1] at HK1
      rw [he2] at HK2
      have HE1 := hide he1
      have HE2 := hide he2
      clear he1 he2 hbA
      obtain ⟨r, hr⟩ : ∃ r, (!(h1 == h2)) = r := ⟨_, rfl⟩
      have hr2 : (h1 != h2) = r := by rw [← hr]; rfl
      have HR := hide hr
      go_wp2_with fail
      try simp only [List.append_eq, List.cons_append, List.nil_append]
      refine wp_region_quiet_below (by kernel_rfl) (by kernel_rfl) ?_
      obtain ⟨x0, x1, x2⟩ := tag_cells HG1.out
      have e0 := cell_regrown x0
      have e1 := cell_regrown x1
      have e2 := cell_regrown x2
      have e3 := cell_regrown (cells_of_block HX1.out 0 (.int .u64 7) rfl)
      have e4 := cell_regrown (cells_of_block HX1.out 1 (.int .u64 8) rfl)
      clear x0 x1 x2
      repeat (go_big_quiet_step (first | (with_reducible exact Calls.regrown_of (HK1.out _ (below_regrown _ _ _))) | (with_reducible exact Calls.regrown_of (HK2.out _ (below_regrown _ _ _)))))
      refine wpQuiet_nil ?_
      intro _ hwq
      obtain ⟨⟨dq, osq⟩, hwq2⟩ := hwq
      subst hwq2
      have HB2 := hide (HB1.out.trans ((below_regrown _ dq osq).mono HL1.out))
      have HT2 := hide (HT1.out.below (below_regrown _ dq osq))
      have HG2 := hide (block_stay HG1.out (below_regrown _ dq osq))
      have HL2 := hide (Nat.le_trans HL1.out (below_regrown _ dq osq).size)
      clear e0 e1 e2 e3 e4 HX1 HK1 HK2 HB HT HG HL HB1 HT1 HG1 HL1
      generalize grow _ _ = w2 at *
      clear hr hr2
      cases r
      · go_wp2
        go_roundw
        case rel => exact ⟨3, by go_num, by omega, HB2, HT2, HG2, HL2, fun j hj hji => by
          by_cases e : j < 2
          · exact HA.out j hj e
          · have e2 : j = 2 := by omega
            subst e2
            show (hasT E 7 == hasT E 8) = true
            rw [HE1.out, HE2.out]; have := HR.out; simpa using this⟩
        case measure => simp [intOf]
      · go_wp2
        go_ret
        refine ⟨?_, by rw [HSZ.out]; exact HB2.out⟩
        have hall : pairsP.all (fun p => hasT E p.tag == hasT E p.val) = false := by
          rw [List.all_eq_false]
          refine ⟨⟨7, 8⟩, by simp [pairsP], ?_⟩
          simp only [HE1.out, HE2.out]
          have := HR.out
          simpa using this
        rw [← HO.out]
        unfold togB
        rw [hall]
        rfl
    | 3, _ =>
      have hix : ∀ W, (Instr.index 93 (.agg #[.int .u64 5, .int .u64 10, .int .u64 17, .int .u64 18, .int .u64 7, .int .u64 8, .int .u64 23, .int .u64 2, .int .u64 23, .int .u64 20, .int .u64 36, .int .u64 35, .int .u64 1610612751, .int .u64 1610612752, .int .u64 1610612753, .int .u64 1610612754, .int .u64 25, .int .u64 27, .int .u64 26, .int .u64 28, .int .u64 1879048188, .int .u64 1879048189, .int .u64 1879048190, .int .u64 1879048191]) (.int .i64 3)).run Tryd.prog W = .ok (.agg #[.int .u64 23, .int .u64 2]) W := fun W => by kernel_rfl
      have hbA := bel1 wr (.cells #[.int .u64 23, .int .u64 2] 92)
      have HB1 := hide (HB.out.trans (hbA.mono HL.out))
      have HT1 := hide (HT.out.below hbA)
      have HG1 := hide (block_stay HG.out hbA)
      have HL1 := hide (Nat.le_trans HL.out hbA.size)
      have HX1 := hide (two_block wr 23 2)
      have HK1 : Hid (∀ W, Below (wr.alloc (.cells #[.int .u64 23, .int .u64 2] 92)).heap.size (wr.alloc (.cells #[.int .u64 23, .int .u64 2] 92)) W → Calls Tryd.prog 42 #[.agg #[.map (some M1), .map (some M2), .slice a n c], .int .u64 23] W fun e w' => e = .returned (.bool (hasT E 23)) ∧ Below W.heap.size W w') := fun W hb => dyn_has W M1 M2 a n c E (HT1.out.below hb) 23 (by decide)
      have HK2 : Hid (∀ W, Below (wr.alloc (.cells #[.int .u64 23, .int .u64 2] 92)).heap.size (wr.alloc (.cells #[.int .u64 23, .int .u64 2] 92)) W → Calls Tryd.prog 42 #[.agg #[.map (some M1), .map (some M2), .slice a n c], .int .u64 2] W fun e w' => e = .returned (.bool (hasT E 2)) ∧ Below W.heap.size W w') := fun W hb => dyn_has W M1 M2 a n c E (HT1.out.below hb) 2 (by decide)
      obtain ⟨h1, he1⟩ : ∃ h1, hasT E 23 = h1 := ⟨_, rfl⟩
      obtain ⟨h2, he2⟩ : ∃ h2, hasT E 2 = h2 := ⟨_, rfl⟩
      rw [he1] at HK1
      rw [he2] at HK2
      have HE1 := hide he1
      have HE2 := hide he2
      clear he1 he2 hbA
      obtain ⟨r, hr⟩ : ∃ r, (!(h1 == h2)) = r := ⟨_, rfl⟩
      have hr2 : (h1 != h2) = r := by rw [← hr]; rfl
      have HR := hide hr
      go_wp2_with fail
      try simp only [List.append_eq, List.cons_append, List.nil_append]
      refine wp_region_quiet_below (by kernel_rfl) (by kernel_rfl) ?_
      obtain ⟨x0, x1, x2⟩ := tag_cells HG1.out
      have e0 := cell_regrown x0
      have e1 := cell_regrown x1
      have e2 := cell_regrown x2
      have e3 := cell_regrown (cells_of_block HX1.out 0 (.int .u64 23) rfl)
      have e4 := cell_regrown (cells_of_block HX1.out 1 (.int .u64 2) rfl)
      clear x0 x1 x2
      repeat (go_big_quiet_step (first | (with_reducible exact Calls.regrown_of (HK1.out _ (below_regrown _ _ _))) | (with_reducible exact Calls.regrown_of (HK2.out _ (below_regrown _ _ _)))))
      refine wpQuiet_nil ?_
      intro _ hwq
      obtain ⟨⟨dq, osq⟩, hwq2⟩ := hwq
      subst hwq2
      have HB2 := hide (HB1.out.trans ((below_regrown _ dq osq).mono HL1.out))
      have HT2 := hide (HT1.out.below (below_regrown _ dq osq))
      have HG2 := hide (block_stay HG1.out (below_regrown _ dq osq))
      have HL2 := hide (Nat.le_trans HL1.out (below_regrown _ dq osq).size)
      clear e0 e1 e2 e3 e4 HX1 HK1 HK2 HB HT HG HL HB1 HT1 HG1 HL1
      generalize grow _ _ = w2 at *
      clear hr hr2
      cases r
      · go_wp2
        go_roundw
        case rel => exact ⟨4, by go_num, by omega, HB2, HT2, HG2, HL2, fun j hj hji => by
          by_cases e : j < 3
          · exact HA.out j hj e
          · have e2 : j = 3 := by omega
            subst e2
            show (hasT E 23 == hasT E 2) = true
            rw [HE1.out, HE2.out]; have := HR.out; simpa using this⟩
        case measure => simp [intOf]
      · go_wp2
        go_ret
        refine ⟨?_, by rw [HSZ.out]; exact HB2.out⟩
        have hall : pairsP.all (fun p => hasT E p.tag == hasT E p.val) = false := by
          rw [List.all_eq_false]
          refine ⟨⟨23, 2⟩, by simp [pairsP], ?_⟩
          simp only [HE1.out, HE2.out]
          have := HR.out
          simpa using this
        rw [← HO.out]
        unfold togB
        rw [hall]
        rfl
    | 4, _ =>
      have hix : ∀ W, (Instr.index 93 (.agg #[.int .u64 5, .int .u64 10, .int .u64 17, .int .u64 18, .int .u64 7, .int .u64 8, .int .u64 23, .int .u64 2, .int .u64 23, .int .u64 20, .int .u64 36, .int .u64 35, .int .u64 1610612751, .int .u64 1610612752, .int .u64 1610612753, .int .u64 1610612754, .int .u64 25, .int .u64 27, .int .u64 26, .int .u64 28, .int .u64 1879048188, .int .u64 1879048189, .int .u64 1879048190, .int .u64 1879048191]) (.int .i64 4)).run Tryd.prog W = .ok (.agg #[.int .u64 23, .int .u64 20]) W := fun W => by kernel_rfl
      have hbA := bel1 wr (.cells #[.int .u64 23, .int .u64 20] 92)
      have HB1 := hide (HB.out.trans (hbA.mono HL.out))
      have HT1 := hide (HT.out.below hbA)
      have HG1 := hide (block_stay HG.out hbA)
      have HL1 := hide (Nat.le_trans HL.out hbA.size)
      have HX1 := hide (two_block wr 23 20)
      have HK1 : Hid (∀ W, Below (wr.alloc (.cells #[.int .u64 23, .int .u64 20] 92)).heap.size (wr.alloc (.cells #[.int .u64 23, .int .u64 20] 92)) W → Calls Tryd.prog 42 #[.agg #[.map (some M1), .map (some M2), .slice a n c], .int .u64 23] W fun e w' => e = .returned (.bool (hasT E 23)) ∧ Below W.heap.size W w') := fun W hb => dyn_has W M1 M2 a n c E (HT1.out.below hb) 23 (by decide)
      have HK2 : Hid (∀ W, Below (wr.alloc (.cells #[.int .u64 23, .int .u64 20] 92)).heap.size (wr.alloc (.cells #[.int .u64 23, .int .u64 20] 92)) W → Calls Tryd.prog 42 #[.agg #[.map (some M1), .map (some M2), .slice a n c], .int .u64 20] W fun e w' => e = .returned (.bool (hasT E 20)) ∧ Below W.heap.size W w') := fun W hb => dyn_has W M1 M2 a n c E (HT1.out.below hb) 20 (by decide)
      obtain ⟨h1, he1⟩ : ∃ h1, hasT E 23 = h1 := ⟨_, rfl⟩
      obtain ⟨h2, he2⟩ : ∃ h2, hasT E 20 = h2 := ⟨_, rfl⟩
      rw [he1] at HK1
      rw [he2] at HK2
      have HE1 := hide he1
      have HE2 := hide he2
      clear he1 he2 hbA
      obtain ⟨r, hr⟩ : ∃ r, (!(h1 == h2)) = r := ⟨_, rfl⟩
      have hr2 : (h1 != h2) = r := by rw [← hr]; rfl
      have HR := hide hr
      go_wp2_with fail
      try simp only [List.append_eq, List.cons_append, List.nil_append]
      refine wp_region_quiet_below (by kernel_rfl) (by kernel_rfl) ?_
      obtain ⟨x0, x1, x2⟩ := tag_cells HG1.out
      have e0 := cell_regrown x0
      have e1 := cell_regrown x1
      have e2 := cell_regrown x2
      have e3 := cell_regrown (cells_of_block HX1.out 0 (.int .u64 23) rfl)
      have e4 := cell_regrown (cells_of_block HX1.out 1 (.int .u64 20) rfl)
      clear x0 x1 x2
      repeat (go_big_quiet_step (first | (with_reducible exact Calls.regrown_of (HK1.out _ (below_regrown _ _ _))) | (with_reducible exact Calls.regrown_of (HK2.out _ (below_regrown _ _ _)))))
      refine wpQuiet_nil ?_
      intro _ hwq
      obtain ⟨⟨dq, osq⟩, hwq2⟩ := hwq
      subst hwq2
      have HB2 := hide (HB1.out.trans ((below_regrown _ dq osq).mono HL1.out))
      have HT2 := hide (HT1.out.below (below_regrown _ dq osq))
      have HG2 := hide (block_stay HG1.out (below_regrown _ dq osq))
      have HL2 := hide (Nat.le_trans HL1.out (below_regrown _ dq osq).size)
      clear e0 e1 e2 e3 e4 HX1 HK1 HK2 HB HT HG HL HB1 HT1 HG1 HL1
      generalize grow _ _ = w2 at *
      clear hr hr2
      cases r
      · go_wp2
        go_roundw
        case rel => exact ⟨5, by go_num, by omega, HB2, HT2, HG2, HL2, fun j hj hji => by
          by_cases e : j < 4
          · exact HA.out j hj e
          · have e2 : j = 4 := by omega
            subst e2
            show (hasT E 23 == hasT E 20) = true
            rw [HE1.out, HE2.out]; have := HR.out; simpa using this⟩
        case measure => simp [intOf]
      · go_wp2
        go_ret
        refine ⟨?_, by rw [HSZ.out]; exact HB2.out⟩
        have hall : pairsP.all (fun p => hasT E p.tag == hasT E p.val) = false := by
          rw [List.all_eq_false]
          refine ⟨⟨23, 20⟩, by simp [pairsP], ?_⟩
          simp only [HE1.out, HE2.out]
          have := HR.out
          simpa using this
        rw [← HO.out]
        unfold togB
        rw [hall]
        rfl
    | 5, _ =>
      have hix : ∀ W, (Instr.index 93 (.agg #[.int .u64 5, .int .u64 10, .int .u64 17, .int .u64 18, .int .u64 7, .int .u64 8, .int .u64 23, .int .u64 2, .int .u64 23, .int .u64 20, .int .u64 36, .int .u64 35, .int .u64 1610612751, .int .u64 1610612752, .int .u64 1610612753, .int .u64 1610612754, .int .u64 25, .int .u64 27, .int .u64 26, .int .u64 28, .int .u64 1879048188, .int .u64 1879048189, .int .u64 1879048190, .int .u64 1879048191]) (.int .i64 5)).run Tryd.prog W = .ok (.agg #[.int .u64 36, .int .u64 35]) W := fun W => by kernel_rfl
      have hbA := bel1 wr (.cells #[.int .u64 36, .int .u64 35] 92)
      have HB1 := hide (HB.out.trans (hbA.mono HL.out))
      have HT1 := hide (HT.out.below hbA)
      have HG1 := hide (block_stay HG.out hbA)
      have HL1 := hide (Nat.le_trans HL.out hbA.size)
      have HX1 := hide (two_block wr 36 35)
      have HK1 : Hid (∀ W, Below (wr.alloc (.cells #[.int .u64 36, .int .u64 35] 92)).heap.size (wr.alloc (.cells #[.int .u64 36, .int .u64 35] 92)) W → Calls Tryd.prog 42 #[.agg #[.map (some M1), .map (some M2), .slice a n c], .int .u64 36] W fun e w' => e = .returned (.bool (hasT E 36)) ∧ Below W.heap.size W w') := fun W hb => dyn_has W M1 M2 a n c E (HT1.out.below hb) 36 (by decide)
      have HK2 : Hid (∀ W, Below (wr.alloc (.cells #[.int .u64 36, .int .u64 35] 92)).heap.size (wr.alloc (.cells #[.int .u64 36, .int .u64 35] 92)) W → Calls Tryd.prog 42 #[.agg #[.map (some M1), .map (some M2), .slice a n c], .int .u64 35] W fun e w' => e = .returned (.bool (hasT E 35)) ∧ Below W.heap.size W w') := fun W hb => dyn_has W M1 M2 a n c E (HT1.out.below hb) 35 (by decide)
      obtain ⟨h1, he1⟩ : ∃ h1, hasT E 36 = h1 := ⟨_, rfl⟩
      obtain ⟨h2, he2⟩ : ∃ h2, hasT E 35 = h2 := ⟨_, rfl⟩
      rw [he1] at HK1
      rw [he2] at HK2
      have HE1 := hide he1
      have HE2 := hide he2
      clear he1 he2 hbA
      obtain ⟨r, hr⟩ : ∃ r, (!(h1 == h2)) = r := ⟨_, rfl⟩
      have hr2 : (h1 != h2) = r := by rw [← hr]; rfl
      have HR := hide hr
      go_wp2_with fail
      try simp only [List.append_eq, List.cons_append, List.nil_append]
      refine wp_region_quiet_below (by kernel_rfl) (by kernel_rfl) ?_
      obtain ⟨x0, x1, x2⟩ := tag_cells HG1.out
      have e0 := cell_regrown x0
      have e1 := cell_regrown x1
      have e2 := cell_regrown x2
      have e3 := cell_regrown (cells_of_block HX1.out 0 (.int .u64 36) rfl)
      have e4 := cell_regrown (cells_of_block HX1.out 1 (.int .u64 35) rfl)
      clear x0 x1 x2
      repeat (go_big_quiet_step (first | (with_reducible exact Calls.regrown_of (HK1.out _ (below_regrown _ _ _))) | (with_reducible exact Calls.regrown_of (HK2.out _ (below_regrown _ _ _)))))
      refine wpQuiet_nil ?_
      intro _ hwq
      obtain ⟨⟨dq, osq⟩, hwq2⟩ := hwq
      subst hwq2
      have HB2 := hide (HB1.out.trans ((below_regrown _ dq osq).mono HL1.out))
      have HT2 := hide (HT1.out.below (below_regrown _ dq osq))
      have HG2 := hide (block_stay HG1.out (below_regrown _ dq osq))
      have HL2 := hide (Nat.le_trans HL1.out (below_regrown _ dq osq).size)
      clear e0 e1 e2 e3 e4 HX1 HK1 HK2 HB HT HG HL HB1 HT1 HG1 HL1
      generalize grow _ _ = w2 at *
      clear hr hr2
      cases r
      · go_wp2
        go_roundw
        case rel => exact ⟨6, by go_num, by omega, HB2, HT2, HG2, HL2, fun j hj hji => by
          by_cases e : j < 5
          · exact HA.out j hj e
          · have e2 : j = 5 := by omega
            subst e2
            show (hasT E 36 == hasT E 35) = true
            rw [HE1.out, HE2.out]; have := HR.out; simpa using this⟩
        case measure => simp [intOf]
      · go_wp2
        go_ret
        refine ⟨?_, by rw [HSZ.out]; exact HB2.out⟩
        have hall : pairsP.all (fun p => hasT E p.tag == hasT E p.val) = false := by
          rw [List.all_eq_false]
          refine ⟨⟨36, 35⟩, by simp [pairsP], ?_⟩
          simp only [HE1.out, HE2.out]
          have := HR.out
          simpa using this
        rw [← HO.out]
        unfold togB
        rw [hall]
        rfl
    | 6, _ =>
      have hix : ∀ W, (Instr.index 93 (.agg #[.int .u64 5, .int .u64 10, .int .u64 17, .int .u64 18, .int .u64 7, .int .u64 8, .int .u64 23, .int .u64 2, .int .u64 23, .int .u64 20, .int .u64 36, .int .u64 35, .int .u64 1610612751, .int .u64 1610612752, .int .u64 1610612753, .int .u64 1610612754, .int .u64 25, .int .u64 27, .int .u64 26, .int .u64 28, .int .u64 1879048188, .int .u64 1879048189, .int .u64 1879048190, .int .u64 1879048191]) (.int .i64 6)).run Tryd.prog W = .ok (.agg #[.int .u64 1610612751, .int .u64 1610612752]) W := fun W => by kernel_rfl
      have hbA := bel1 wr (.cells #[.int .u64 1610612751, .int .u64 1610612752] 92)
      have HB1 := hide (HB.out.trans (hbA.mono HL.out))
      have HT1 := hide (HT.out.below hbA)
      have HG1 := hide (block_stay HG.out hbA)
      have HL1 := hide (Nat.le_trans HL.out hbA.size)
      have HX1 := hide (two_block wr 1610612751 1610612752)
      have HK1 : Hid (∀ W, Below (wr.alloc (.cells #[.int .u64 1610612751, .int .u64 1610612752] 92)).heap.size (wr.alloc (.cells #[.int .u64 1610612751, .int .u64 1610612752] 92)) W → Calls Tryd.prog 42 #[.agg #[.map (some M1), .map (some M2), .slice a n c], .int .u64 1610612751] W fun e w' => e = .returned (.bool (hasT E 1610612751)) ∧ Below W.heap.size W w') := fun W hb => dyn_has W M1 M2 a n c E (HT1.out.below hb) 1610612751 (by decide)
      have HK2 : Hid (∀ W, Below (wr.alloc (.cells #[.int .u64 1610612751, .int .u64 1610612752] 92)).heap.size (wr.alloc (.cells #[.int .u64 1610612751, .int .u64 1610612752] 92)) W → Calls Tryd.prog 42 #[.agg #[.map (some M1), .map (some M2), .slice a n c], .int .u64 1610612752] W fun e w' => e = .returned (.bool (hasT E 1610612752)) ∧ Below W.heap.size W w') := fun W hb => dyn_has W M1 M2 a n c E (HT1.out.below hb) 1610612752 (by decide)
      obtain ⟨h1, he1⟩ : ∃ h1, hasT E 1610612751 = h1 := ⟨_, rfl⟩
      obtain ⟨h2, he2⟩ : ∃ h2, hasT E 1610612752 = h2 := ⟨_, rfl⟩
      rw [he1] at HK1
      rw [he2] at HK2
      have HE1 := hide he1
      have HE2 := hide he2
      clear he1 he2 hbA
      obtain ⟨r, hr⟩ : ∃ r, (!(h1 == h2)) = r := ⟨_, rfl⟩
      have hr2 : (h1 != h2) = r := by rw [← hr]; rfl
      have HR := hide hr
      go_wp2_with fail
      try simp only [List.append_eq, List.cons_append, List.nil_append]
      refine wp_region_quiet_below (by kernel_rfl) (by kernel_rfl) ?_
      obtain ⟨x0, x1, x2⟩ := tag_cells HG1.out
      have e0 := cell_regrown x0
      have e1 := cell_regrown x1
      have e2 := cell_regrown x2
      have e3 := cell_regrown (cells_of_block HX1.out 0 (.int .u64 1610612751) rfl)
      have e4 := cell_regrown (cells_of_block HX1.out 1 (.int .u64 1610612752) rfl)
      clear x0 x1 x2
      repeat (go_big_quiet_step (first | (with_reducible exact Calls.regrown_of (HK1.out _ (below_regrown _ _ _))) | (with_reducible exact Calls.regrown_of (HK2.out _ (below_regrown _ _ _)))))
      refine wpQuiet_nil ?_
      intro _ hwq
      obtain ⟨⟨dq, osq⟩, hwq2⟩ := hwq
      subst hwq2
      have HB2 := hide (HB1.out.trans ((below_regrown _ dq osq).mono HL1.out))
      have HT2 := hide (HT1.out.below (below_regrown _ dq osq))
      have HG2 := hide (block_stay HG1.out (below_regrown _ dq osq))
      have HL2 := hide (Nat.le_trans HL1.out (below_regrown _ dq osq).size)
      clear e0 e1 e2 e3 e4 HX1 HK1 HK2 HB HT HG HL HB1 HT1 HG1 HL1
      generalize grow _ _ = w2 at *
      clear hr hr2
      cases r
      · go_wp2
        go_roundw
        case rel => exact ⟨7, by go_num, by omega, HB2, HT2, HG2, HL2, fun j hj hji => by
          by_cases e : j < 6
          · exact HA.out j hj e
          · have e2 : j = 6 := by omega
            subst e2
            show (hasT E 1610612751 == hasT E 1610612752) = true
            rw [HE1.out, HE2.out]; have := HR.out; simpa using this⟩
        case measure => simp [intOf]
      · go_wp2
        go_ret
        refine ⟨?_, by rw [HSZ.out]; exact HB2.out⟩
        have hall : pairsP.all (fun p => hasT E p.tag == hasT E p.val) = false := by
          rw [List.all_eq_false]
          refine ⟨⟨1610612751, 1610612752⟩, by simp [pairsP], ?_⟩
          simp only [HE1.out, HE2.out]
          have := HR.out
          simpa using this
        rw [← HO.out]
        unfold togB
        rw [hall]
        rfl
    | 7, _ =>
      have hix : ∀ W, (Instr.index 93 (.agg #[.int .u64 5, .int .u64 10, .int .u64 17, .int .u64 18, .int .u64 7, .int .u64 8, .int .u64 23, .int .u64 2, .int .u64 23, .int .u64 20, .int .u64 36, .int .u64 35, .int .u64 1610612751, .int .u64 1610612752, .int .u64 1610612753, .int .u64 1610612754, .int .u64 25, .int .u64 27, .int .u64 26, .int .u64 28, .int .u64 1879048188, .int .u64 1879048189, .int .u64 1879048190, .int .u64 1879048191]) (.int .i64 7)).run Tryd.prog W = .ok (.agg #[.int .u64 1610612753, .int .u64 1610612754]) W := fun W => by kernel_rfl
      have hbA := bel1 wr (.cells #[.int .u64 1610612753, .int .u64 1610612754] 92)
      have HB1 := hide (HB.out.trans (hbA.mono HL.out))
      have HT1 := hide (HT.out.below hbA)
      have HG1 := hide (block_stay HG.out hbA)
      have HL1 := hide (Nat.le_trans HL.out hbA.size)
      have HX1 := hide (two_block wr 1610612753 1610612754)
      have HK1 : Hid (∀ W, Below (wr.alloc (.cells #[.int .u64 1610612753, .int .u64 1610612754] 92)).heap.size (wr.alloc (.cells #[.int .u64 1610612753, .int .u64 1610612754] 92)) W → Calls Tryd.prog 42 #[.agg #[.map (some M1), .map (some M2), .slice a n c], .int .u64 1610612753] W fun e w' => e = .returned (.bool (hasT E 1610612753)) ∧ Below W.heap.size W w') := fun W hb => dyn_has W M1 M2 a n c E (HT1.out.below hb) 1610612753 (by decide)
      have HK2 : Hid (∀ W, Below (wr.alloc (.cells #[.int .u64 1610612753, .int .u64 1610612754] 92)).heap.size (wr.alloc (.cells #[.int .u64 1610612753, .int .u64 1610612754] 92)) W → Calls Tryd.prog 42 #[.agg #[.map (some M1), .map (some M2), .slice a n c], .int .u64 1610612754] W fun e w' => e = .returned (.bool (hasT E 1610612754)) ∧ Below W.heap.size W w') := fun W hb => dyn_has W M1 M2 a n c E (HT1.out.below hb) 1610612754 (by decide)
      obtain ⟨h1, he1⟩ : ∃ h1, hasT E 1610612753 = h1 := ⟨_, rfl⟩
      obtain ⟨h2, he2⟩ : ∃ h2, hasT E 1610612754 = h2 := ⟨_, rfl⟩
      rw [he1] at HK1
      rw [he2] at HK2
      have HE1 := hide he1
      have HE2 := hide he2
      clear he1 he2 hbA
      obtain ⟨r, hr⟩ : ∃ r, (!(h1 == h2)) = r := ⟨_, rfl⟩
      have hr2 : (h1 != h2) = r := by rw [← hr]; rfl
      have HR := hide hr
      go_wp2_with fail
      try simp only [List.append_eq, List.cons_append, List.nil_append]
      refine wp_region_quiet_below (by kernel_rfl) (by kernel_rfl) ?_
      obtain ⟨x0, x1, x2⟩ := tag_cells HG1.out
      have e0 := cell_regrown x0
      have e1 := cell_regrown x1
      have e2 := cell_regrown x2
      have e3 := cell_regrown (cells_of_block HX1.out 0 (.int .u64 1610612753) rfl)
      have e4 := cell_regrown (cells_of_block HX1.out 1 (.int .u64 1610612754) rfl)
      clear x0 x1 x2
      repeat (go_big_quiet_step (first | (with_reducible exact Calls.regrown_of (HK1.out _ (below_regrown _ _ _))) | (with_reducible exact Calls.regrown_of (HK2.out _ (below_regrown _ _ _)))))
      refine wpQuiet_nil ?_
      intro _ hwq
      obtain ⟨⟨dq, osq⟩, hwq2⟩ := hwq
      subst hwq2
      have HB2 := hide (HB1.out.trans ((below_regrown _ dq osq).mono HL1.out))
      have HT2 := hide (HT1.out.below (below_regrown _ dq osq))
      have HG2 := hide (block_stay HG1.out (below_regrown _ dq osq))
      have HL2 := hide (Nat.le_trans HL1.out (below_regrown _ dq osq).size)
      clear e0 e1 e2 e3 e4 HX1 HK1 HK2 HB HT HG HL HB1 HT1 HG1 HL1
      generalize grow _ _ = w2 at *
      clear hr hr2
      cases r
      · go_wp2
        go_roundw
        case rel => exact ⟨8, by go_num, by omega, HB2, HT2, HG2, HL2, fun j hj hji => by
          by_cases e : j < 7
          · exact HA.out j hj e
          · have e2 : j = 7 := by omega
            subst e2
            show (hasT E 1610612753 == hasT E 1610612754) = true
            rw [HE1.out, HE2.out]; have := HR.out; simpa using this⟩
        case measure => simp [intOf]
      · go_wp2
        go_ret
        refine ⟨?_, by rw [HSZ.out]; exact HB2.out⟩
        have hall : pairsP.all (fun p => hasT E p.tag == hasT E p.val) = false := by
          rw [List.all_eq_false]
          refine ⟨⟨1610612753, 1610612754⟩, by simp [pairsP], ?_⟩
          simp only [HE1.out, HE2.out]
          have := HR.out
          simpa using this
        rw [← HO.out]
        unfold togB
        rw [hall]
        rfl
    | 8, _ =>
      have hix : ∀ W, (Instr.index 93 (.agg #[.int .u64 5, .int .u64 10, .int .u64 17, .int .u64 18, .int .u64 7, .int .u64 8, .int .u64 23, .int .u64 2, .int .u64 23, .int .u64 20, .int .u64 36, .int .u64 35, .int .u64 1610612751, .int .u64 1610612752, .int .u64 1610612753, .int .u64 1610612754, .int .u64 25, .int .u64 27, .int .u64 26, .int .u64 28, .int .u64 1879048188, .int .u64 1879048189, .int .u64 1879048190, .int .u64 1879048191]) (.int .i64 8)).run Tryd.prog W = .ok (.agg #[.int .u64 25, .int .u64 27]) W := fun W => by kernel_rfl
      have hbA := bel1 wr (.cells #[.int .u64 25, .int .u64 27] 92)
      have HB1 := hide (HB.out.trans (hbA.mono HL.out))
      have HT1 := hide (HT.out.below hbA)
      have HG1 := hide (block_stay HG.out hbA)
      have HL1 := hide (Nat.le_trans HL.out hbA.size)
      have HX1 := hide (two_block wr 25 27)
      have HK1 : Hid (∀ W, Below (wr.alloc (.cells #[.int .u64 25, .int .u64 27] 92)).heap.size (wr.alloc (.cells #[.int .u64 25, .int .u64 27] 92)) W → Calls Tryd.prog 42 #[.agg #[.map (some M1), .map (some M2), .slice a n c], .int .u64 25] W fun e w' => e = .returned (.bool (hasT E 25)) ∧ Below W.heap.size W w') := fun W hb => dyn_has W M1 M2 a n c E (HT1.out.below hb) 25 (by decide)
      have HK2 : Hid (∀ W, Below (wr.alloc (.cells #[.int .u64 25, .int .u64 27] 92)).heap.size (wr.alloc (.cells #[.int .u64 25, .int .u64 27] 92)) W → Calls Tryd.prog 42 #[.agg #[.map (some M1), .map (some M2), .slice a n c], .int .u64 27] W fun e w' => e = .returned (.bool (hasT E 27)) ∧ Below W.heap.size W w') := fun W hb => dyn_has W M1 M2 a n c E (HT1.out.below hb) 27 (by decide)
      obtain ⟨h1, he1⟩ : ∃ h1, hasT E 25 = h1 := ⟨_, rfl⟩
      obtain ⟨h2, he2⟩ : ∃ h2, hasT E 27 = h2 := ⟨_, rfl⟩
      rw [he1] at HK1
      rw [he2] at HK2
      have HE1 := hide he1
      have HE2 := hide he2
      clear he1 he2 hbA
      obtain ⟨r, hr⟩ : ∃ r, (!(h1 == h2)) = r := ⟨_, rfl⟩
      have hr2 : (h1 != h2) = r := by rw [← hr]; rfl
      have HR := hide hr
      go_wp2_with fail
      try simp only [List.append_eq, List.cons_append, List.nil_append]
      refine wp_region_quiet_below (by kernel_rfl) (by kernel_rfl) ?_
      obtain ⟨x0, x1, x2⟩ := tag_cells HG1.out
      have e0 := cell_regrown x0
      have e1 := cell_regrown x1
      have e2 := cell_regrown x2
      have e3 := cell_regrown (cells_of_block HX1.out 0 (.int .u64 25) rfl)
      have e4 := cell_regrown (cells_of_block HX1.out 1 (.int .u64 27) rfl)
      clear x0 x1 x2
      repeat (go_big_quiet_step (first | (with_reducible exact Calls.regrown_of (HK1.out _ (below_regrown _ _ _))) | (with_reducible exact Calls.regrown_of (HK2.out _ (below_regrown _ _ _)))))
      refine wpQuiet_nil ?_
      intro _ hwq
      obtain ⟨⟨dq, osq⟩, hwq2⟩ := hwq
      subst hwq2
      have HB2 := hide (HB1.out.trans ((below_regrown _ dq osq).mono HL1.out))
      have HT2 := hide (HT1.out.below (below_regrown _ dq osq))
      have HG2 := hide (block_stay HG1.out (below_regrown _ dq osq))
      have HL2 := hide (Nat.le_trans HL1.out (below_regrown _ dq osq).size)
      clear e0 e1 e2 e3 e4 HX1 HK1 HK2 HB HT HG HL HB1 HT1 HG1 HL1
      generalize grow _ _ = w2 at *
      clear hr hr2
      cases r
      · go_wp2
        go_roundw
        case rel => exact ⟨9, by go_num, by omega, HB2, HT2, HG2, HL2, fun j hj hji => by
          by_cases e : j < 8
          · exact HA.out j hj e
          · have e2 : j = 8 := by omega
            subst e2
            show (hasT E 25 == hasT E 27) = true
            rw [HE1.out, HE2.out]; have := HR.out; simpa using this⟩
        case measure => simp [intOf]
      · go_wp2
        go_ret
        refine ⟨?_, by rw [HSZ.out]; exact HB2.out⟩
        have hall : pairsP.all (fun p => hasT E p.tag == hasT E p.val) = false := by
          rw [List.all_eq_false]
          refine ⟨⟨25, 27⟩, by simp [pairsP], ?_⟩
          simp only [HE1.out, HE2.out]
          have := HR.out
          simpa using this
        rw [← HO.out]
        unfold togB
        rw [hall]
        rfl
    | 9, _ =>
      have hix : ∀ W, (Instr.index 93 (.agg #[.int .u64 5, .int .u64 10, .int .u64 17, .int .u64 18, .int .u64 7, .int .u64 8, .int .u64 23, .int .u64 2, .int .u64 23, .int .u64 20, .int .u64 36, .int .u64 35, .int .u64 1610612751, .int .u64 1610612752, .int .u64 1610612753, .int .u64 1610612754, .int .u64 25, .int .u64 27, .int .u64 26, .int .u64 28, .int .u64 1879048188, .int .u64 1879048189, .int .u64 1879048190, .int .u64 1879048191]) (.int .i64 9)).run Tryd.prog W = .ok (.agg #[.int .u64 26, .int .u64 28]) W := fun W => by kernel_rfl
      have hbA := bel1 wr (.cells #[.int .u64 26, .int .u64 28] 92)
      have HB1 := hide (HB.out.trans (hbA.mono HL.out))
      have HT1 := hide (HT.out.below hbA)
      have HG1 := hide (block_stay HG.out hbA)
      have HL1 := hide (Nat.le_trans HL.out hbA.size)
      have HX1 := hide (two_block wr 26 28)
      have HK1 : Hid (∀ W, Below (wr.alloc (.cells #[.int .u64 26, .int .u64 28] 92)).heap.size (wr.alloc (.cells #[.int .u64 26, .int .u64 28] 92)) W → Calls Tryd.prog 42 #[.agg #[.map (some M1), .map (some M2), .slice a n c], .int .u64 26] W fun e w' => e = .returned (.bool (hasT E 26)) ∧ Below W.heap.size W w') := fun W hb => dyn_has W M1 M2 a n c E (HT1.out.below hb) 26 (by decide)
      have HK2 : Hid (∀ W, Below (wr.alloc (.cells #[.int .u64 26, .int .u64 28] 92)).heap.size (wr.alloc (.cells #[.int .u64 26, .int .u64 28] 92)) W → Calls Tryd.prog 42 #[.agg #[.map (some M1), .map (some M2), .slice a n c], .int .u64 28] W fun e w' => e = .returned (.bool (hasT E 28)) ∧ Below W.heap.size W w') := fun W hb => dyn_has W M1 M2 a n c E (HT1.out.below hb) 28 (by decide)
      obtain ⟨h1, he1⟩ : ∃ h1, hasT E 26 = h1 := ⟨_, rfl⟩
      obtain ⟨h2, he2⟩ : ∃ h2, hasT E 28 = h2 := ⟨_, rfl⟩
      rw [he1] at HK1
      rw [he2] at HK2
      have HE1 := hide he1
      have HE2 := hide he2
      clear he1 he2 hbA
      obtain ⟨r, hr⟩ : ∃ r, (!(h1 == h2)) = r := ⟨_, rfl⟩
      have hr2 : (h1 != h2) = r := by rw [← hr]; rfl
      have HR := hide hr
      go_wp2_with fail
      try simp only [List.append_eq, List.cons_append, List.nil_append]
      refine wp_region_quiet_below (by kernel_rfl) (by kernel_rfl) ?_
      obtain ⟨x0, x1, x2⟩ := tag_cells HG1.out
      have e0 := cell_regrown x0
      have e1 := cell_regrown x1
      have e2 := cell_regrown x2
      have e3 := cell_regrown (cells_of_block HX1.out 0 (.int .u64 26) rfl)
      have e4 := cell_regrown (cells_of_block HX1.out 1 (.int .u64 28) rfl)
      clear x0 x1 x2
      repeat (go_big_quiet_step (first | (with_reducible exact Calls.regrown_of (HK1.out _ (below_regrown _ _ _))) | (with_reducible exact Calls.regrown_of (HK2.out _ (below_regrown _ _ _)))))
      refine wpQuiet_nil ?_
      intro _ hwq
      obtain ⟨⟨dq, osq⟩, hwq2⟩ := hwq
      subst hwq2
      have HB2 := hide (HB1.out.trans ((below_regrown _ dq osq).mono HL1.out))
      have HT2 := hide (HT1.out.below (below_regrown _ dq osq))
      have HG2 := hide (block_stay HG1.out (below_regrown _ dq osq))
      have HL2 := hide (Nat.le_trans HL1.out (below_regrown _ dq osq).size)
      clear e0 e1 e2 e3 e4 HX1 HK1 HK2 HB HT HG HL HB1 HT1 HG1 HL1
      generalize grow _ _ = w2 at *
      clear hr hr2
      cases r
      · go_wp2
        go_roundw
        case rel => exact ⟨10, by go_num, by omega, HB2, HT2, HG2, HL2, fun j hj hji => by
          by_cases e : j < 9
          · exact HA.out j hj e
          · have e2 : j = 9 := by omega
            subst e2
            show (hasT E 26 == hasT E 28) = true
            rw [HE1.out, HE2.out]; have := HR.out; simpa using this⟩
        case measure => simp [intOf]
      · go_wp2
        go_ret
        refine ⟨?_, by rw [HSZ.out]; exact HB2.out⟩
        have hall : pairsP.all (fun p => hasT E p.tag == hasT E p.val) = false := by
          rw [List.all_eq_false]
          refine ⟨⟨26, 28⟩, by simp [pairsP], ?_⟩
          simp only [HE1.out, HE2.out]
          have := HR.out
          simpa using this
        rw [← HO.out]
        unfold togB
        rw [hall]
        rfl
    | 10, _ =>
      have hix : ∀ W, (Instr.index 93 (.agg #[.int .u64 5, .int .u64 10, .int .u64 17, .int .u64 18, .int .u64 7, .int .u64 8, .int .u64 23, .int .u64 2, .int .u64 23, .int .u64 20, .int .u64 36, .int .u64 35, .int .u64 1610612751, .int .u64 1610612752, .int .u64 1610612753, .int .u64 1610612754, .int .u64 25, .int .u64 27, .int .u64 26, .int .u64 28, .int .u64 1879048188, .int .u64 1879048189, .int .u64 1879048190, .int .u64 1879048191]) (.int .i64 10)).run Tryd.prog W = .ok (.agg #[.int .u64 1879048188, .int .u64 1879048189]) W := fun W => by kernel_rfl
      have hbA := bel1 wr (.cells #[.int .u64 1879048188, .int .u64 1879048189] 92)
      have HB1 := hide (HB.out.trans (hbA.mono HL.out))
      have HT1 := hide (HT.out.below hbA)
      have HG1 := hide (block_stay HG.out hbA)
      have HL1 := hide (Nat.le_trans HL.out hbA.size)
      have HX1 := hide (two_block wr 1879048188 1879048189)
      have HK1 : Hid (∀ W, Below (wr.alloc (.cells #[.int .u64 1879048188, .int .u64 1879048189] 92)).heap.size (wr.alloc (.cells #[.int .u64 1879048188, .int .u64 1879048189] 92)) W → Calls Tryd.prog 42 #[.agg #[.map (some M1), .map (some M2), .slice a n c], .int .u64 1879048188] W fun e w' => e = .returned (.bool (hasT E 1879048188)) ∧ Below W.heap.size W w') := fun W hb => dyn_has W M1 M2 a n c E (HT1.out.below hb) 1879048188 (by decide)
      have HK2 : Hid (∀ W, Below (wr.alloc (.cells #[.int .u64 1879048188, .int .u64 1879048189] 92)).heap.size (wr.alloc (.cells #[.int .u64 1879048188, .int .u64 1879048189] 92)) W → Calls Tryd.prog 42 #[.agg #[.map (some M1), .map (some M2), .slice a n c], .int .u64 1879048189] W fun e w' => e = .returned (.bool (hasT E 1879048189)) ∧ Below W.heap.size W w') := fun W hb => dyn_has W M1 M2 a n c E (HT1.out.below hb) 1879048189 (by decide)
      obtain ⟨h1, he1⟩ : ∃ h1, hasT E 1879048188 = h1 := ⟨_, rfl⟩
      obtain ⟨h2, he2⟩ : ∃ h2, hasT E 1879048189 = h2 := ⟨_, rfl⟩
      rw [he1] at HK1
      rw [he2] at HK2
      have HE1 := hide he1
      have HE2 := hide he2
      clear he1 he2 hbA
      obtain ⟨r, hr⟩ : ∃ r, (!(h1 == h2)) = r := ⟨_, rfl⟩
      have hr2 : (h1 != h2) = r := by rw [← hr]; rfl
      have HR := hide hr
      go_wp2_with fail
      try simp only [List.append_eq, List.cons_append, List.nil_append]
      refine wp_region_quiet_below (by kernel_rfl) (by kernel_rfl) ?_
      obtain ⟨x0, x1, x2⟩ := tag_cells HG1.out
      have e0 := cell_regrown x0
      have e1 := cell_regrown x1
      have e2 := cell_regrown x2
      have e3 := cell_regrown (cells_of_block HX1.out 0 (.int .u64 1879048188) rfl)
      have e4 := cell_regrown (cells_of_block HX1.out 1 (.int .u64 1879048189) rfl)
      clear x0 x1 x2
      repeat (go_big_quiet_step (first | (with_reducible exact Calls.regrown_of (HK1.out _ (below_regrown _ _ _))) | (with_reducible exact Calls.regrown_of (HK2.out _ (below_regrown _ _ _)))))
      refine wpQuiet_nil ?_
      intro _ hwq
      obtain ⟨⟨dq, osq⟩, hwq2⟩ := hwq
      subst hwq2
      have HB2 := hide (HB1.out.trans ((below_regrown _ dq osq).mono HL1.out))
      have HT2 := hide (HT1.out.below (below_regrown _ dq osq))
      have HG2 := hide (block_stay HG1.out (below_regrown _ dq osq))
      have HL2 := hide (Nat.le_trans HL1.out (below_regrown _ dq osq).size)
      clear e0 e1 e2 e3 e4 HX1 HK1 HK2 HB HT HG HL HB1 HT1 HG1 HL1
      generalize grow _ _ = w2 at *
      clear hr hr2
      cases r
      · go_wp2
        go_roundw
        case rel => exact ⟨11, by go_num, by omega, HB2, HT2, HG2, HL2, fun j hj hji => by
          by_cases e : j < 10
          · exact HA.out j hj e
          · have e2 : j = 10 := by omega
            subst e2
            show (hasT E 1879048188 == hasT E 1879048189) = true
            rw [HE1.out, HE2.out]; have := HR.out; simpa using this⟩
        case measure => simp [intOf]
      · go_wp2
        go_ret
        refine ⟨?_, by rw [HSZ.out]; exact HB2.out⟩
        have hall : pairsP.all (fun p => hasT E p.tag == hasT E p.val) = false := by
          rw [List.all_eq_false]
          refine ⟨⟨1879048188, 1879048189⟩, by simp [pairsP], ?_⟩
          simp only [HE1.out, HE2.out]
          have := HR.out
          simpa using this
        rw [← HO.out]
        unfold togB
        rw [hall]
        rfl
    | 11, _ =>
      have hix : ∀ W, (Instr.index 93 (.agg #[.int .u64 5, .int .u64 10, .int .u64 17, .int .u64 18, .int .u64 7, .int .u64 8, .int .u64 23, .int .u64 2, .int .u64 23, .int .u64 20, .int .u64 36, .int .u64 35, .int .u64 1610612751, .int .u64 1610612752, .int .u64 1610612753, .int .u64 1610612754, .int .u64 25, .int .u64 27, .int .u64 26, .int .u64 28, .int .u64 1879048188, .int .u64 1879048189, .int .u64 1879048190, .int .u64 1879048191]) (.int .i64 11)).run Tryd.prog W = .ok (.agg #[.int .u64 1879048190, .int .u64 1879048191]) W := fun W => by kernel_rfl
      have hbA := bel1 wr (.cells #[.int .u64 1879048190, .int .u64 1879048191] 92)
      have HB1 := hide (HB.out.trans (hbA.mono HL.out))
      have HT1 := hide (HT.out.below hbA)
      have HG1 := hide (block_stay HG.out hbA)
      have HL1 := hide (Nat.le_trans HL.out hbA.size)
      have HX1 := hide (two_block wr 1879048190 1879048191)
      have HK1 : Hid (∀ W, Below (wr.alloc (.cells #[.int .u64 1879048190, .int .u64 1879048191] 92)).heap.size (wr.alloc (.cells #[.int .u64 1879048190, .int .u64 1879048191] 92)) W → Calls Tryd.prog 42 #[.agg #[.map (some M1), .map (some M2), .slice a n c], .int .u64 1879048190] W fun e w' => e = .returned (.bool (hasT E 1879048190)) ∧ Below W.heap.size W w') := fun W hb => dyn_has W M1 M2 a n c E (HT1.out.below hb) 1879048190 (by decide)
      have HK2 : Hid (∀ W, Below (wr.alloc (.cells #[.int .u64 1879048190, .int .u64 1879048191] 92)).heap.size (wr.alloc (.cells #[.int .u64 1879048190, .int .u64 1879048191] 92)) W → Calls Tryd.prog 42 #[.agg #[.map (some M1), .map (some M2), .slice a n c], .int .u64 1879048191] W fun e w' => e = .returned (.bool (hasT E 1879048191)) ∧ Below W.heap.size W w') := fun W hb => dyn_has W M1 M2 a n c E (HT1.out.below hb) 1879048191 (by decide)
      obtain ⟨h1, he1⟩ : ∃ h1, hasT E 1879048190 = h1 := ⟨_, rfl⟩
      obtain ⟨h2, he2⟩ : ∃ h2, hasT E 1879048191 = h2 := ⟨_, rfl⟩
      rw [he1] at HK1
      rw [he2] at HK2
      have HE1 := hide he1
      have HE2 := hide he2
      clear he1 he2 hbA
      obtain ⟨r, hr⟩ : ∃ r, (!(h1 == h2)) = r := ⟨_, rfl⟩
      have hr2 : (h1 != h2) = r := by rw [← hr]; rfl
      have HR := hide hr
      go_wp2_with fail
      try simp only [List.append_eq, List.cons_append, List.nil_append]
      refine wp_region_quiet_below (by kernel_rfl) (by kernel_rfl) ?_
      obtain ⟨x0, x1, x2⟩ := tag_cells HG1.out
      have e0 := cell_regrown x0
      have e1 := cell_regrown x1
      have e2 := cell_regrown x2
      have e3 := cell_regrown (cells_of_block HX1.out 0 (.int .u64 1879048190) rfl)
      have e4 := cell_regrown (cells_of_block HX1.out 1 (.int .u64 1879048191) rfl)
      clear x0 x1 x2
      repeat (go_big_quiet_step (first | (with_reducible exact Calls.regrown_of (HK1.out _ (below_regrown _ _ _))) | (with_reducible exact Calls.regrown_of (HK2.out _ (below_regrown _ _ _)))))
      refine wpQuiet_nil ?_
      intro _ hwq
      obtain ⟨⟨dq, osq⟩, hwq2⟩ := hwq
      subst hwq2
      have HB2 := hide (HB1.out.trans ((below_regrown _ dq osq).mono HL1.out))
      have HT2 := hide (HT1.out.below (below_regrown _ dq osq))
      have HG2 := hide (block_stay HG1.out (below_regrown _ dq osq))
      have HL2 := hide (Nat.le_trans HL1.out (below_regrown _ dq osq).size)
      clear e0 e1 e2 e3 e4 HX1 HK1 HK2 HB HT HG HL HB1 HT1 HG1 HL1
      generalize grow _ _ = w2 at *
      clear hr hr2
      cases r
      · go_wp2
        go_roundw
        case rel => exact ⟨12, by go_num, by omega, HB2, HT2, HG2, HL2, fun j hj hji => by
          by_cases e : j < 11
          · exact HA.out j hj e
          · have e2 : j = 11 := by omega
            subst e2
            show (hasT E 1879048190 == hasT E 1879048191) = true
            rw [HE1.out, HE2.out]; have := HR.out; simpa using this⟩
        case measure => simp [intOf]
      · go_wp2
        go_ret
        refine ⟨?_, by rw [HSZ.out]; exact HB2.out⟩
        have hall : pairsP.all (fun p => hasT E p.tag == hasT E p.val) = false := by
          rw [List.all_eq_false]
          refine ⟨⟨1879048190, 1879048191⟩, by simp [pairsP], ?_⟩
          simp only [HE1.out, HE2.out]
          have := HR.out
          simpa using this
        rw [← HO.out]
        unfold togB
        rw [hall]
        rfl
    | 12, _ =>
      have hall : pairsP.all (fun p => hasT E p.tag == hasT E p.val) = true := by
        rw [List.all_eq_true]
        intro p hp
        obtain ⟨j, hj, rfl⟩ := List.mem_iff_getElem.1 hp
        exact HA.out j hj hj
      have hO := HO.out
      unfold togB at hO
      rw [hall, Bool.true_and] at hO
      have HO2 := hide hO
      clear hall hO HO HA
      have HB0 := HB
      have HT0 := HT
      have HG0 := HG
      have HL0 := HL
      have kq := dyn_has wr M1 M2 a n c E HT0.out 5 (by decide)
      obtain ⟨x0, x1, x2⟩ := tag_cells HG0.out
      obtain ⟨b0, hb0e⟩ : ∃ b0, hasT E 5 = b0 := ⟨_, rfl⟩
      rw [hb0e] at kq
      have HE0 := hide hb0e
      go_wp2_with fail
      clear hb0e
      cases b0
      · refine kq.mono ?_
        rintro e v0 ⟨rfl, hbq⟩
        have HB1 := hide (HB0.out.trans (hbq.mono HL0.out))
        have HT1 := hide (HT0.out.below hbq)
        have HG1 := hide (block_stay HG0.out hbq)
        have HL1 := hide (Nat.le_trans HL0.out hbq.size)
        clear kq hbq x0 x1 x2
        go_wp2
        go_ret
        exact ⟨by rw [← HO2.out, HE0.out]; rfl, by rw [HSZ.out]; exact HB1.out⟩
      · refine kq.mono ?_
        rintro e v0 ⟨rfl, hbq⟩
        have HB1 := hide (HB0.out.trans (hbq.mono HL0.out))
        have HT1 := hide (HT0.out.below hbq)
        have HG1 := hide (block_stay HG0.out hbq)
        have HL1 := hide (Nat.le_trans HL0.out hbq.size)
        clear kq hbq x0 x1 x2
        have kq := dyn_has v0 M1 M2 a n c E HT1.out 6 (by decide)
        obtain ⟨x0, x1, x2⟩ := tag_cells HG1.out
        obtain ⟨b1, hb1e⟩ : ∃ b1, hasT E 6 = b1 := ⟨_, rfl⟩
        rw [hb1e] at kq
        have HE1 := hide hb1e
        go_wp2_with fail
        clear hb1e
        cases b1
        · refine kq.mono ?_
          rintro e v1 ⟨rfl, hbq⟩
          have HB2 := hide (HB1.out.trans (hbq.mono HL1.out))
          have HT2 := hide (HT1.out.below hbq)
          have HG2 := hide (block_stay HG1.out hbq)
          have HL2 := hide (Nat.le_trans HL1.out hbq.size)
          clear kq hbq x0 x1 x2
          go_wp2
          go_ret
          exact ⟨by rw [← HO2.out, HE0.out, HE1.out]; rfl, by rw [HSZ.out]; exact HB2.out⟩
        · refine kq.mono ?_
          rintro e v1 ⟨rfl, hbq⟩
          have HB2 := hide (HB1.out.trans (hbq.mono HL1.out))
          have HT2 := hide (HT1.out.below hbq)
          have HG2 := hide (block_stay HG1.out hbq)
          have HL2 := hide (Nat.le_trans HL1.out hbq.size)
          clear kq hbq x0 x1 x2
          have kq := dyn_has v1 M1 M2 a n c E HT2.out 4 (by decide)
          obtain ⟨x0, x1, x2⟩ := tag_cells HG2.out
          obtain ⟨b2, hb2e⟩ : ∃ b2, hasT E 4 = b2 := ⟨_, rfl⟩
          rw [hb2e] at kq
          have HE2 := hide hb2e
          go_wp2_with fail
          clear hb2e
          cases b2
          · refine kq.mono ?_
            rintro e v2 ⟨rfl, hbq⟩
            have HB3 := hide (HB2.out.trans (hbq.mono HL2.out))
            have HT3 := hide (HT2.out.below hbq)
            have HG3 := hide (block_stay HG2.out hbq)
            have HL3 := hide (Nat.le_trans HL2.out hbq.size)
            clear kq hbq x0 x1 x2
            have kq := dyn_has v2 M1 M2 a n c E HT3.out 1879047925 (by decide)
            obtain ⟨x0, x1, x2⟩ := tag_cells HG3.out
            obtain ⟨b3, hb3e⟩ : ∃ b3, hasT E 1879047925 = b3 := ⟨_, rfl⟩
            rw [hb3e] at kq
            have HE3 := hide hb3e
            go_wp2_with fail
            clear hb3e
            cases b3
            · refine kq.mono ?_
              rintro e v3 ⟨rfl, hbq⟩
              have HB4 := hide (HB3.out.trans (hbq.mono HL3.out))
              have HT4 := hide (HT3.out.below hbq)
              have HG4 := hide (block_stay HG3.out hbq)
              have HL4 := hide (Nat.le_trans HL3.out hbq.size)
              clear kq hbq x0 x1 x2
              go_wp2
              go_ret
              exact ⟨by rw [← HO2.out, HE0.out, HE1.out, HE2.out, HE3.out]; rfl, by rw [HSZ.out]; exact HB4.out⟩
            · refine kq.mono ?_
              rintro e v3 ⟨rfl, hbq⟩
              have HB4 := hide (HB3.out.trans (hbq.mono HL3.out))
              have HT4 := hide (HT3.out.below hbq)
              have HG4 := hide (block_stay HG3.out hbq)
              have HL4 := hide (Nat.le_trans HL3.out hbq.size)
              clear kq hbq x0 x1 x2
              have kq := dyn_has v3 M1 M2 a n c E HT4.out 1610612751 (by decide)
              obtain ⟨x0, x1, x2⟩ := tag_cells HG4.out
              obtain ⟨b4, hb4e⟩ : ∃ b4, hasT E 1610612751 = b4 := ⟨_, rfl⟩
              rw [hb4e] at kq
              have HE4 := hide hb4e
              go_wp2_with fail
              clear hb4e
              cases b4
              · refine kq.mono ?_
                rintro e v4 ⟨rfl, hbq⟩
                have HB5 := hide (HB4.out.trans (hbq.mono HL4.out))
                have HT5 := hide (HT4.out.below hbq)
                have HG5 := hide (block_stay HG4.out hbq)
                have HL5 := hide (Nat.le_trans HL4.out hbq.size)
                clear kq hbq x0 x1 x2
                go_wp2
                go_ret
                exact ⟨by rw [← HO2.out, HE0.out, HE1.out, HE2.out, HE3.out, HE4.out]; rfl, by rw [HSZ.out]; exact HB5.out⟩
              · refine kq.mono ?_
                rintro e v4 ⟨rfl, hbq⟩
                have HB5 := hide (HB4.out.trans (hbq.mono HL4.out))
                have HT5 := hide (HT4.out.below hbq)
                have HG5 := hide (block_stay HG4.out hbq)
                have HL5 := hide (Nat.le_trans HL4.out hbq.size)
                clear kq hbq x0 x1 x2
                have kq := dyn_has v4 M1 M2 a n c E HT5.out 1610612753 (by decide)
                obtain ⟨x0, x1, x2⟩ := tag_cells HG5.out
                obtain ⟨b5, hb5e⟩ : ∃ b5, hasT E 1610612753 = b5 := ⟨_, rfl⟩
                rw [hb5e] at kq
                have HE5 := hide hb5e
                go_wp2_with fail
                clear hb5e
                cases b5
                · refine kq.mono ?_
                  rintro e v5 ⟨rfl, hbq⟩
                  have HB6 := hide (HB5.out.trans (hbq.mono HL5.out))
                  have HT6 := hide (HT5.out.below hbq)
                  have HG6 := hide (block_stay HG5.out hbq)
                  have HL6 := hide (Nat.le_trans HL5.out hbq.size)
                  clear kq hbq x0 x1 x2
                  go_wp2
                  go_ret
                  exact ⟨by rw [← HO2.out, HE0.out, HE1.out, HE2.out, HE3.out, HE4.out, HE5.out]; rfl, by rw [HSZ.out]; exact HB6.out⟩
                · refine kq.mono ?_
                  rintro e v5 ⟨rfl, hbq⟩
                  have HB6 := hide (HB5.out.trans (hbq.mono HL5.out))
                  have HT6 := hide (HT5.out.below hbq)
                  have HG6 := hide (block_stay HG5.out hbq)
                  have HL6 := hide (Nat.le_trans HL5.out hbq.size)
                  clear kq hbq x0 x1 x2
                  go_wp2
                  go_ret
                  exact ⟨by rw [← HO2.out, HE0.out, HE1.out, HE2.out, HE3.out, HE4.out, HE5.out]; rfl, by rw [HSZ.out]; exact HB6.out⟩
          · refine kq.mono ?_
            rintro e v2 ⟨rfl, hbq⟩
            have HB3 := hide (HB2.out.trans (hbq.mono HL2.out))
            have HT3 := hide (HT2.out.below hbq)
            have HG3 := hide (block_stay HG2.out hbq)
            have HL3 := hide (Nat.le_trans HL2.out hbq.size)
            clear kq hbq x0 x1 x2
            have kq := dyn_has v2 M1 M2 a n c E HT3.out 1610612751 (by decide)
            obtain ⟨x0, x1, x2⟩ := tag_cells HG3.out
            obtain ⟨b3, hb3e⟩ : ∃ b3, hasT E 1610612751 = b3 := ⟨_, rfl⟩
            rw [hb3e] at kq
            have HE3 := hide hb3e
            go_wp2_with fail
            clear hb3e
            cases b3
            · refine kq.mono ?_
              rintro e v3 ⟨rfl, hbq⟩
              have HB4 := hide (HB3.out.trans (hbq.mono HL3.out))
              have HT4 := hide (HT3.out.below hbq)
              have HG4 := hide (block_stay HG3.out hbq)
              have HL4 := hide (Nat.le_trans HL3.out hbq.size)
              clear kq hbq x0 x1 x2
              go_wp2
              go_ret
              exact ⟨by rw [← HO2.out, HE0.out, HE1.out, HE2.out, HE3.out]; rfl, by rw [HSZ.out]; exact HB4.out⟩
            · refine kq.mono ?_
              rintro e v3 ⟨rfl, hbq⟩
              have HB4 := hide (HB3.out.trans (hbq.mono HL3.out))
              have HT4 := hide (HT3.out.below hbq)
              have HG4 := hide (block_stay HG3.out hbq)
              have HL4 := hide (Nat.le_trans HL3.out hbq.size)
              clear kq hbq x0 x1 x2
              have kq := dyn_has v3 M1 M2 a n c E HT4.out 1610612753 (by decide)
              obtain ⟨x0, x1, x2⟩ := tag_cells HG4.out
              obtain ⟨b4, hb4e⟩ : ∃ b4, hasT E 1610612753 = b4 := ⟨_, rfl⟩
              rw [hb4e] at kq
              have HE4 := hide hb4e
              go_wp2_with fail
              clear hb4e
              cases b4
              · refine kq.mono ?_
                rintro e v4 ⟨rfl, hbq⟩
                have HB5 := hide (HB4.out.trans (hbq.mono HL4.out))
                have HT5 := hide (HT4.out.below hbq)
                have HG5 := hide (block_stay HG4.out hbq)
                have HL5 := hide (Nat.le_trans HL4.out hbq.size)
                clear kq hbq x0 x1 x2
                go_wp2
                go_ret
                exact ⟨by rw [← HO2.out, HE0.out, HE1.out, HE2.out, HE3.out, HE4.out]; rfl, by rw [HSZ.out]; exact HB5.out⟩
              · refine kq.mono ?_
                rintro e v4 ⟨rfl, hbq⟩
                have HB5 := hide (HB4.out.trans (hbq.mono HL4.out))
                have HT5 := hide (HT4.out.below hbq)
                have HG5 := hide (block_stay HG4.out hbq)
                have HL5 := hide (Nat.le_trans HL4.out hbq.size)
                clear kq hbq x0 x1 x2
                go_wp2
                go_ret
                exact ⟨by rw [← HO2.out, HE0.out, HE1.out, HE2.out, HE3.out, HE4.out]; rfl, by rw [HSZ.out]; exact HB5.out⟩
    | i + 13, hi => omega
end Go.Proofs.YtibfiikjelmhmaaDoor
namespace Go.Proofs.YtibfiikjelmhmaaDoor
open Go.RowKit Go.PlainAid Go.Sort
/-- All but block D lies as it lay. -/
structure Dg (w w' : World) (D : Nat) : Prop where
  os : w'.os = w.os
  tape : w'.tape = w.tape
  output : w'.output = w.output
  size : w.heap.size ≤ w'.heap.size
  block : ∀ k, k < w.heap.size → k ≠ D → w'.heap[k]? = w.heap[k]?
theorem Dg.refl (w : World) (D : Nat) : Dg w w D := ⟨rfl, rfl, rfl, Nat.le_refl _, fun _ _ _ => rfl⟩
theorem Dg.below {w a b : World} {D : Nat} (h : Dg w a D) (hb : Below a.heap.size a b) : Dg w b D :=
  ⟨hb.os.trans h.os, hb.tape.trans h.tape, hb.output.trans h.output, Nat.le_trans h.size hb.size, fun k hk hn => (hb.block k (Nat.lt_of_lt_of_le hk h.size)).trans (h.block k hk hn)⟩
theorem Dg.set {w a : World} {D : Nat} (h : Dg w a D) (j : Nat) (v : Value) : Dg w (a.setCell ⟨D, j, none⟩ v) D :=
  ⟨h.os, h.tape, h.output, by simpa using h.size, fun k hk hn => (Below.heap_setCell _ _ _ _ hn).trans (h.block k hk hn)⟩
theorem Dg.low {w a w0 : World} {D : Nat} (h : Dg w a D) (h0 : w0.heap.size ≤ D) (hb : Below w0.heap.size w0 w) : Below w0.heap.size w0 a :=
  ⟨h.os.trans hb.os, h.tape.trans hb.tape, h.output.trans hb.output, Nat.le_trans hb.size h.size, fun k hk => (h.block k (Nat.lt_of_lt_of_le hk hb.size) (by omega)).trans (hb.block k hk)⟩
theorem Dg.own {w a : World} {D B : Nat} {v : Value} {l : List UInt8} (h : Dg w a D) (ho : Own w B v l) (hB : D < B) : Own a B v l := by
  have hlt := ho.base
  unfold Own at ho ⊢
  refine ⟨ho.1, ?_⟩
  rcases ho.2 with hn | ⟨g, cap, cur, rfl, hb, hg, rest⟩
  · exact .inl hn
  · refine .inr ⟨g, cap, cur, rfl, hb, ?_, rest⟩
    rw [h.block g (Array.getElem?_eq_some_iff.1 hg).1 (by omega)]; exact hg
/-- What name answers. -/
def NamesIs (w' : World) (B D : Nat) (s : List UInt8) (E : List De) (rest : List Value) (e : Ending) : Prop :=
  ∃ r : Int, e = .returned (.int .i64 r) ∧
    (((nmV s E 14).2 ≠ 0 ∧ r = (nmV s E 14).2) ∨ ((nmV s E 14).2 = 0 ∧ (nmV s E 29).2 ≠ 0 ∧ r = (nmV s E 29).2) ∨
      ((nmV s E 14).2 = 0 ∧ (nmV s E 29).2 = 0 ∧ ∃ X, (if 16 < (needs E).length then .error 92 else needN s (needs E)) = X ∧
        match X with
        | .error k => r = (k : Nat)
        | .ok L => r = 0 ∧ ∃ v3, w'.heap[D]? = some (.cells (.string (txb (nmV s E 14).1) :: .string (txb (nmV s E 29).1) :: v3 :: rest).toArray 38 (0, 0)) ∧ OwnT w' B v3 L))
theorem set_at0 {w : World} {g : Nat} {x0 x1 x2 : Value} {rest : List Value} {T : TypeId} (h : w.heap[g]? = some (.cells (x0 :: x1 :: x2 :: rest).toArray T (0, 0))) (v : Value) : (w.setCell ⟨g, 0, none⟩ v).heap[g]? = some (.cells (v :: x1 :: x2 :: rest).toArray T (0, 0)) := by
  rw [heap_setCell_at w g 0 v _ T _ h]; simp
theorem set_at1 {w : World} {g : Nat} {x0 x1 x2 : Value} {rest : List Value} {T : TypeId} (h : w.heap[g]? = some (.cells (x0 :: x1 :: x2 :: rest).toArray T (0, 0))) (v : Value) : (w.setCell ⟨g, 1, none⟩ v).heap[g]? = some (.cells (x0 :: v :: x2 :: rest).toArray T (0, 0)) := by
  rw [heap_setCell_at w g 1 v _ T _ h]; simp
theorem set_at2 {w : World} {g : Nat} {x0 x1 x2 : Value} {rest : List Value} {T : TypeId} (h : w.heap[g]? = some (.cells (x0 :: x1 :: x2 :: rest).toArray T (0, 0))) (v : Value) : (w.setCell ⟨g, 2, none⟩ v).heap[g]? = some (.cells (x0 :: x1 :: v :: rest).toArray T (0, 0)) := by
  rw [heap_setCell_at w g 2 v _ T _ h]; simp
set_option maxHeartbeats 2000000 in
set_option maxRecDepth 20000 in
theorem dyn_name (w0 w : World) (D B M1 M2 : Nat) (a : Option Addr) (n c : Nat) (E : List De) (hT : TagsAt w0 M1 M2 (.slice a n c) E) (h0 : w0.heap.size ≤ D) (hb : Below w0.heap.size w0 w)
    (v : Value) (s : List UInt8) (hs : Own w B v s) (hsl : s.length ≤ 1000000000000) (hB : D < B) (x0 x1 x2 : Value) (rest : List Value) (hD : w.heap[D]? = some (.cells (x0 :: x1 :: x2 :: rest).toArray 38 (0, 0)))
    (hlv : ∀ t, (lvT E t : Int) ≤ 18446744073709551615) (hnd : ∀ p ∈ needs E, (p : Int) ≤ 18446744073709551615) :
    Calls Tryd.prog 28 #[.agg #[.map (some M1), .map (some M2), .slice a n c], v, .pointer (some ⟨D, 0, none⟩)] w fun e w' => NamesIs w' w.heap.size D s E rest e ∧ Dg w w' D := by
  have hDl : D < w.heap.size := (Array.getElem?_eq_some_iff.1 hD).1
  have HG0 := hide ((Dg.refl w D).below (Below.alloc (Below.refl _ w) (Nat.le_refl _) (.cells #[.map (some M1), .map (some M2), .slice a n c] 69)))
  have hZ : (w.alloc (.cells #[.map (some M1), .map (some M2), .slice a n c] 69)).heap[w.heap.size]? = some (.cells #[.map (some M1), .map (some M2), .slice a n c] 69 (0, 0)) := by rw [show (Obj.cells #[.map (some M1), .map (some M2), .slice a n c] 69 (0, 0)) = (.cells #[.map (some M1), .map (some M2), .slice a n c] 69) from rfl]; exact (MapKept.heap_alloc w _).1
  have HD0 : Hid ((w.alloc (.cells #[.map (some M1), .map (some M2), .slice a n c] 69)).heap[D]? = some (.cells (x0 :: x1 :: x2 :: rest).toArray 38 (0, 0))) := by
    rw [Hid, Below.heap_alloc _ _ _ hDl]; exact hD
  have HT := hide hT
  have HBw := hide hb
  have HS := hide hs
  have HLV := hide hlv
  have HND := hide hnd
  obtain ⟨va, vn, vc, rfl⟩ := hs.isSlice
  have z0 := cells_of_block hZ 0 _ rfl
  have z1 := cells_of_block hZ 1 _ rfl
  have z2 := cells_of_block hZ 2 _ rfl
  have HZ := hide hZ
  have hk1 := dyn_text _ M1 M2 a n c E (HT.out.below (HG0.out.low h0 HBw.out)) _ s ((HG0.out.own HS.out hB).arg hsl) 14 (by omega) (HLV.out 14)
  obtain ⟨n1, e1, hn1⟩ : ∃ n1 e1, nmV s E 14 = (n1, e1) := ⟨_, _, rfl⟩
  obtain ⟨n2, e2, hn2⟩ : ∃ n2 e2, nmV s E 29 = (n2, e2) := ⟨_, _, rfl⟩
  rw [hn1] at hk1
  have HN1 := hide hn1
  have HN2 := hide hn2
  clear hT hb hs hlv hnd hD hZ hn1 hn2
  go_enter Tryd.func28, Tryd.ntmps28
  go_wp2_with fail
  refine hk1.mono ?_
  rintro e w1 ⟨rfl, hb1⟩
  have hD1 := block_stay HD0.out hb1
  have HZ1 := hide (block_stay HZ.out hb1)
  have HG1 := hide (HG0.out.below hb1)
  have f0 := frozen_of_block hD1 0
  have d0 := cells_of_block hD1 0 x0 (by simp)
  have HD1 := hide hD1
  clear hk1 hb1 hD1 z0 z1 z2
  by_cases h1 : e1 = 0
  · subst h1
    have HD2 := hide (set_at0 HD1.out (.string (txb n1)))
    have HG2 := hide (HG1.out.set 0 (.string (txb n1)))
    have HZ2 : Hid ((w1.setCell ⟨D, 0, none⟩ (.string (txb n1))).heap[w.heap.size]? = some (.cells #[.map (some M1), .map (some M2), .slice a n c] 69 (0, 0))) := by
      rw [Hid, Below.heap_setCell _ _ _ _ (show w.heap.size ≠ D by omega)]; exact HZ1.out
    have z0 := cells_of_block HZ2.out 0 _ rfl
    have z1 := cells_of_block HZ2.out 1 _ rfl
    have z2 := cells_of_block HZ2.out 2 _ rfl
    have hk2 := dyn_text _ M1 M2 a n c E (HT.out.below (HG2.out.low h0 HBw.out)) _ s ((HG2.out.own HS.out hB).arg hsl) 29 (by omega) (HLV.out 29)
    rw [HN2.out] at hk2
    go_wp2_with fail
    refine hk2.mono ?_
    rintro e w3 ⟨rfl, hb3⟩
    have hD3 := block_stay HD2.out hb3
    have HZ3 := hide (block_stay HZ2.out hb3)
    have HG3 := hide (HG2.out.below hb3)
    have f1 := frozen_of_block hD3 1
    have d1 := cells_of_block hD3 1 x1 (by simp)
    have HD3 := hide hD3
    clear hk2 hb3 hD3 z0 z1 z2 f0 d0
    by_cases h2 : e2 = 0
    · subst h2
      have HD4 := hide (set_at1 HD3.out (.string (txb n2)))
      have HG4 := hide (HG3.out.set 1 (.string (txb n2)))
      have HZ4 : Hid ((w3.setCell ⟨D, 1, none⟩ (.string (txb n2))).heap[w.heap.size]? = some (.cells #[.map (some M1), .map (some M2), .slice a n c] 69 (0, 0))) := by
        rw [Hid, Below.heap_setCell _ _ _ _ (show w.heap.size ≠ D by omega)]; exact HZ3.out
      have z2 := cells_of_block HZ4.out 2 _ rfl
      have hk3 := dyn_neededOnes _ _ s ((HG4.out.own HS.out hB).arg hsl) _ (needs E) (HT.out.below (HG4.out.low h0 HBw.out)).row HND.out
      obtain ⟨X, hX⟩ : ∃ X, (if 16 < (needs E).length then Except.error 92 else needN s (needs E)) = X := ⟨_, rfl⟩
      rw [hX] at hk3
      have HX := hide hX
      clear hX
      go_wp2_with fail
      refine hk3.mono ?_
      rintro e w5 ⟨hE, hb5⟩
      have hD5 := block_stay HD4.out hb5
      have HG5 := hide (HG4.out.below hb5)
      have f2 := frozen_of_block hD5 2
      have d2 := cells_of_block hD5 2 x2 (by simp)
      have HD5 := hide hD5
      have hsz : w.heap.size ≤ (w3.setCell ⟨D, 1, none⟩ (.string (txb n2))).heap.size := HG4.out.size
      clear hk3 hb5 hD5 z2 f1 d1
      cases X with
      | error k =>
        have hE' : e = _ := hE
        subst hE'
        clear hE
        have HG6 := hide (HG5.out.set 2 (.slice none 0 0))
        go_wp2
        go_ret
        exact ⟨⟨_, rfl, .inr (.inr ⟨by rw [HN1.out], by rw [HN2.out], _, HX.out, rfl⟩)⟩, HG6.out⟩
      | ok L =>
        obtain ⟨xa, xn, xc, rfl, hO⟩ := hE
        have HG6 := hide (HG5.out.set 2 (.slice xa xn xc))
        have HD6 := hide (set_at2 HD5.out (.slice xa xn xc))
        have HO6 : Hid (OwnT (w5.setCell ⟨D, 2, none⟩ (.slice xa xn xc)) w.heap.size (.slice xa xn xc) L) := by
          unfold OwnT at hO
          rw [Hid]; unfold OwnT
          refine ⟨hO.1, ?_⟩
          rcases hO.2 with hn | ⟨g, cap, cur, e, hB', hg, rs⟩
          · exact .inl hn
          · refine .inr ⟨g, cap, cur, e, by omega, ?_, rs⟩
            rw [Below.heap_setCell _ _ _ _ (show g ≠ D by omega)]; exact hg
        clear hO
        go_wp2
        go_ret
        exact ⟨⟨_, rfl, .inr (.inr ⟨by rw [HN1.out], by rw [HN2.out], _, HX.out, rfl, _, by rw [HN1.out, HN2.out]; exact HD6.out, HO6.out⟩)⟩, HG6.out⟩
    · have hne : (e2 != 0) = true := by simp [h2]
      have HNE := hide h2
      have HG4 := hide (HG3.out.set 1 (.string (txb n2)))
      clear h2
      go_wp2
      go_ret
      exact ⟨⟨_, rfl, .inr (.inl ⟨by rw [HN1.out], by rw [HN2.out]; exact HNE.out, by rw [HN2.out]⟩)⟩, HG4.out⟩
  · have hne : (e1 != 0) = true := by simp [h1]
    have HNE := hide h1
    have HG2 := hide (HG1.out.set 0 (.string (txb n1)))
    clear h1
    go_wp2
    go_ret
    exact ⟨⟨_, rfl, .inl ⟨by rw [HN1.out]; exact HNE.out, by rw [HN1.out]⟩⟩, HG2.out⟩
end Go.Proofs.YtibfiikjelmhmaaDoor
namespace Go.Proofs.YtibfiikjelmhmaaDoor
open Go.RowKit Go.Sort
namespace RgV
/-- The worlds that come of W by what only lays memory behind. -/
abbrev cls (W : World) : World → Prop := fun w' => ∃ p : Regrown, w' = grow (redrawn W p.d) p.os
theorem cls_self (W : World) : cls W W := ⟨⟨W.drawn, #[]⟩, by rw [grow_empty]; rfl⟩
theorem cls_below {W w' : World} (h : cls W w') : Below W.heap.size W w' := by
  obtain ⟨⟨d, os⟩, rfl⟩ := h
  exact below_regrown _ _ _
section
variable {P : Program} {ops0 ops : Array Oper} {aF : Act} {w0 : World}
theorem put_other (b : Act) (x : Option Tmp) (v : Value) (d : Nat) (h : x ≠ some d) : (b.put x v).tmps[d]? = b.tmps[d]? := by
  cases x with
  | none => rfl
  | some e =>
    have hne : e ≠ d := fun h' => h (by rw [h'])
    simp [Act.put, Array.getElem?_setIfInBounds_ne hne]
theorem set_self (L : Array Bool) (i : Nat) : (L.setIfInBounds i true).getD i true = true := by
  by_cases h : i < L.size
  · simp [h]
  · simp [h]
theorem un_set {L : Array Bool} {i j : Nat} (h : (L.setIfInBounds i true).getD j true = false) : j ≠ i ∧ L.getD j true = false := by
  by_cases e : j = i
  · subst e; rw [set_self] at h; cases h
  · exact ⟨e, by rw [getD_set_ne true (Ne.symm e)] at h; exact h⟩
theorem slot_same {C : World → Prop} (d : Nat) : ∀ (fuel : Nat) (L : Array Bool) (b : Act), (∀ (j : Nat) (o : Oper), ops0[j]? = some o → L.getD j true = false → o.dst ≠ some d) →
    wpAnyQ P .any ops0 C (fun a => a = aF) fuel L b → b.tmps[d]? = aF.tmps[d]?
  | 0, L, b, _, h => by rw [h.2]
  | fuel + 1, L, b, hj, h => by
    by_cases hr : Region.ready .any ops0 L = []
    · rw [h.1 hr]
    · obtain ⟨i, hi⟩ := List.exists_mem_of_ne_nil _ hr
      obtain ⟨hun, o, ho, _⟩ := mem_ready.1 hi
      obtain ⟨v, _, hk⟩ := yieldsIn_of_qOp ho (h.2 i hi)
      have := slot_same d fuel (L.setIfInBounds i true) (b.put o.dst v) (fun j o' ho' hl => hj j o' ho' (un_set hl).2) hk
      rw [← this, put_other b o.dst v d (hj i o ho hun)]
/-- From here on the walk goes through over whatever world, and comes to one frame. -/
def HW (P : Program) (ops0 : Array Oper) (aF : Act) (w0 : World) (fuel : Nat) (L : Array Bool) (a : Act) : Prop :=
  ∀ W, Below w0.heap.size w0 W → wpAnyQ P .any ops0 (cls W) (fun a' => a' = aF) fuel L a
theorem HW.step (hd : ∀ (i j : Nat) (oi oj : Oper) (d : Tmp), ops0[i]? = some oi → ops0[j]? = some oj → i ≠ j → oi.dst = some d → oj.dst ≠ some d) {fuel : Nat} {L : Array Bool} {a : Act} {i : Nat} {o : Oper}
    (h : HW P ops0 aF w0 (fuel + 1) L a) (hi : i ∈ Region.ready .any ops0 L) (ho : ops0[i]? = some o) (W : World) (hW : Below w0.heap.size w0 W) :
    ∃ v, YieldsIn P ops0 (cls W) o v a ∧ HW P ops0 aF w0 fuel (L.setIfInBounds i true) (a.put o.dst v) := by
  obtain ⟨v, hy, hk⟩ := yieldsIn_of_qOp ho ((h W hW).2 i hi)
  refine ⟨v, hy, fun W' hW' => ?_⟩
  obtain ⟨v', hy', hk'⟩ := yieldsIn_of_qOp ho ((h W' hW').2 i hi)
  have e : a.put o.dst v' = a.put o.dst v := by
    cases hdst : o.dst with
    | none => rfl
    | some d =>
      have cond : ∀ (j : Nat) (o' : Oper), ops0[j]? = some o' → (L.setIfInBounds i true).getD j true = false → o'.dst ≠ some d := fun j o' ho' hl => hd i j o o' d ho ho' (Ne.symm (un_set hl).1) hdst
      have s1 := slot_same d fuel _ _ cond hk
      have s2 := slot_same d fuel _ _ cond hk'
      rw [hdst] at s1 s2
      by_cases hsz : d < a.tmps.size
      · simp [Act.put, hsz] at s1 s2
        have : some v' = some v := s2.trans s1.symm
        injection this with this
        rw [this]
      · simp only [Act.put]
        rw [Array.setIfInBounds_eq_of_size_le (Nat.le_of_not_lt hsz), Array.setIfInBounds_eq_of_size_le (Nat.le_of_not_lt hsz)]
  rw [← e]; exact hk'
theorem HW.done {fuel : Nat} {L : Array Bool} {a : Act} (h : HW P ops0 aF w0 fuel L a) (hr : Region.ready .any ops0 L = []) : a = aF := by
  have := h w0 (Below.refl _ _)
  cases fuel with
  | zero => exact this.2
  | succ f => exact this.1 hr
/-! ### What may come up -/
structure Rel (n : Nat) (M L : Array Bool) (b c : Bool) : Prop where
  size : M.size = n + 2
  lsize : L.size = n
  same : ∀ j, j < n → M[j]? = L[j]?
  al : M[n]? = some b
  st : M[n + 1]? = some c
theorem Rel.getD {n : Nat} {M L : Array Bool} {b c : Bool} (h : Rel n M L b c) (d : Bool) {j : Nat} (hj : j < n) : M.getD j d = L.getD j d := by
  simp only [Array.getD_eq_getD_getElem?]; rw [h.same j hj]
theorem Rel.set {n : Nat} {M L : Array Bool} {b c : Bool} (h : Rel n M L b c) {i : Nat} (hi : i < n) : Rel n (M.setIfInBounds i true) (L.setIfInBounds i true) b c := by
  refine ⟨by simp [h.size], by simp [h.lsize], fun j hj => ?_, ?_, ?_⟩
  · by_cases e : i = j
    · subst e
      rw [Array.getElem?_setIfInBounds_self_of_lt (by rw [h.size]; omega), Array.getElem?_setIfInBounds_self_of_lt (by rw [h.lsize]; omega)]
    · rw [Array.getElem?_setIfInBounds_ne e, Array.getElem?_setIfInBounds_ne e, h.same j hj]
  · rw [Array.getElem?_setIfInBounds_ne (by omega), h.al]
  · rw [Array.getElem?_setIfInBounds_ne (by omega), h.st]
theorem Rel.setA {n : Nat} {M L : Array Bool} {b c : Bool} (h : Rel n M L b c) : Rel n (M.setIfInBounds n true) L true c := by
  refine ⟨by simp [h.size], h.lsize, fun j hj => ?_, ?_, ?_⟩
  · rw [Array.getElem?_setIfInBounds_ne (by omega), h.same j hj]
  · rw [Array.getElem?_setIfInBounds_self_of_lt (by rw [h.size]; omega)]
  · rw [Array.getElem?_setIfInBounds_ne (by omega), h.st]
/-- What the region must be like. -/
structure Fit (n : Nat) (ops0 ops : Array Oper) (oa os : Oper) : Prop where
  size0 : ops0.size = n
  size : ops.size = n + 2
  same : ∀ j, j < n → ops[j]? = ops0[j]?
  al : ops[n]? = some oa
  st : ops[n + 1]? = some os
  dsts : ∀ (i j : Nat) (oi oj : Oper) (d : Tmp), ops0[i]? = some oi → ops0[j]? = some oj → i ≠ j → oi.dst = some d → oj.dst ≠ some d
  topo : ∀ (i : Nat) (o : Oper), ops0[i]? = some o → ∀ e ∈ o.after, Region.binds .any e = true → e.on < i
  gd : ∀ (i : Nat) (o : Oper), ops0[i]? = some o → ∀ j b, o.guard = some (j, b) → j < n
  apart : ∀ (i : Nat) (o : Oper), ops0[i]? = some o → oa.apart ops o = true
  nosel : ∀ (i : Nat) (o : Oper) (cs : Array SelectCase) (b : Bool), ops0[i]? = some o → o.op ≠ .select cs b
  ga : oa.guard = none
  gs : os.guard = none
  aa : ∀ e ∈ oa.after, Region.binds .any e = true → False
  sa : ∃ e ∈ os.after, Region.binds .any e = true ∧ e.on = n
  sn : ∀ e ∈ os.after, Region.binds .any e = true → e.on ≤ n
  cov : ∀ j, j < n → (∃ e ∈ os.after, Region.binds .any e = true ∧ e.on = j) ∨ (∃ (i : Nat) (o : Oper), j < i ∧ ops0[i]? = some o ∧ ∃ e ∈ o.after, Region.binds .any e = true ∧ e.on = j)
variable {n : Nat} {oa os : Oper}
theorem Fit.lt (F : Fit n ops0 ops oa os) {i : Nat} {o : Oper} (h : ops0[i]? = some o) : i < n := by
  have := (Array.getElem?_eq_some_iff.1 h).1
  rw [F.size0] at this; exact this
theorem ready_down (F : Fit n ops0 ops oa os) {M L : Array Bool} {b c : Bool} (R : Rel n M L b c) {i : Nat} (hi : i < n) (h : i ∈ Region.ready .any ops M) : i ∈ Region.ready .any ops0 L := by
  obtain ⟨h1, o, h2, h3⟩ := mem_ready.1 h
  rw [F.same i hi] at h2
  refine mem_ready.2 ⟨by rw [← R.getD true hi]; exact h1, o, h2, fun e he hb => ?_⟩
  have := F.topo i o h2 e he hb
  rw [← R.getD false (by omega)]; exact h3 e he hb
theorem ready_up (F : Fit n ops0 ops oa os) {M L : Array Bool} {b c : Bool} (R : Rel n M L b c) {i : Nat} (h : i ∈ Region.ready .any ops0 L) : i ∈ Region.ready .any ops M := by
  obtain ⟨h1, o, h2, h3⟩ := mem_ready.1 h
  have hi := F.lt h2
  refine mem_ready.2 ⟨by rw [R.getD true hi]; exact h1, o, by rw [F.same i hi]; exact h2, fun e he hb => ?_⟩
  have := F.topo i o h2 e he hb
  rw [R.getD false (by omega)]; exact h3 e he hb
def Closed (ops0 : Array Oper) (L : Array Bool) : Prop := ∀ (i : Nat) (o : Oper), ops0[i]? = some o → L.getD i false = true → ∀ e ∈ o.after, Region.binds .any e = true → L.getD e.on false = true
theorem Closed.set {L : Array Bool} (h : Closed ops0 L) {i : Nat} (hi : i ∈ Region.ready .any ops0 L) : Closed ops0 (L.setIfInBounds i true) := by
  intro j o ho hl e he hb
  by_cases e1 : j = i
  · subst e1
    obtain ⟨_, o', h2, h3⟩ := mem_ready.1 hi
    rw [ho] at h2
    injection h2 with h2
    subst h2
    exact getD_set_true (h3 e he hb)
  · rw [getD_set_ne false (Ne.symm e1)] at hl
    exact getD_set_true (h j o ho hl e he hb)
theorem all_listed (F : Fit n ops0 ops oa os) {M L : Array Bool} {b c : Bool} (R : Rel n M L b c) (hc : Closed ops0 L) (h : n + 1 ∈ Region.ready .any ops M) : ∀ j, j < n → L.getD j false = true := by
  obtain ⟨_, o, h2, h3⟩ := mem_ready.1 h
  rw [F.st] at h2
  injection h2 with h2
  subst h2
  have key : ∀ k j, n - j ≤ k → j < n → L.getD j false = true := by
    intro k
    induction k with
    | zero => intro j h1 h2; omega
    | succ k ih =>
      intro j h1 h2
      rcases F.cov j h2 with ⟨e, he, hb, rfl⟩ | ⟨i, o, hji, ho, e, he, hb, rfl⟩
      · rw [← R.getD false h2]; exact h3 e he hb
      · have hin := F.lt ho
        exact hc i o ho (ih i (by omega) hin) e he hb
  exact fun j hj => key (n - j) j (Nat.le_refl _) hj
theorem none_ready (F : Fit n ops0 ops oa os) {L : Array Bool} (h : ∀ j, j < n → L.getD j false = true) : Region.ready .any ops0 L = [] := by
  rcases hr : Region.ready .any ops0 L with _ | ⟨i, t⟩
  · rfl
  · exfalso
    have hi : i ∈ Region.ready .any ops0 L := by rw [hr]; simp
    obtain ⟨h1, o, h2, _⟩ := mem_ready.1 hi
    have := h i (F.lt h2)
    simp only [Array.getD_eq_getD_getElem?] at h1 this
    cases hx : L[i]? with
    | none => rw [hx] at this; cases this
    | some b => rw [hx] at this h1; simp at this h1; rw [this] at h1; cases h1
theorem listed_of_none (F : Fit n ops0 ops oa os) {L : Array Bool} (hs : L.size = n) (h : Region.ready .any ops0 L = []) : ∀ j, j < n → L.getD j false = true := by
  have key : ∀ k j, j < k → j < n → L.getD j false = true := by
    intro k
    induction k with
    | zero => intro j h1 _; omega
    | succ k ih =>
      intro j h1 h2
      obtain ⟨o, ho⟩ : ∃ o, ops0[j]? = some o := ⟨ops0[j]'(by rw [F.size0]; exact h2), Array.getElem?_eq_getElem (by rw [F.size0]; exact h2)⟩
      cases hx : L.getD j false with
      | true => rfl
      | false =>
        exfalso
        have hm : j ∈ Region.ready .any ops0 L := by
          refine mem_ready.2 ⟨?_, o, ho, fun e he hb => ?_⟩
          · simp only [Array.getD_eq_getD_getElem?] at hx ⊢
            have hl : L[j]? = some (L[j]'(by omega)) := Array.getElem?_eq_getElem (by omega)
            rw [hl] at hx ⊢
            simpa using hx
          · have := F.topo j o ho e he hb
            exact ih e.on (by omega) (by omega)
        rw [h] at hm; cases hm
  exact fun j hj => key (j + 1) j (by omega) hj
theorem ready_end (F : Fit n ops0 ops oa os) {M L : Array Bool} (R : Rel n M L true false) (h : ∀ j, j < n → L.getD j false = true) : Region.ready .any ops (M.setIfInBounds (n + 1) true) = [] := by
  rcases hr : Region.ready .any ops (M.setIfInBounds (n + 1) true) with _ | ⟨i, t⟩
  · rfl
  · exfalso
    have hi : i ∈ Region.ready .any ops (M.setIfInBounds (n + 1) true) := by rw [hr]; simp
    obtain ⟨h1, o, h2, _⟩ := mem_ready.1 hi
    obtain ⟨h3, h4⟩ := un_set h1
    have hlt := (Array.getElem?_eq_some_iff.1 h2).1
    rw [F.size] at hlt
    by_cases e : i < n
    · have := h i e
      rw [R.getD true e] at h4
      simp only [Array.getD_eq_getD_getElem?] at h4 this
      cases hx : L[i]? with
      | none => rw [hx] at this; cases this
      | some b => rw [hx] at this h4; simp at this h4; rw [this] at h4; cases h4
    · have e2 : i = n := by omega
      subst e2
      simp only [Array.getD_eq_getD_getElem?, R.al] at h4
      cases h4
theorem wanted_ops (F : Fit n ops0 ops oa os) {i : Nat} {o : Oper} (ho : ops0[i]? = some o) (t : Array Value) : Region.wanted o (yielded ops t) = Region.wanted o (yielded ops0 t) := by
  unfold Region.wanted
  cases hg : o.guard with
  | none => rfl
  | some jb =>
    obtain ⟨j, b⟩ := jb
    have := F.same j (F.gd i o ho j b hg)
    simp only [yielded, this]
def ptr (p : Nat) : Value := .pointer (some ⟨p, 0, none⟩)
theorem wp_quiet {Q : Exit → Act → World → Prop} {o : Oper} {v : Value} {a b : Act} {w : World} {K : Act → World → Prop} (he : execOp b.eval o = execOp a.eval o) (hq : ∀ w', cls w w' → o.quietAt P a (cls w) w' v) (hK : ∀ w', cls w w' → K (b.put o.dst v) w') : o.wp P b w K Q := by
  have h := hq w (cls_self w)
  unfold Oper.quietAt at h
  unfold Oper.wp
  rw [he]
  generalize (execOp a.eval o).run P w = r at *
  cases r with
  | ok nx w' =>
    cases nx <;> simp only [Oper.quietUpon] at h <;> simp only [Oper.upon]
    case value u =>
      obtain ⟨e1, e2⟩ := h
      rw [e1, e2]
      exact hK _ (cls_self w)
    case skip =>
      obtain ⟨e1, e2⟩ := h
      rw [e1, ← e2]
      exact hK _ (cls_self w)
    case enter f args =>
      obtain ⟨e1, hc⟩ := h
      rw [e1]
      exact hc.mono fun e w'' ⟨he, hw''⟩ => by subst he; exact hK _ hw''
  | halt x w' => simp only [Oper.quietUpon] at h
theorem any_end {Q : Exit → Act → World → Prop} {M : Array Bool} (hr : Region.ready .any ops M = []) (fuel : Nat) (a : Act) (w : World) (h : Q .normal a w) : wpAny P .any ops Q fuel M a w := by
  cases fuel with
  | zero => exact ⟨hr, h⟩
  | succ f => exact ⟨fun _ => h, fun i hi => by rw [hr] at hi; cases hi⟩
theorem phaseB {Q : Exit → Act → World → Prop} {z : Obj} (F : Fit n ops0 ops oa os)
    (hS : ∀ w p, Below w0.heap.size w0 w → w0.heap.size ≤ p → w.heap[p]? = some z → os.wp P (aF.put oa.dst (ptr p)) w (fun a' w' => Q .normal a' w') Q) :
    ∀ (fuel : Nat) (M L : Array Bool) (a : Act) (w : World) (p : Nat), HW P ops0 aF w0 fuel L a → Rel n M L true false → Closed ops0 L → Below w0.heap.size w0 w → w0.heap.size ≤ p → w.heap[p]? = some z →
      wpAny P .any ops Q (fuel + 1) M (a.put oa.dst (ptr p)) w := by
  intro fuel
  induction fuel with
  | zero =>
    intro M L a w p H R hc hb hp hz
    have h0 : Region.ready .any ops0 L = [] := (H w0 (Below.refl _ _)).1
    have hall := listed_of_none F R.lsize h0
    have hst : n + 1 ∈ Region.ready .any ops M := mem_ready.2 ⟨by simp only [Array.getD_eq_getD_getElem?, R.st]; rfl, os, F.st, fun e he hbb => by
      have := F.sn e he hbb
      by_cases e1 : e.on = n
      · rw [e1]; simp only [Array.getD_eq_getD_getElem?, R.al]; rfl
      · rw [R.getD false (by omega)]; exact hall _ (by omega)⟩
    obtain rfl := H.done h0
    refine ⟨fun hr => (by rw [hr] at hst; cases hst), fun i hi => ?_⟩
    obtain ⟨h1, o, h2, h3⟩ := mem_ready.1 hi
    have hlt := (Array.getElem?_eq_some_iff.1 h2).1
    rw [F.size] at hlt
    by_cases e : i < n
    · have := ready_down F R e hi; rw [h0] at this; cases this
    by_cases e2 : i = n
    · subst e2; simp only [Array.getD_eq_getD_getElem?, R.al] at h1; cases h1
    obtain rfl : i = n + 1 := by omega
    unfold wpOp
    simp only [F.st]
    rw [if_pos (by simp [Region.wanted, F.gs])]
    exact .inl (Oper.wp_mono (fun a' w' h => any_end (ready_end F R hall) _ _ _ h) (hS w p hb hp hz))
  | succ fuel ih =>
    intro M L a w p H R hc hb hp hz
    refine ⟨fun hr => ?_, fun i hi => ?_⟩
    · exfalso
      have h0 : Region.ready .any ops0 L = [] := by
        rcases hx : Region.ready .any ops0 L with _ | ⟨i, t⟩
        · rfl
        · have : i ∈ Region.ready .any ops M := ready_up F R (by rw [hx]; simp)
          rw [hr] at this; cases this
      have hall := listed_of_none F R.lsize h0
      have hst : n + 1 ∈ Region.ready .any ops M := mem_ready.2 ⟨by simp only [Array.getD_eq_getD_getElem?, R.st]; rfl, os, F.st, fun e he hbb => by
        have := F.sn e he hbb
        by_cases e1 : e.on = n
        · rw [e1]; simp only [Array.getD_eq_getD_getElem?, R.al]; rfl
        · rw [R.getD false (by omega)]; exact hall _ (by omega)⟩
      rw [hr] at hst; cases hst
    · obtain ⟨h1, o, h2, h3⟩ := mem_ready.1 hi
      have hlt := (Array.getElem?_eq_some_iff.1 h2).1
      rw [F.size] at hlt
      by_cases e : i < n
      · have hi0 := ready_down F R e hi
        have ho : ops0[i]? = some o := by rw [← F.same i e]; exact h2
        obtain ⟨v, hy, hk⟩ := H.step F.dsts hi0 ho w hb
        obtain ⟨g1, g2, g3⟩ := Oper.apart_spec (F.apart i o ho)
        unfold wpOp
        simp only [h2]
        rw [wanted_put o a oa.dst (ptr p) g1, wanted_ops F ho]
        have hput : ∀ u, (a.put oa.dst (ptr p)).put o.dst u = (a.put o.dst u).put oa.dst (ptr p) := fun u => Act.put_comm a _ _ g2
        rcases hy with ⟨hw, hq⟩ | ⟨hw, rfl⟩
        · rw [if_pos hw]
          refine .inl (wp_quiet (execOp_put (ops := ops) o (fun cs b => F.nosel i o cs b ho) a oa.dst (ptr p) g1) hq fun w' hw' => ?_)
          rw [hput]
          have hb' := cls_below hw'
          have hpl : p < w.heap.size := (Array.getElem?_eq_some_iff.1 hz).1
          exact ih _ _ _ w' p hk (R.set e) (hc.set hi0) (hb.trans (hb'.mono hb.size)) hp (by rw [hb'.block p hpl]; exact hz)
        · rw [if_neg (by rw [hw]; simp), hput]
          exact ih _ _ _ w p hk (R.set e) (hc.set hi0) hb hp hz
      by_cases e2 : i = n
      · subst e2; simp only [Array.getD_eq_getD_getElem?, R.al] at h1; cases h1
      obtain rfl : i = n + 1 := by omega
      have hall := all_listed F R hc hi
      have h0 := none_ready F hall
      obtain rfl := H.done h0
      unfold wpOp
      simp only [F.st]
      rw [if_pos (by simp [Region.wanted, F.gs])]
      exact .inl (Oper.wp_mono (fun a' w' h => any_end (ready_end F R hall) _ _ _ h) (hS w p hb hp hz))
theorem phaseA {Q : Exit → Act → World → Prop} {z : Obj} (F : Fit n ops0 ops oa os)
    (hA : ∀ (a : Act) (w : World) (K : Act → World → Prop), K (a.put oa.dst (ptr w.heap.size)) (w.alloc z) → oa.wp P a w K Q)
    (hS : ∀ w p, Below w0.heap.size w0 w → w0.heap.size ≤ p → w.heap[p]? = some z → os.wp P (aF.put oa.dst (ptr p)) w (fun a' w' => Q .normal a' w') Q) :
    ∀ (fuel : Nat) (M L : Array Bool) (a : Act) (w : World), HW P ops0 aF w0 fuel L a → Rel n M L false false → Closed ops0 L → Below w0.heap.size w0 w →
      wpAny P .any ops Q (fuel + 2) M a w := by
  intro fuel
  induction fuel with
  | zero =>
    intro M L a w H R hc hb
    have hal : n ∈ Region.ready .any ops M := mem_ready.2 ⟨by simp only [Array.getD_eq_getD_getElem?, R.al]; rfl, oa, F.al, fun e he hbb => (F.aa e he hbb).elim⟩
    refine ⟨fun hr => (by rw [hr] at hal; cases hal), fun i hi => ?_⟩
    obtain ⟨h1, o, h2, h3⟩ := mem_ready.1 hi
    have hlt := (Array.getElem?_eq_some_iff.1 h2).1
    rw [F.size] at hlt
    by_cases e : i < n
    · have := ready_down F R e hi; rw [(H w0 (Below.refl _ _)).1] at this; cases this
    by_cases e2 : i = n
    · subst e2
      unfold wpOp
      simp only [F.al]
      rw [if_pos (by simp [Region.wanted, F.ga])]
      refine .inl (hA a w _ ?_)
      exact phaseB F hS 0 _ L a _ w.heap.size H R.setA hc (hb.alloc hb.size z) hb.size (by show (w.heap.push z)[w.heap.size]? = _; simp)
    · exfalso
      obtain rfl : i = n + 1 := by omega
      rw [F.st] at h2
      injection h2 with h2
      subst h2
      obtain ⟨e3, he, hbb, heq⟩ := F.sa
      have := h3 e3 he hbb
      rw [heq] at this
      simp only [Array.getD_eq_getD_getElem?, R.al] at this
      cases this
  | succ fuel ih =>
    intro M L a w H R hc hb
    have hal : n ∈ Region.ready .any ops M := mem_ready.2 ⟨by simp only [Array.getD_eq_getD_getElem?, R.al]; rfl, oa, F.al, fun e he hbb => (F.aa e he hbb).elim⟩
    refine ⟨fun hr => (by rw [hr] at hal; cases hal), fun i hi => ?_⟩
    obtain ⟨h1, o, h2, h3⟩ := mem_ready.1 hi
    have hlt := (Array.getElem?_eq_some_iff.1 h2).1
    rw [F.size] at hlt
    by_cases e : i < n
    · have hi0 := ready_down F R e hi
      have ho : ops0[i]? = some o := by rw [← F.same i e]; exact h2
      obtain ⟨v, hy, hk⟩ := H.step F.dsts hi0 ho w hb
      unfold wpOp
      simp only [h2]
      rw [wanted_ops F ho]
      rcases hy with ⟨hw, hq⟩ | ⟨hw, rfl⟩
      · rw [if_pos hw]
        refine .inl (wp_quiet rfl hq fun w' hw' => ?_)
        have hb' := cls_below hw'
        exact ih _ _ _ w' hk (R.set e) (hc.set hi0) (hb.trans (hb'.mono hb.size))
      · rw [if_neg (by rw [hw]; simp)]
        exact ih _ _ _ w hk (R.set e) (hc.set hi0) hb
    by_cases e2 : i = n
    · subst e2
      unfold wpOp
      simp only [F.al]
      rw [if_pos (by simp [Region.wanted, F.ga])]
      refine .inl (hA a w _ ?_)
      exact phaseB F hS (fuel + 1) _ L a _ w.heap.size H R.setA hc (hb.alloc hb.size z) hb.size (by show (w.heap.push z)[w.heap.size]? = _; simp)
    · exfalso
      obtain rfl : i = n + 1 := by omega
      rw [F.st] at h2
      injection h2 with h2
      subst h2
      obtain ⟨e3, he, hbb, heq⟩ := F.sa
      have := h3 e3 he hbb
      rw [heq] at this
      simp only [Array.getD_eq_getD_getElem?, R.al] at this
      cases this
end
/-! ### The Bool -/
def afB (o : Oper) (f : Nat → Bool) : Bool := o.after.all fun e => !Region.binds .any e || f e.on
def onB (o : Oper) (j : Nat) : Bool := o.after.any fun e => Region.binds .any e && e.on == j
def varB (l0 : List Oper) (oa os : Oper) : Bool :=
  let n := l0.length
  let ops := (l0 ++ [oa, os]).toArray
  ((List.range n).all fun i => (List.range n).all fun j => match l0[i]?, l0[j]? with
    | some oi, some oj => i == j || (match oi.dst with | some d => oj.dst != some d | none => true)
    | _, _ => true) &&
  ((List.range n).all fun i => match l0[i]? with
    | some o => afB o (fun k => decide (k < i)) && (match o.guard with | some (j, _) => decide (j < n) | none => true) && oa.apart ops o
    | none => true) &&
  (oa.guard.isNone && os.guard.isNone && afB oa (fun _ => false) && onB os n && afB os (fun k => decide (k ≤ n))) &&
  ((List.range n).all fun j => onB os j || (List.range n).any fun i => decide (j < i) && (match l0[i]? with | some o => onB o j | none => false))
theorem afB_spec {o : Oper} {f : Nat → Bool} (h : afB o f = true) : ∀ e ∈ o.after, Region.binds .any e = true → f e.on = true := by
  intro e he hb
  have := Array.all_eq_true_iff_forall_mem.1 h e he
  rw [hb] at this
  simpa using this
theorem onB_spec {o : Oper} {j : Nat} (h : onB o j = true) : ∃ e ∈ o.after, Region.binds .any e = true ∧ e.on = j := by
  unfold onB at h
  rw [Array.any_eq_true'] at h
  obtain ⟨e, he, h⟩ := h
  simp at h
  exact ⟨e, he, h.1, h.2⟩
theorem fit_of {l0 : List Oper} {oa os : Oper} (hs : Region.noSelect l0.toArray = true) (h : varB l0 oa os = true) : Fit l0.length l0.toArray (l0 ++ [oa, os]).toArray oa os := by
  simp only [varB, Bool.and_eq_true, List.all_eq_true, List.mem_range] at h
  obtain ⟨⟨⟨h1, h2⟩, ⟨⟨⟨⟨h3, h4⟩, h5⟩, h6⟩, h7⟩⟩, h8⟩ := h
  have lt : ∀ {i : Nat} {o : Oper}, l0.toArray[i]? = some o → i < l0.length ∧ l0[i]? = some o := fun {i o} hi => by
    rw [List.getElem?_toArray] at hi
    exact ⟨(List.getElem?_eq_some_iff.1 hi).1, hi⟩
  refine ⟨by simp, by simp, fun j hj => ?_, ?_, ?_, ?_, ?_, ?_, ?_, fun i o cs b ho => Region.noSelect_spec hs i o cs b ho, by simpa using h3, by simpa using h4, fun e he hb => (by have := afB_spec h5 e he hb; cases this), onB_spec h6, fun e he hb => (by have := afB_spec h7 e he hb; simpa using this), ?_⟩
  · rw [List.getElem?_toArray, List.getElem?_toArray, List.getElem?_append_left hj]
  · rw [List.getElem?_toArray, List.getElem?_append_right (Nat.le_refl _)]; simp
  · rw [List.getElem?_toArray, List.getElem?_append_right (by omega)]; simp
  · intro i j oi oj d hi hj hne hd
    obtain ⟨a1, a2⟩ := lt hi
    obtain ⟨b1, b2⟩ := lt hj
    have := h1 i a1 j b1
    rw [a2, b2] at this
    simp only [hd, Bool.or_eq_true] at this
    rcases this with e | e
    · exact absurd (by simpa using e) hne
    · simpa using e
  · intro i o ho e he hb
    obtain ⟨a1, a2⟩ := lt ho
    have := h2 i a1
    rw [a2] at this
    simp only [Bool.and_eq_true] at this
    have := afB_spec this.1.1 e he hb
    simpa using this
  · intro i o ho j b hg
    obtain ⟨a1, a2⟩ := lt ho
    have := h2 i a1
    rw [a2] at this
    simp only [Bool.and_eq_true, hg] at this
    simpa using this.1.2
  · intro i o ho
    obtain ⟨a1, a2⟩ := lt ho
    have := h2 i a1
    rw [a2] at this
    simp only [Bool.and_eq_true] at this
    exact this.2
  · intro j hj
    have := h8 j hj
    simp only [Bool.or_eq_true, List.any_eq_true, List.mem_range, Bool.and_eq_true] at this
    rcases this with e | ⟨i, hi, hji, e⟩
    · exact .inl (onB_spec e)
    · refine .inr ⟨i, l0[i], by simpa using hji, by rw [List.getElem?_toArray, List.getElem?_eq_getElem hi], ?_⟩
      rw [List.getElem?_eq_getElem hi] at e
      exact onB_spec e
/-- A region that ends with a variable that is made and stored. -/
theorem wp_region_var {P : Program} {Q : Exit → Act → World → Prop} {id : Nat} {l0 : List Oper} {oa os : Oper} {a : Act} {w : World} (aF : Act) (z : Obj) (hm : P.follows .mixedOrders = true) (hB : Region.lexB .any l0.toArray = true) (hV : varB l0 oa os = true)
    (H : ∀ W, Below w.heap.size w W → wpQuiet P l0.toArray (fun w' => ∃ p : Regrown, w' = grow (redrawn W p.d) p.os) (fun a' => a' = aF) l0 a)
    (hA : ∀ (a : Act) (w : World) (K : Act → World → Prop), K (a.put oa.dst (ptr w.heap.size)) (w.alloc z) → oa.wp P a w K Q)
    (hS : ∀ w1 p, Below w.heap.size w w1 → w.heap.size ≤ p → w1.heap[p]? = some z → os.wp P (aF.put oa.dst (ptr p)) w1 (fun a' w' => Q .normal a' w') Q) :
    (Code.region id (l0 ++ [oa, os]).toArray true).wp P Q a w := by
  simp only [Region.lexB, Bool.and_eq_true] at hB
  have F := fit_of hB.1 hV
  refine wp_region_any hm ?_
  have e : (l0 ++ [oa, os]).toArray.size = l0.length + 2 := by simp
  rw [e]
  refine phaseA F hA hS l0.length (Array.replicate (l0.length + 2) false) (Array.replicate l0.length false) a _ (fun W hW => ?_) ⟨by simp, by simp, fun j hj => ?_, ?_, ?_⟩ ?_ (Below.refl _ _).drew
  · have := wpAnyQ_lex (C := cls W) (md := .any) hB.1 l0 0 (Array.replicate l0.toArray.size false) a (by simp) (by simpa using hB.2) (H W hW)
    simpa using this
  · rw [Array.getElem?_replicate, Array.getElem?_replicate, if_pos (by omega), if_pos hj]
  · rw [Array.getElem?_replicate, if_pos (by omega)]
  · rw [Array.getElem?_replicate, if_pos (by omega)]
  · intro i o ho hl
    simp only [Array.getD_eq_getD_getElem?, Array.getElem?_replicate] at hl
    split at hl <;> cases hl
/-- The same for a region that is written out: its first n operations, and the two behind them. -/
theorem wp_region_var_at {P : Program} {Q : Exit → Act → World → Prop} {id : Nat} {l : List Oper} {a : Act} {w : World} (n : Nat) (oa os : Oper) (hl : l.drop n = [oa, os]) (aF : Act) (z : Obj) (hm : P.follows .mixedOrders = true) (hB : Region.lexB .any (l.take n).toArray = true) (hV : varB (l.take n) oa os = true)
    (H : ∀ W, Below w.heap.size w W → wpQuiet P (l.take n).toArray (fun w' => ∃ p : Regrown, w' = grow (redrawn W p.d) p.os) (fun a' => a' = aF) (l.take n) a)
    (hA : ∀ (a : Act) (w : World) (K : Act → World → Prop), K (a.put oa.dst (.pointer (some ⟨w.heap.size, 0, none⟩))) (w.alloc z) → oa.wp P a w K Q)
    (hS : ∀ w1 p, Below w.heap.size w w1 → w.heap.size ≤ p → w1.heap[p]? = some z → os.wp P (aF.put oa.dst (.pointer (some ⟨p, 0, none⟩))) w1 (fun a' w' => Q .normal a' w') Q) :
    (Code.region id l.toArray true).wp P Q a w := by
  have e : l = l.take n ++ [oa, os] := by rw [← hl, List.take_append_drop]
  have k := wp_region_var (id := id) aF z hm hB hV H hA hS
  rw [← e] at k
  exact k
end RgV
end Go.Proofs.YtibfiikjelmhmaaDoor
namespace Go.Proofs.YtibfiikjelmhmaaDoor
open Go.RowKit Go.PlainAid Go.Sort
theorem built_dy (b3 b4 b5 b20 h6 h15 h16 h17 h18 h19 h22 h23 : Bool) (n7 n8 n9 n10 n11 n12 n13 n14 x6 y6 x15 y15 x16 y16 x17 y17 x18 y18 x19 y19 x22 y22 x23 y23 : Int) : Tryd.prog.built 38 [(3, .bool b3), (4, .bool b4), (5, .bool b5), (6, .agg #[.bool h6, .int .u64 x6, .int .u64 y6]), (7, .int .u64 n7), (8, .int .u64 n8), (9, .int .u64 n9), (10, .int .u64 n10), (11, .int .u64 n11), (13, .int .u64 n13), (12, .int .u64 n12), (14, .int .u64 n14), (15, .agg #[.bool h15, .int .u64 x15, .int .u64 y15]), (16, .agg #[.bool h16, .int .u64 x16, .int .u64 y16]), (17, .agg #[.bool h17, .int .u64 x17, .int .u64 y17]), (20, .bool b20), (18, .agg #[.bool h18, .int .u64 x18, .int .u64 y18]), (19, .agg #[.bool h19, .int .u64 x19, .int .u64 y19]), (22, .agg #[.bool h22, .int .u64 x22, .int .u64 y22]), (23, .agg #[.bool h23, .int .u64 x23, .int .u64 y23])] = some #[.string ⟨#[]⟩, .string ⟨#[]⟩, .slice none 0 0, .bool b3, .bool b4, .bool b5, .bool h6, .int .u64 x6, .int .u64 y6, .int .u64 n7, .int .u64 n8, .int .u64 n9, .int .u64 n10, .int .u64 n11, .int .u64 n12, .int .u64 n13, .int .u64 n14, .bool h15, .int .u64 x15, .int .u64 y15, .bool h16, .int .u64 x16, .int .u64 y16, .bool h17, .int .u64 x17, .int .u64 y17, .bool h18, .int .u64 x18, .int .u64 y18, .bool h19, .int .u64 x19, .int .u64 y19, .bool b20, .bool false, .bool h22, .int .u64 x22, .int .u64 y22, .bool h23, .int .u64 x23, .int .u64 y23] := by kernel_rfl
theorem build_num (w : World) (b3 b4 b5 b20 h6 h15 h16 h17 h18 h19 h22 h23 : Bool) (n7 n8 n9 n10 n11 n12 n13 n14 x6 y6 x15 y15 x16 y16 x17 y17 x18 y18 x19 y19 x22 y22 x23 y23 : Int) : (Instr.build 38 #[(3, .bool b3), (4, .bool b4), (5, .bool b5), (6, .agg #[.bool h6, .int .u64 x6, .int .u64 y6]), (7, .int .u64 n7), (8, .int .u64 n8), (9, .int .u64 n9), (10, .int .u64 n10), (11, .int .u64 n11), (13, .int .u64 n13), (12, .int .u64 n12), (14, .int .u64 n14), (15, .agg #[.bool h15, .int .u64 x15, .int .u64 y15]), (16, .agg #[.bool h16, .int .u64 x16, .int .u64 y16]), (17, .agg #[.bool h17, .int .u64 x17, .int .u64 y17]), (20, .bool b20), (18, .agg #[.bool h18, .int .u64 x18, .int .u64 y18]), (19, .agg #[.bool h19, .int .u64 x19, .int .u64 y19]), (22, .agg #[.bool h22, .int .u64 x22, .int .u64 y22]), (23, .agg #[.bool h23, .int .u64 x23, .int .u64 y23])]).run Tryd.prog w = .ok (.agg #[.string ⟨#[]⟩, .string ⟨#[]⟩, .slice none 0 0, .bool b3, .bool b4, .bool b5, .bool h6, .int .u64 x6, .int .u64 y6, .int .u64 n7, .int .u64 n8, .int .u64 n9, .int .u64 n10, .int .u64 n11, .int .u64 n12, .int .u64 n13, .int .u64 n14, .bool h15, .int .u64 x15, .int .u64 y15, .bool h16, .int .u64 x16, .int .u64 y16, .bool h17, .int .u64 x17, .int .u64 y17, .bool h18, .int .u64 x18, .int .u64 y18, .bool h19, .int .u64 x19, .int .u64 y19, .bool b20, .bool false, .bool h22, .int .u64 x22, .int .u64 y22, .bool h23, .int .u64 x23, .int .u64 y23]) w := Go.run_build (P := Tryd.prog) w _ _ _ (built_dy ..)
/-- A struct is built, as an operation of a quiet region. -/
theorem quiet_build {P : Program} {ops : Array Oper} {C : World → Prop} {Q : Act → Prop} {rest : List Oper} {o : Oper} {a : Act} (hgd : o.guard = none) (t : TypeId) (parts : Array (Nat × Operand)) (ho : o.op = .build t parts) (v : Value)
    (hr : ∀ w, (Instr.build t (parts.map fun (i, x) => (i, a.eval x))).run P w = .ok v w) (h : wpQuiet P ops C Q rest (a.put o.dst v)) : wpQuiet P ops C Q (o :: rest) a := by
  unfold wpQuiet
  rw [if_pos (by simp [Region.wanted, hgd])]
  refine ⟨v, fun w _ => ?_, h⟩
  unfold Oper.quietAt execOp
  simp only [ho, Sem.run_bind, hr, Result.andThen_ok]
  exact ⟨rfl, rfl⟩
/-- A whole value is stored in a known block, as one operation. -/
theorem store_wp {o : Oper} {a : Act} {w : World} {K : Act → World → Prop} {Q : Exit → Act → World → Prop} (hgd : o.guard = none) (T : TypeId) (x y : Operand) (ho : o.op = .store T x y)
    (g k : Nat) (U : TypeId) (cur : Array Value) (v : Value) (cs : List Value) (new : Array Value) (hg : w.heap[g]? = some (.cells cur U (0, 0))) (hx : a.eval x = .pointer (some ⟨g, k, none⟩)) (hy : a.eval y = v)
    (hcs : v.cells = cs.toArray) (hsz : ∀ w, (Go.sizeOf T).run Tryd.prog w = .ok cs.length w) (hone : ∀ v ∈ cs, v.oneCell' = true) (hfit : k + cs.length ≤ cur.size) (hnew : (cur.toList.take k ++ cs ++ cur.toList.drop (k + cs.length)).toArray = new)
    (h : ∀ w', w'.heap[g]? = some (.cells new U (0, 0)) → w.grownBy w' (some g) → K (a.put o.dst undef) w') : Oper.wp Tryd.prog o a w K Q := by
  have k1 := step_store (ops := #[]) (X := False) (Q := Q) hgd T x y ho g k U cur v cs new hg hx hy hcs hsz hone hfit hnew h
  rw [if_pos (by simp [Region.wanted, hgd])] at k1
  exact k1
theorem one_all (l : List Value) (h : l.all Value.oneCell' = true) : ∀ v ∈ l, v.oneCell' = true := by simpa using h
theorem at_storeD {ops : Array Oper} {rest : List Oper} {a : Act} {Q : Exit → Act → World → Prop} {w : World} {ty : TypeId} {x y : Operand} {d : Option Tmp} {ps : String} {af : Array Edge}
    (h : wpList Tryd.prog ops Q ({ dst := d, op := .store 38 x y, type := ty, pos := ps, after := af, guard := none } :: rest) a w) : wpList Tryd.prog ops Q ({ dst := d, op := .store 38 x y, type := ty, pos := ps, after := af, guard := none } :: rest) a w := h
theorem at_storeA {ops : Array Oper} {rest : List Oper} {a : Act} {Q : Exit → Act → World → Prop} {w : World} {ty : TypeId} {x y : Operand} {d : Option Tmp} {ps : String} {af : Array Edge}
    (h : wpList Tryd.prog ops Q ({ dst := d, op := .store 36 x y, type := ty, pos := ps, after := af, guard := none } :: rest) a w) : wpList Tryd.prog ops Q ({ dst := d, op := .store 36 x y, type := ty, pos := ps, after := af, guard := none } :: rest) a w := h
/-- The cells of what the tags say by themselves. -/
def numT (E : List De) : List Value :=
  [.bool (hasT E 16 || bits .and .u64 (lvT E 30 : Nat) 2 != 0), .bool (bits .and .u64 (lvT E 1879048187 : Nat) 2 != 0), .bool (bits .and .u64 (lvT E 1879048187 : Nat) 8 != 0)] ++ arV E 5 10 ++
  [.int .u64 (lvT E 6 : Nat), .int .u64 (lvT E 4 : Nat), .int .u64 (lvT E 1879047925 : Nat), .int .u64 (lvT E 1879048176 : Nat), .int .u64 (lvT E 1879048188 : Nat), .int .u64 (lvT E 1879048190 : Nat), .int .u64 (lvT E 1879048189 : Nat), .int .u64 (lvT E 1879048191 : Nat)] ++
  arV E 17 18 ++ arV E 7 8 ++ arV E 23 2 ++ arV E 36 35 ++ (if hasT E 1610612753 = true then arV E 1610612753 1610612754 else arV E 1610612751 1610612752) ++
  [.bool ((lvT E 20 : Int) == 7), .bool (hasT E 1610612753)] ++ arV E 25 27 ++ arV E 26 28
def numC (E : List De) : List Value := [.string ⟨#[]⟩, .string ⟨#[]⟩, .slice none 0 0] ++ numT E
set_option maxHeartbeats 4000000 in
set_option maxRecDepth 20000 in
theorem dyn_numbers (w : World) (M1 M2 : Nat) (a : Option Addr) (n c : Nat) (E : List De) (h : TagsAt w M1 M2 (.slice a n c) E) :
    Calls Tryd.prog 27 #[.agg #[.map (some M1), .map (some M2), .slice a n c]] w fun e w' => e = .returned (.agg (numC E).toArray) ∧ Below w.heap.size w w' := by
  have HB0 := hide (bel1 w (.cells #[.map (some M1), .map (some M2), .slice a n c] 69))
  have HG0 := hide (tag_block w M1 M2 a n c)
  have hb2 := bel1 (w.alloc (.cells #[.map (some M1), .map (some M2), .slice a n c] 69)) (.cells #[.string ⟨#[]⟩, .string ⟨#[]⟩, .slice none 0 0, .bool false, .bool false, .bool false, .bool false, .int .u64 0, .int .u64 0, .int .u64 0, .int .u64 0, .int .u64 0, .int .u64 0, .int .u64 0, .int .u64 0, .int .u64 0, .int .u64 0, .bool false, .int .u64 0, .int .u64 0, .bool false, .int .u64 0, .int .u64 0, .bool false, .int .u64 0, .int .u64 0, .bool false, .int .u64 0, .int .u64 0, .bool false, .int .u64 0, .int .u64 0, .bool false, .bool false, .bool false, .int .u64 0, .int .u64 0, .bool false, .int .u64 0, .int .u64 0] 38)
  have HT0 := hide ((h.below HB0.out).below hb2)
  have HG := hide (block_stay HG0.out hb2)
  have HB := hide (HB0.out.trans (hb2.mono HB0.out.size))
  have hR := (MapKept.heap_alloc (w.alloc (.cells #[.map (some M1), .map (some M2), .slice a n c] 69)) (.cells #[.string ⟨#[]⟩, .string ⟨#[]⟩, .slice none 0 0, .bool false, .bool false, .bool false, .bool false, .int .u64 0, .int .u64 0, .int .u64 0, .int .u64 0, .int .u64 0, .int .u64 0, .int .u64 0, .int .u64 0, .int .u64 0, .int .u64 0, .bool false, .int .u64 0, .int .u64 0, .bool false, .int .u64 0, .int .u64 0, .bool false, .int .u64 0, .int .u64 0, .bool false, .int .u64 0, .int .u64 0, .bool false, .int .u64 0, .int .u64 0, .bool false, .bool false, .bool false, .int .u64 0, .int .u64 0, .bool false, .int .u64 0, .int .u64 0] 38)).1
  have sz : (w.alloc (.cells #[.map (some M1), .map (some M2), .slice a n c] 69)).heap.size = w.heap.size + 1 := by simp
  rw [sz] at hR
  have HR := hide hR
  clear h hb2 HB0 HG0 hR sz
  go_enter Tryd.func27, Tryd.ntmps27
  go_wp2_with fail
  try simp only [List.append_eq, List.cons_append, List.nil_append]
  generalize (w.alloc _).alloc _ = w0 at *
  generalize hsz : w.heap.size = Z at *
  have HK16 : Hid (∀ W, Below w0.heap.size w0 W → Calls Tryd.prog 42 #[.agg #[.map (some M1), .map (some M2), .slice a n c], .int .u64 16] W fun e w' => e = .returned (.bool (hasT E 16)) ∧ Below W.heap.size W w') := fun W hb => dyn_has W M1 M2 a n c E (HT0.out.below hb) 16 (by decide)
  have HK5 : Hid (∀ W, Below w0.heap.size w0 W → Calls Tryd.prog 44 #[.agg #[.map (some M1), .map (some M2), .slice a n c], .int .u64 5, .int .u64 10] W fun e w' => e = .returned (.agg #[.bool (hasT E 5), .int .u64 (lvT E 5 : Nat), .int .u64 (lvT E 10 : Nat)]) ∧ Below W.heap.size W w') := fun W hb => dyn_area W M1 M2 a n c E (HT0.out.below hb) 5 10 (by decide) (by decide)
  have HK17 : Hid (∀ W, Below w0.heap.size w0 W → Calls Tryd.prog 44 #[.agg #[.map (some M1), .map (some M2), .slice a n c], .int .u64 17, .int .u64 18] W fun e w' => e = .returned (.agg #[.bool (hasT E 17), .int .u64 (lvT E 17 : Nat), .int .u64 (lvT E 18 : Nat)]) ∧ Below W.heap.size W w') := fun W hb => dyn_area W M1 M2 a n c E (HT0.out.below hb) 17 18 (by decide) (by decide)
  have HK7 : Hid (∀ W, Below w0.heap.size w0 W → Calls Tryd.prog 44 #[.agg #[.map (some M1), .map (some M2), .slice a n c], .int .u64 7, .int .u64 8] W fun e w' => e = .returned (.agg #[.bool (hasT E 7), .int .u64 (lvT E 7 : Nat), .int .u64 (lvT E 8 : Nat)]) ∧ Below W.heap.size W w') := fun W hb => dyn_area W M1 M2 a n c E (HT0.out.below hb) 7 8 (by decide) (by decide)
  have HK23 : Hid (∀ W, Below w0.heap.size w0 W → Calls Tryd.prog 44 #[.agg #[.map (some M1), .map (some M2), .slice a n c], .int .u64 23, .int .u64 2] W fun e w' => e = .returned (.agg #[.bool (hasT E 23), .int .u64 (lvT E 23 : Nat), .int .u64 (lvT E 2 : Nat)]) ∧ Below W.heap.size W w') := fun W hb => dyn_area W M1 M2 a n c E (HT0.out.below hb) 23 2 (by decide) (by decide)
  have HK36 : Hid (∀ W, Below w0.heap.size w0 W → Calls Tryd.prog 44 #[.agg #[.map (some M1), .map (some M2), .slice a n c], .int .u64 36, .int .u64 35] W fun e w' => e = .returned (.agg #[.bool (hasT E 36), .int .u64 (lvT E 36 : Nat), .int .u64 (lvT E 35 : Nat)]) ∧ Below W.heap.size W w') := fun W hb => dyn_area W M1 M2 a n c E (HT0.out.below hb) 36 35 (by decide) (by decide)
  have HK1610612751 : Hid (∀ W, Below w0.heap.size w0 W → Calls Tryd.prog 44 #[.agg #[.map (some M1), .map (some M2), .slice a n c], .int .u64 1610612751, .int .u64 1610612752] W fun e w' => e = .returned (.agg #[.bool (hasT E 1610612751), .int .u64 (lvT E 1610612751 : Nat), .int .u64 (lvT E 1610612752 : Nat)]) ∧ Below W.heap.size W w') := fun W hb => dyn_area W M1 M2 a n c E (HT0.out.below hb) 1610612751 1610612752 (by decide) (by decide)
  have HK25 : Hid (∀ W, Below w0.heap.size w0 W → Calls Tryd.prog 44 #[.agg #[.map (some M1), .map (some M2), .slice a n c], .int .u64 25, .int .u64 27] W fun e w' => e = .returned (.agg #[.bool (hasT E 25), .int .u64 (lvT E 25 : Nat), .int .u64 (lvT E 27 : Nat)]) ∧ Below W.heap.size W w') := fun W hb => dyn_area W M1 M2 a n c E (HT0.out.below hb) 25 27 (by decide) (by decide)
  have HK26 : Hid (∀ W, Below w0.heap.size w0 W → Calls Tryd.prog 44 #[.agg #[.map (some M1), .map (some M2), .slice a n c], .int .u64 26, .int .u64 28] W fun e w' => e = .returned (.agg #[.bool (hasT E 26), .int .u64 (lvT E 26 : Nat), .int .u64 (lvT E 28 : Nat)]) ∧ Below W.heap.size W w') := fun W hb => dyn_area W M1 M2 a n c E (HT0.out.below hb) 26 28 (by decide) (by decide)
  obtain ⟨s16, hs16⟩ : ∃ b, hasT E 16 = b := ⟨_, rfl⟩
  rw [hs16] at HK16
  have HS16 := hide hs16
  have HSZ := hide hsz
  clear hs16 hsz
  cases s16
  · apply RgV.wp_region_var_at (n := 64) (hl := rfl) (z := .cells zeroDy.toArray 38) (hm := by kernel_rfl) (hB := by kernel_rfl) (hV := by kernel_rfl)
    case H =>
      intro W hW
      have bW : ∀ d os, Below w0.heap.size w0 (grow (redrawn W d) os) := fun d os => hW.trans ((below_regrown W d os).mono hW.size)
      have e0 : ∀ d os, (grow (redrawn W d) os).cell? ⟨Z, 0, none⟩ = some (.map (some M1)) := fun d os => (tag_cells (block_stay HG.out (bW d os))).1
      have e1 : ∀ d os, (grow (redrawn W d) os).cell? ⟨Z, 1, none⟩ = some (.map (some M2)) := fun d os => (tag_cells (block_stay HG.out (bW d os))).2.1
      have e2 : ∀ d os, (grow (redrawn W d) os).cell? ⟨Z, 2, none⟩ = some (.slice a n c) := fun d os => (tag_cells (block_stay HG.out (bW d os))).2.2
      have l30 : ∀ d os, (Instr.lookup 66 (.map (some M2)) (.int .u64 30) false).run Tryd.prog (grow (redrawn W d) os) = .ok (.int .u64 (lvT E 30 : Nat)) (grow (redrawn W d) os) := fun d os => (HT0.out.below (bW d os)).m2.choose_spec.get 30 (by decide)
      have l1879048187 : ∀ d os, (Instr.lookup 66 (.map (some M2)) (.int .u64 1879048187) false).run Tryd.prog (grow (redrawn W d) os) = .ok (.int .u64 (lvT E 1879048187 : Nat)) (grow (redrawn W d) os) := fun d os => (HT0.out.below (bW d os)).m2.choose_spec.get 1879048187 (by decide)
      have l6 : ∀ d os, (Instr.lookup 66 (.map (some M2)) (.int .u64 6) false).run Tryd.prog (grow (redrawn W d) os) = .ok (.int .u64 (lvT E 6 : Nat)) (grow (redrawn W d) os) := fun d os => (HT0.out.below (bW d os)).m2.choose_spec.get 6 (by decide)
      have l4 : ∀ d os, (Instr.lookup 66 (.map (some M2)) (.int .u64 4) false).run Tryd.prog (grow (redrawn W d) os) = .ok (.int .u64 (lvT E 4 : Nat)) (grow (redrawn W d) os) := fun d os => (HT0.out.below (bW d os)).m2.choose_spec.get 4 (by decide)
      have l1879047925 : ∀ d os, (Instr.lookup 66 (.map (some M2)) (.int .u64 1879047925) false).run Tryd.prog (grow (redrawn W d) os) = .ok (.int .u64 (lvT E 1879047925 : Nat)) (grow (redrawn W d) os) := fun d os => (HT0.out.below (bW d os)).m2.choose_spec.get 1879047925 (by decide)
      have l1879048176 : ∀ d os, (Instr.lookup 66 (.map (some M2)) (.int .u64 1879048176) false).run Tryd.prog (grow (redrawn W d) os) = .ok (.int .u64 (lvT E 1879048176 : Nat)) (grow (redrawn W d) os) := fun d os => (HT0.out.below (bW d os)).m2.choose_spec.get 1879048176 (by decide)
      have l1879048188 : ∀ d os, (Instr.lookup 66 (.map (some M2)) (.int .u64 1879048188) false).run Tryd.prog (grow (redrawn W d) os) = .ok (.int .u64 (lvT E 1879048188 : Nat)) (grow (redrawn W d) os) := fun d os => (HT0.out.below (bW d os)).m2.choose_spec.get 1879048188 (by decide)
      have l1879048189 : ∀ d os, (Instr.lookup 66 (.map (some M2)) (.int .u64 1879048189) false).run Tryd.prog (grow (redrawn W d) os) = .ok (.int .u64 (lvT E 1879048189 : Nat)) (grow (redrawn W d) os) := fun d os => (HT0.out.below (bW d os)).m2.choose_spec.get 1879048189 (by decide)
      have l1879048190 : ∀ d os, (Instr.lookup 66 (.map (some M2)) (.int .u64 1879048190) false).run Tryd.prog (grow (redrawn W d) os) = .ok (.int .u64 (lvT E 1879048190 : Nat)) (grow (redrawn W d) os) := fun d os => (HT0.out.below (bW d os)).m2.choose_spec.get 1879048190 (by decide)
      have l1879048191 : ∀ d os, (Instr.lookup 66 (.map (some M2)) (.int .u64 1879048191) false).run Tryd.prog (grow (redrawn W d) os) = .ok (.int .u64 (lvT E 1879048191 : Nat)) (grow (redrawn W d) os) := fun d os => (HT0.out.below (bW d os)).m2.choose_spec.get 1879048191 (by decide)
      have l20 : ∀ d os, (Instr.lookup 66 (.map (some M2)) (.int .u64 20) false).run Tryd.prog (grow (redrawn W d) os) = .ok (.int .u64 (lvT E 20 : Nat)) (grow (redrawn W d) os) := fun d os => (HT0.out.below (bW d os)).m2.choose_spec.get 20 (by decide)
      have HBW := hide bW
      clear bW
      simp only [List.take_succ_cons, List.take_zero]
      repeat (go_big_quiet_step (first | (with_reducible exact Calls.regrown_of (HK16.out _ (HBW.out _ _))) | (with_reducible exact Calls.regrown_of (HK5.out _ (HBW.out _ _))) | (with_reducible exact Calls.regrown_of (HK17.out _ (HBW.out _ _))) | (with_reducible exact Calls.regrown_of (HK7.out _ (HBW.out _ _))) | (with_reducible exact Calls.regrown_of (HK23.out _ (HBW.out _ _))) | (with_reducible exact Calls.regrown_of (HK36.out _ (HBW.out _ _))) | (with_reducible exact Calls.regrown_of (HK1610612751.out _ (HBW.out _ _))) | (with_reducible exact Calls.regrown_of (HK25.out _ (HBW.out _ _))) | (with_reducible exact Calls.regrown_of (HK26.out _ (HBW.out _ _)))))
      refine quiet_build rfl _ _ rfl (.agg #[.string ⟨#[]⟩, .string ⟨#[]⟩, .slice none 0 0, .bool (bits .and .u64 (lvT E 30 : Nat) 2 != 0), .bool (bits .and .u64 (lvT E 1879048187 : Nat) 2 != 0), .bool (bits .and .u64 (lvT E 1879048187 : Nat) 8 != 0), .bool (hasT E 5), .int .u64 (lvT E 5 : Nat), .int .u64 (lvT E 10 : Nat), .int .u64 (lvT E 6 : Nat), .int .u64 (lvT E 4 : Nat), .int .u64 (lvT E 1879047925 : Nat), .int .u64 (lvT E 1879048176 : Nat), .int .u64 (lvT E 1879048188 : Nat), .int .u64 (lvT E 1879048190 : Nat), .int .u64 (lvT E 1879048189 : Nat), .int .u64 (lvT E 1879048191 : Nat), .bool (hasT E 17), .int .u64 (lvT E 17 : Nat), .int .u64 (lvT E 18 : Nat), .bool (hasT E 7), .int .u64 (lvT E 7 : Nat), .int .u64 (lvT E 8 : Nat), .bool (hasT E 23), .int .u64 (lvT E 23 : Nat), .int .u64 (lvT E 2 : Nat), .bool (hasT E 36), .int .u64 (lvT E 36 : Nat), .int .u64 (lvT E 35 : Nat), .bool (hasT E 1610612751), .int .u64 (lvT E 1610612751 : Nat), .int .u64 (lvT E 1610612752 : Nat), .bool ((lvT E 20 : Int) == 7), .bool false, .bool (hasT E 25), .int .u64 (lvT E 25 : Nat), .int .u64 (lvT E 27 : Nat), .bool (hasT E 26), .int .u64 (lvT E 26 : Nat), .int .u64 (lvT E 28 : Nat)]) ?_ (wpQuiet_nil rfl)
      intro w
      simp only [List.map_toArray, List.map_cons, List.map_nil]
      exact build_num w ..
    case hA =>
      intro a w K hk
      go_simp
      exact hk
    case hS =>
      intro w1 p hb1 hp hz
      refine store_wp rfl 38 (.tmp 3) (.tmp 67) rfl p 0 38 zeroDy.toArray _ [.string ⟨#[]⟩, .string ⟨#[]⟩, .slice none 0 0, .bool (bits .and .u64 (lvT E 30 : Nat) 2 != 0), .bool (bits .and .u64 (lvT E 1879048187 : Nat) 2 != 0), .bool (bits .and .u64 (lvT E 1879048187 : Nat) 8 != 0), .bool (hasT E 5), .int .u64 (lvT E 5 : Nat), .int .u64 (lvT E 10 : Nat), .int .u64 (lvT E 6 : Nat), .int .u64 (lvT E 4 : Nat), .int .u64 (lvT E 1879047925 : Nat), .int .u64 (lvT E 1879048176 : Nat), .int .u64 (lvT E 1879048188 : Nat), .int .u64 (lvT E 1879048190 : Nat), .int .u64 (lvT E 1879048189 : Nat), .int .u64 (lvT E 1879048191 : Nat), .bool (hasT E 17), .int .u64 (lvT E 17 : Nat), .int .u64 (lvT E 18 : Nat), .bool (hasT E 7), .int .u64 (lvT E 7 : Nat), .int .u64 (lvT E 8 : Nat), .bool (hasT E 23), .int .u64 (lvT E 23 : Nat), .int .u64 (lvT E 2 : Nat), .bool (hasT E 36), .int .u64 (lvT E 36 : Nat), .int .u64 (lvT E 35 : Nat), .bool (hasT E 1610612751), .int .u64 (lvT E 1610612751 : Nat), .int .u64 (lvT E 1610612752 : Nat), .bool ((lvT E 20 : Int) == 7), .bool false, .bool (hasT E 25), .int .u64 (lvT E 25 : Nat), .int .u64 (lvT E 27 : Nat), .bool (hasT E 26), .int .u64 (lvT E 26 : Nat), .int .u64 (lvT E 28 : Nat)] #[.string ⟨#[]⟩, .string ⟨#[]⟩, .slice none 0 0, .bool (bits .and .u64 (lvT E 30 : Nat) 2 != 0), .bool (bits .and .u64 (lvT E 1879048187 : Nat) 2 != 0), .bool (bits .and .u64 (lvT E 1879048187 : Nat) 8 != 0), .bool (hasT E 5), .int .u64 (lvT E 5 : Nat), .int .u64 (lvT E 10 : Nat), .int .u64 (lvT E 6 : Nat), .int .u64 (lvT E 4 : Nat), .int .u64 (lvT E 1879047925 : Nat), .int .u64 (lvT E 1879048176 : Nat), .int .u64 (lvT E 1879048188 : Nat), .int .u64 (lvT E 1879048190 : Nat), .int .u64 (lvT E 1879048189 : Nat), .int .u64 (lvT E 1879048191 : Nat), .bool (hasT E 17), .int .u64 (lvT E 17 : Nat), .int .u64 (lvT E 18 : Nat), .bool (hasT E 7), .int .u64 (lvT E 7 : Nat), .int .u64 (lvT E 8 : Nat), .bool (hasT E 23), .int .u64 (lvT E 23 : Nat), .int .u64 (lvT E 2 : Nat), .bool (hasT E 36), .int .u64 (lvT E 36 : Nat), .int .u64 (lvT E 35 : Nat), .bool (hasT E 1610612751), .int .u64 (lvT E 1610612751 : Nat), .int .u64 (lvT E 1610612752 : Nat), .bool ((lvT E 20 : Int) == 7), .bool false, .bool (hasT E 25), .int .u64 (lvT E 25 : Nat), .int .u64 (lvT E 27 : Nat), .bool (hasT E 26), .int .u64 (lvT E 26 : Nat), .int .u64 (lvT E 28 : Nat)] hz rfl rfl rfl dy_size (one_all _ rfl) (Nat.le_refl 40) rfl ?_
      intro w5 h5 g5
      have hb5 : Below w0.heap.size w0 w5 := ⟨g5.os.trans hb1.os, g5.tape.trans hb1.tape, g5.output.trans hb1.output, Nat.le_trans hb1.size g5.size, fun k hk => (g5.block k (Nat.lt_of_lt_of_le hk hb1.size) (fun e => by injection e with e; omega)).trans (hb1.block k hk)⟩
      have HB5 := hide hb5
      obtain ⟨e0, e1, e2⟩ := tag_cells (block_stay HG.out hb5)
      have hK := dyn_has w5 M1 M2 a n c E (HT0.out.below hb5) 1610612753 (by decide)
      have H5 := hide h5
      have HP := hide hp
      obtain ⟨pk, hpk⟩ : ∃ b, hasT E 1610612753 = b := ⟨_, rfl⟩
      rw [hpk] at hK
      have HPK := hide hpk
      clear hpk hb5 h5 g5 hz hb1 hp
      go_wp2_with fail
      refine hK.mono ?_
      rintro e w6 ⟨rfl, hb6⟩
      have HB6 := hide (HB5.out.trans (hb6.mono HB5.out.size))
      have H6 := hide (block_stay H5.out hb6)
      clear hK hb6 e0 e1 e2 H5 HB5
      cases pk with
      | false =>
        have HR6 := hide (block_stay HR.out HB6.out)
        go_wp2_with (first
          | ((with_reducible refine at_loadD ?_); refine load_row rfl _ _ rfl p _ (load_dy H6.out rfl) rfl ?_)
          | ((with_reducible refine at_storeD ?_); refine store_part rfl _ _ _ rfl (Z + 1) 0 _ _ [.string ⟨#[]⟩, .string ⟨#[]⟩, .slice none 0 0, .bool (bits .and .u64 (lvT E 30 : Nat) 2 != 0), .bool (bits .and .u64 (lvT E 1879048187 : Nat) 2 != 0), .bool (bits .and .u64 (lvT E 1879048187 : Nat) 8 != 0), .bool (hasT E 5), .int .u64 (lvT E 5 : Nat), .int .u64 (lvT E 10 : Nat), .int .u64 (lvT E 6 : Nat), .int .u64 (lvT E 4 : Nat), .int .u64 (lvT E 1879047925 : Nat), .int .u64 (lvT E 1879048176 : Nat), .int .u64 (lvT E 1879048188 : Nat), .int .u64 (lvT E 1879048190 : Nat), .int .u64 (lvT E 1879048189 : Nat), .int .u64 (lvT E 1879048191 : Nat), .bool (hasT E 17), .int .u64 (lvT E 17 : Nat), .int .u64 (lvT E 18 : Nat), .bool (hasT E 7), .int .u64 (lvT E 7 : Nat), .int .u64 (lvT E 8 : Nat), .bool (hasT E 23), .int .u64 (lvT E 23 : Nat), .int .u64 (lvT E 2 : Nat), .bool (hasT E 36), .int .u64 (lvT E 36 : Nat), .int .u64 (lvT E 35 : Nat), .bool (hasT E 1610612751), .int .u64 (lvT E 1610612751 : Nat), .int .u64 (lvT E 1610612752 : Nat), .bool ((lvT E 20 : Int) == 7), .bool false, .bool (hasT E 25), .int .u64 (lvT E 25 : Nat), .int .u64 (lvT E 27 : Nat), .bool (hasT E 26), .int .u64 (lvT E 26 : Nat), .int .u64 (lvT E 28 : Nat)] #[.string ⟨#[]⟩, .string ⟨#[]⟩, .slice none 0 0, .bool (bits .and .u64 (lvT E 30 : Nat) 2 != 0), .bool (bits .and .u64 (lvT E 1879048187 : Nat) 2 != 0), .bool (bits .and .u64 (lvT E 1879048187 : Nat) 8 != 0), .bool (hasT E 5), .int .u64 (lvT E 5 : Nat), .int .u64 (lvT E 10 : Nat), .int .u64 (lvT E 6 : Nat), .int .u64 (lvT E 4 : Nat), .int .u64 (lvT E 1879047925 : Nat), .int .u64 (lvT E 1879048176 : Nat), .int .u64 (lvT E 1879048188 : Nat), .int .u64 (lvT E 1879048190 : Nat), .int .u64 (lvT E 1879048189 : Nat), .int .u64 (lvT E 1879048191 : Nat), .bool (hasT E 17), .int .u64 (lvT E 17 : Nat), .int .u64 (lvT E 18 : Nat), .bool (hasT E 7), .int .u64 (lvT E 7 : Nat), .int .u64 (lvT E 8 : Nat), .bool (hasT E 23), .int .u64 (lvT E 23 : Nat), .int .u64 (lvT E 2 : Nat), .bool (hasT E 36), .int .u64 (lvT E 36 : Nat), .int .u64 (lvT E 35 : Nat), .bool (hasT E 1610612751), .int .u64 (lvT E 1610612751 : Nat), .int .u64 (lvT E 1610612752 : Nat), .bool ((lvT E 20 : Int) == 7), .bool false, .bool (hasT E 25), .int .u64 (lvT E 25 : Nat), .int .u64 (lvT E 27 : Nat), .bool (hasT E 26), .int .u64 (lvT E 26 : Nat), .int .u64 (lvT E 28 : Nat)] HR6.out rfl rfl dy_size (one_all _ rfl) (Nat.le_refl 40) rfl ?_; intro w8 h8 g8; have H8 := hide h8; have G8 := hide g8; clear h8 g8))
        have HBE : Hid (Below Z w w8) := by
          have b := HB.out.trans (HB6.out.mono (by have := HB.out.size; have := HSZ.out; omega))
          exact b.grown G8.out (by have := b.size; have := HSZ.out; omega) (fun k e => by injection e with e; omega)
        refine bodyPost_ret (results_cell1 rfl _ _ (Z + 1) _ _ _ _ rfl H8.out Tryd.underlying38 rfl (by kernel_rfl)) rfl ?_
        exact ⟨by rw [numC, numT, HS16.out, HPK.out]; rfl, by rw [HSZ.out]; exact HBE.out⟩
      | true =>
        obtain ⟨e0, e1, e2⟩ := tag_cells (block_stay HG.out HB6.out)
        have hA2 := dyn_area w6 M1 M2 a n c E (HT0.out.below HB6.out) 1610612753 1610612754 (by decide) (by decide)
        have hA3 : Calls Tryd.prog 44 #[.agg #[.map (some M1), .map (some M2), .slice a n c], .int .u64 1610612753, .int .u64 1610612754] w6 fun e w' => e = .returned (.agg #[.bool true, .int .u64 (lvT E 1610612753 : Nat), .int .u64 (lvT E 1610612754 : Nat)]) ∧ Below w6.heap.size w6 w' := by
          unfold arV at hA2
          rw [HPK.out] at hA2
          exact hA2
        clear hA2
        go_wp2_with fail
        refine hA3.mono ?_
        rintro e w7 ⟨rfl, hb7⟩
        have HB7 := hide (HB6.out.trans (hb7.mono HB6.out.size))
        have H7 := hide (block_stay H6.out hb7)
        clear hA3 hb7 e0 e1 e2 H6 HB6
        go_wp2_with (first
          | ((with_reducible refine at_storeA ?_); refine store_part rfl _ _ _ rfl p 29 _ _ [.bool true, .int .u64 (lvT E 1610612753 : Nat), .int .u64 (lvT E 1610612754 : Nat)] #[.string ⟨#[]⟩, .string ⟨#[]⟩, .slice none 0 0, .bool (bits .and .u64 (lvT E 30 : Nat) 2 != 0), .bool (bits .and .u64 (lvT E 1879048187 : Nat) 2 != 0), .bool (bits .and .u64 (lvT E 1879048187 : Nat) 8 != 0), .bool (hasT E 5), .int .u64 (lvT E 5 : Nat), .int .u64 (lvT E 10 : Nat), .int .u64 (lvT E 6 : Nat), .int .u64 (lvT E 4 : Nat), .int .u64 (lvT E 1879047925 : Nat), .int .u64 (lvT E 1879048176 : Nat), .int .u64 (lvT E 1879048188 : Nat), .int .u64 (lvT E 1879048190 : Nat), .int .u64 (lvT E 1879048189 : Nat), .int .u64 (lvT E 1879048191 : Nat), .bool (hasT E 17), .int .u64 (lvT E 17 : Nat), .int .u64 (lvT E 18 : Nat), .bool (hasT E 7), .int .u64 (lvT E 7 : Nat), .int .u64 (lvT E 8 : Nat), .bool (hasT E 23), .int .u64 (lvT E 23 : Nat), .int .u64 (lvT E 2 : Nat), .bool (hasT E 36), .int .u64 (lvT E 36 : Nat), .int .u64 (lvT E 35 : Nat), .bool true, .int .u64 (lvT E 1610612753 : Nat), .int .u64 (lvT E 1610612754 : Nat), .bool ((lvT E 20 : Int) == 7), .bool false, .bool (hasT E 25), .int .u64 (lvT E 25 : Nat), .int .u64 (lvT E 27 : Nat), .bool (hasT E 26), .int .u64 (lvT E 26 : Nat), .int .u64 (lvT E 28 : Nat)] H7.out rfl rfl ar_size (one_all _ rfl) (by decide : 29 + 3 ≤ 40) rfl ?_; intro w8 h8 g8; have d33 := cells_of_block h8 33 (.bool false) rfl; have f33 := frozen_of_block h8 33; have H9 : Hid ((w8.setCell ⟨p, 33, none⟩ (.bool true)).heap[p]? = some (.cells #[.string ⟨#[]⟩, .string ⟨#[]⟩, .slice none 0 0, .bool (bits .and .u64 (lvT E 30 : Nat) 2 != 0), .bool (bits .and .u64 (lvT E 1879048187 : Nat) 2 != 0), .bool (bits .and .u64 (lvT E 1879048187 : Nat) 8 != 0), .bool (hasT E 5), .int .u64 (lvT E 5 : Nat), .int .u64 (lvT E 10 : Nat), .int .u64 (lvT E 6 : Nat), .int .u64 (lvT E 4 : Nat), .int .u64 (lvT E 1879047925 : Nat), .int .u64 (lvT E 1879048176 : Nat), .int .u64 (lvT E 1879048188 : Nat), .int .u64 (lvT E 1879048190 : Nat), .int .u64 (lvT E 1879048189 : Nat), .int .u64 (lvT E 1879048191 : Nat), .bool (hasT E 17), .int .u64 (lvT E 17 : Nat), .int .u64 (lvT E 18 : Nat), .bool (hasT E 7), .int .u64 (lvT E 7 : Nat), .int .u64 (lvT E 8 : Nat), .bool (hasT E 23), .int .u64 (lvT E 23 : Nat), .int .u64 (lvT E 2 : Nat), .bool (hasT E 36), .int .u64 (lvT E 36 : Nat), .int .u64 (lvT E 35 : Nat), .bool true, .int .u64 (lvT E 1610612753 : Nat), .int .u64 (lvT E 1610612754 : Nat), .bool ((lvT E 20 : Int) == 7), .bool true, .bool (hasT E 25), .int .u64 (lvT E 25 : Nat), .int .u64 (lvT E 27 : Nat), .bool (hasT E 26), .int .u64 (lvT E 26 : Nat), .int .u64 (lvT E 28 : Nat)] 38 (0, 0))) := heap_setCell_at _ p 33 _ _ _ _ h8; have hb8 := HB7.out.grown g8 HB7.out.size (fun k e => by injection e with e; have := HP.out; omega); have HB9 := hide (hb8.setCell (p := ⟨p, 33, none⟩) HP.out (.bool true)); have HR9 := hide (block_stay HR.out HB9.out); clear h8 g8 hb8)
          | ((with_reducible refine at_loadD ?_); refine load_row rfl _ _ rfl p _ (load_dy H9.out rfl) rfl ?_)
          | ((with_reducible refine at_storeD ?_); refine store_part rfl _ _ _ rfl (Z + 1) 0 _ _ [.string ⟨#[]⟩, .string ⟨#[]⟩, .slice none 0 0, .bool (bits .and .u64 (lvT E 30 : Nat) 2 != 0), .bool (bits .and .u64 (lvT E 1879048187 : Nat) 2 != 0), .bool (bits .and .u64 (lvT E 1879048187 : Nat) 8 != 0), .bool (hasT E 5), .int .u64 (lvT E 5 : Nat), .int .u64 (lvT E 10 : Nat), .int .u64 (lvT E 6 : Nat), .int .u64 (lvT E 4 : Nat), .int .u64 (lvT E 1879047925 : Nat), .int .u64 (lvT E 1879048176 : Nat), .int .u64 (lvT E 1879048188 : Nat), .int .u64 (lvT E 1879048190 : Nat), .int .u64 (lvT E 1879048189 : Nat), .int .u64 (lvT E 1879048191 : Nat), .bool (hasT E 17), .int .u64 (lvT E 17 : Nat), .int .u64 (lvT E 18 : Nat), .bool (hasT E 7), .int .u64 (lvT E 7 : Nat), .int .u64 (lvT E 8 : Nat), .bool (hasT E 23), .int .u64 (lvT E 23 : Nat), .int .u64 (lvT E 2 : Nat), .bool (hasT E 36), .int .u64 (lvT E 36 : Nat), .int .u64 (lvT E 35 : Nat), .bool true, .int .u64 (lvT E 1610612753 : Nat), .int .u64 (lvT E 1610612754 : Nat), .bool ((lvT E 20 : Int) == 7), .bool true, .bool (hasT E 25), .int .u64 (lvT E 25 : Nat), .int .u64 (lvT E 27 : Nat), .bool (hasT E 26), .int .u64 (lvT E 26 : Nat), .int .u64 (lvT E 28 : Nat)] #[.string ⟨#[]⟩, .string ⟨#[]⟩, .slice none 0 0, .bool (bits .and .u64 (lvT E 30 : Nat) 2 != 0), .bool (bits .and .u64 (lvT E 1879048187 : Nat) 2 != 0), .bool (bits .and .u64 (lvT E 1879048187 : Nat) 8 != 0), .bool (hasT E 5), .int .u64 (lvT E 5 : Nat), .int .u64 (lvT E 10 : Nat), .int .u64 (lvT E 6 : Nat), .int .u64 (lvT E 4 : Nat), .int .u64 (lvT E 1879047925 : Nat), .int .u64 (lvT E 1879048176 : Nat), .int .u64 (lvT E 1879048188 : Nat), .int .u64 (lvT E 1879048190 : Nat), .int .u64 (lvT E 1879048189 : Nat), .int .u64 (lvT E 1879048191 : Nat), .bool (hasT E 17), .int .u64 (lvT E 17 : Nat), .int .u64 (lvT E 18 : Nat), .bool (hasT E 7), .int .u64 (lvT E 7 : Nat), .int .u64 (lvT E 8 : Nat), .bool (hasT E 23), .int .u64 (lvT E 23 : Nat), .int .u64 (lvT E 2 : Nat), .bool (hasT E 36), .int .u64 (lvT E 36 : Nat), .int .u64 (lvT E 35 : Nat), .bool true, .int .u64 (lvT E 1610612753 : Nat), .int .u64 (lvT E 1610612754 : Nat), .bool ((lvT E 20 : Int) == 7), .bool true, .bool (hasT E 25), .int .u64 (lvT E 25 : Nat), .int .u64 (lvT E 27 : Nat), .bool (hasT E 26), .int .u64 (lvT E 26 : Nat), .int .u64 (lvT E 28 : Nat)] HR9.out rfl rfl dy_size (one_all _ rfl) (Nat.le_refl 40) rfl ?_; intro w10 h10 g10; have H10 := hide h10; have G10 := hide g10; clear h10 g10))
        have HBE : Hid (Below Z w w10) := by
          have b := HB.out.trans (HB9.out.mono (by have := HB.out.size; have := HSZ.out; omega))
          exact b.grown G10.out (by have := b.size; have := HSZ.out; omega) (fun k e => by injection e with e; omega)
        refine bodyPost_ret (results_cell1 rfl _ _ (Z + 1) _ _ _ _ rfl H10.out Tryd.underlying38 rfl (by kernel_rfl)) rfl ?_
        exact ⟨by unfold numC numT arV; rw [HS16.out, HPK.out]; rfl, by rw [HSZ.out]; exact HBE.out⟩
  · apply RgV.wp_region_var_at (n := 64) (hl := rfl) (z := .cells zeroDy.toArray 38) (hm := by kernel_rfl) (hB := by kernel_rfl) (hV := by kernel_rfl)
    case H =>
      intro W hW
      have bW : ∀ d os, Below w0.heap.size w0 (grow (redrawn W d) os) := fun d os => hW.trans ((below_regrown W d os).mono hW.size)
      have e0 : ∀ d os, (grow (redrawn W d) os).cell? ⟨Z, 0, none⟩ = some (.map (some M1)) := fun d os => (tag_cells (block_stay HG.out (bW d os))).1
      have e1 : ∀ d os, (grow (redrawn W d) os).cell? ⟨Z, 1, none⟩ = some (.map (some M2)) := fun d os => (tag_cells (block_stay HG.out (bW d os))).2.1
      have e2 : ∀ d os, (grow (redrawn W d) os).cell? ⟨Z, 2, none⟩ = some (.slice a n c) := fun d os => (tag_cells (block_stay HG.out (bW d os))).2.2
      have l30 : ∀ d os, (Instr.lookup 66 (.map (some M2)) (.int .u64 30) false).run Tryd.prog (grow (redrawn W d) os) = .ok (.int .u64 (lvT E 30 : Nat)) (grow (redrawn W d) os) := fun d os => (HT0.out.below (bW d os)).m2.choose_spec.get 30 (by decide)
      have l1879048187 : ∀ d os, (Instr.lookup 66 (.map (some M2)) (.int .u64 1879048187) false).run Tryd.prog (grow (redrawn W d) os) = .ok (.int .u64 (lvT E 1879048187 : Nat)) (grow (redrawn W d) os) := fun d os => (HT0.out.below (bW d os)).m2.choose_spec.get 1879048187 (by decide)
      have l6 : ∀ d os, (Instr.lookup 66 (.map (some M2)) (.int .u64 6) false).run Tryd.prog (grow (redrawn W d) os) = .ok (.int .u64 (lvT E 6 : Nat)) (grow (redrawn W d) os) := fun d os => (HT0.out.below (bW d os)).m2.choose_spec.get 6 (by decide)
      have l4 : ∀ d os, (Instr.lookup 66 (.map (some M2)) (.int .u64 4) false).run Tryd.prog (grow (redrawn W d) os) = .ok (.int .u64 (lvT E 4 : Nat)) (grow (redrawn W d) os) := fun d os => (HT0.out.below (bW d os)).m2.choose_spec.get 4 (by decide)
      have l1879047925 : ∀ d os, (Instr.lookup 66 (.map (some M2)) (.int .u64 1879047925) false).run Tryd.prog (grow (redrawn W d) os) = .ok (.int .u64 (lvT E 1879047925 : Nat)) (grow (redrawn W d) os) := fun d os => (HT0.out.below (bW d os)).m2.choose_spec.get 1879047925 (by decide)
      have l1879048176 : ∀ d os, (Instr.lookup 66 (.map (some M2)) (.int .u64 1879048176) false).run Tryd.prog (grow (redrawn W d) os) = .ok (.int .u64 (lvT E 1879048176 : Nat)) (grow (redrawn W d) os) := fun d os => (HT0.out.below (bW d os)).m2.choose_spec.get 1879048176 (by decide)
      have l1879048188 : ∀ d os, (Instr.lookup 66 (.map (some M2)) (.int .u64 1879048188) false).run Tryd.prog (grow (redrawn W d) os) = .ok (.int .u64 (lvT E 1879048188 : Nat)) (grow (redrawn W d) os) := fun d os => (HT0.out.below (bW d os)).m2.choose_spec.get 1879048188 (by decide)
      have l1879048189 : ∀ d os, (Instr.lookup 66 (.map (some M2)) (.int .u64 1879048189) false).run Tryd.prog (grow (redrawn W d) os) = .ok (.int .u64 (lvT E 1879048189 : Nat)) (grow (redrawn W d) os) := fun d os => (HT0.out.below (bW d os)).m2.choose_spec.get 1879048189 (by decide)
      have l1879048190 : ∀ d os, (Instr.lookup 66 (.map (some M2)) (.int .u64 1879048190) false).run Tryd.prog (grow (redrawn W d) os) = .ok (.int .u64 (lvT E 1879048190 : Nat)) (grow (redrawn W d) os) := fun d os => (HT0.out.below (bW d os)).m2.choose_spec.get 1879048190 (by decide)
      have l1879048191 : ∀ d os, (Instr.lookup 66 (.map (some M2)) (.int .u64 1879048191) false).run Tryd.prog (grow (redrawn W d) os) = .ok (.int .u64 (lvT E 1879048191 : Nat)) (grow (redrawn W d) os) := fun d os => (HT0.out.below (bW d os)).m2.choose_spec.get 1879048191 (by decide)
      have l20 : ∀ d os, (Instr.lookup 66 (.map (some M2)) (.int .u64 20) false).run Tryd.prog (grow (redrawn W d) os) = .ok (.int .u64 (lvT E 20 : Nat)) (grow (redrawn W d) os) := fun d os => (HT0.out.below (bW d os)).m2.choose_spec.get 20 (by decide)
      have HBW := hide bW
      clear bW
      simp only [List.take_succ_cons, List.take_zero]
      repeat (go_big_quiet_step (first | (with_reducible exact Calls.regrown_of (HK16.out _ (HBW.out _ _))) | (with_reducible exact Calls.regrown_of (HK5.out _ (HBW.out _ _))) | (with_reducible exact Calls.regrown_of (HK17.out _ (HBW.out _ _))) | (with_reducible exact Calls.regrown_of (HK7.out _ (HBW.out _ _))) | (with_reducible exact Calls.regrown_of (HK23.out _ (HBW.out _ _))) | (with_reducible exact Calls.regrown_of (HK36.out _ (HBW.out _ _))) | (with_reducible exact Calls.regrown_of (HK1610612751.out _ (HBW.out _ _))) | (with_reducible exact Calls.regrown_of (HK25.out _ (HBW.out _ _))) | (with_reducible exact Calls.regrown_of (HK26.out _ (HBW.out _ _)))))
      refine quiet_build rfl _ _ rfl (.agg #[.string ⟨#[]⟩, .string ⟨#[]⟩, .slice none 0 0, .bool true, .bool (bits .and .u64 (lvT E 1879048187 : Nat) 2 != 0), .bool (bits .and .u64 (lvT E 1879048187 : Nat) 8 != 0), .bool (hasT E 5), .int .u64 (lvT E 5 : Nat), .int .u64 (lvT E 10 : Nat), .int .u64 (lvT E 6 : Nat), .int .u64 (lvT E 4 : Nat), .int .u64 (lvT E 1879047925 : Nat), .int .u64 (lvT E 1879048176 : Nat), .int .u64 (lvT E 1879048188 : Nat), .int .u64 (lvT E 1879048190 : Nat), .int .u64 (lvT E 1879048189 : Nat), .int .u64 (lvT E 1879048191 : Nat), .bool (hasT E 17), .int .u64 (lvT E 17 : Nat), .int .u64 (lvT E 18 : Nat), .bool (hasT E 7), .int .u64 (lvT E 7 : Nat), .int .u64 (lvT E 8 : Nat), .bool (hasT E 23), .int .u64 (lvT E 23 : Nat), .int .u64 (lvT E 2 : Nat), .bool (hasT E 36), .int .u64 (lvT E 36 : Nat), .int .u64 (lvT E 35 : Nat), .bool (hasT E 1610612751), .int .u64 (lvT E 1610612751 : Nat), .int .u64 (lvT E 1610612752 : Nat), .bool ((lvT E 20 : Int) == 7), .bool false, .bool (hasT E 25), .int .u64 (lvT E 25 : Nat), .int .u64 (lvT E 27 : Nat), .bool (hasT E 26), .int .u64 (lvT E 26 : Nat), .int .u64 (lvT E 28 : Nat)]) ?_ (wpQuiet_nil rfl)
      intro w
      simp only [List.map_toArray, List.map_cons, List.map_nil]
      exact build_num w ..
    case hA =>
      intro a w K hk
      go_simp
      exact hk
    case hS =>
      intro w1 p hb1 hp hz
      refine store_wp rfl 38 (.tmp 3) (.tmp 67) rfl p 0 38 zeroDy.toArray _ [.string ⟨#[]⟩, .string ⟨#[]⟩, .slice none 0 0, .bool true, .bool (bits .and .u64 (lvT E 1879048187 : Nat) 2 != 0), .bool (bits .and .u64 (lvT E 1879048187 : Nat) 8 != 0), .bool (hasT E 5), .int .u64 (lvT E 5 : Nat), .int .u64 (lvT E 10 : Nat), .int .u64 (lvT E 6 : Nat), .int .u64 (lvT E 4 : Nat), .int .u64 (lvT E 1879047925 : Nat), .int .u64 (lvT E 1879048176 : Nat), .int .u64 (lvT E 1879048188 : Nat), .int .u64 (lvT E 1879048190 : Nat), .int .u64 (lvT E 1879048189 : Nat), .int .u64 (lvT E 1879048191 : Nat), .bool (hasT E 17), .int .u64 (lvT E 17 : Nat), .int .u64 (lvT E 18 : Nat), .bool (hasT E 7), .int .u64 (lvT E 7 : Nat), .int .u64 (lvT E 8 : Nat), .bool (hasT E 23), .int .u64 (lvT E 23 : Nat), .int .u64 (lvT E 2 : Nat), .bool (hasT E 36), .int .u64 (lvT E 36 : Nat), .int .u64 (lvT E 35 : Nat), .bool (hasT E 1610612751), .int .u64 (lvT E 1610612751 : Nat), .int .u64 (lvT E 1610612752 : Nat), .bool ((lvT E 20 : Int) == 7), .bool false, .bool (hasT E 25), .int .u64 (lvT E 25 : Nat), .int .u64 (lvT E 27 : Nat), .bool (hasT E 26), .int .u64 (lvT E 26 : Nat), .int .u64 (lvT E 28 : Nat)] #[.string ⟨#[]⟩, .string ⟨#[]⟩, .slice none 0 0, .bool true, .bool (bits .and .u64 (lvT E 1879048187 : Nat) 2 != 0), .bool (bits .and .u64 (lvT E 1879048187 : Nat) 8 != 0), .bool (hasT E 5), .int .u64 (lvT E 5 : Nat), .int .u64 (lvT E 10 : Nat), .int .u64 (lvT E 6 : Nat), .int .u64 (lvT E 4 : Nat), .int .u64 (lvT E 1879047925 : Nat), .int .u64 (lvT E 1879048176 : Nat), .int .u64 (lvT E 1879048188 : Nat), .int .u64 (lvT E 1879048190 : Nat), .int .u64 (lvT E 1879048189 : Nat), .int .u64 (lvT E 1879048191 : Nat), .bool (hasT E 17), .int .u64 (lvT E 17 : Nat), .int .u64 (lvT E 18 : Nat), .bool (hasT E 7), .int .u64 (lvT E 7 : Nat), .int .u64 (lvT E 8 : Nat), .bool (hasT E 23), .int .u64 (lvT E 23 : Nat), .int .u64 (lvT E 2 : Nat), .bool (hasT E 36), .int .u64 (lvT E 36 : Nat), .int .u64 (lvT E 35 : Nat), .bool (hasT E 1610612751), .int .u64 (lvT E 1610612751 : Nat), .int .u64 (lvT E 1610612752 : Nat), .bool ((lvT E 20 : Int) == 7), .bool false, .bool (hasT E 25), .int .u64 (lvT E 25 : Nat), .int .u64 (lvT E 27 : Nat), .bool (hasT E 26), .int .u64 (lvT E 26 : Nat), .int .u64 (lvT E 28 : Nat)] hz rfl rfl rfl dy_size (one_all _ rfl) (Nat.le_refl 40) rfl ?_
      intro w5 h5 g5
      have hb5 : Below w0.heap.size w0 w5 := ⟨g5.os.trans hb1.os, g5.tape.trans hb1.tape, g5.output.trans hb1.output, Nat.le_trans hb1.size g5.size, fun k hk => (g5.block k (Nat.lt_of_lt_of_le hk hb1.size) (fun e => by injection e with e; omega)).trans (hb1.block k hk)⟩
      have HB5 := hide hb5
      obtain ⟨e0, e1, e2⟩ := tag_cells (block_stay HG.out hb5)
      have hK := dyn_has w5 M1 M2 a n c E (HT0.out.below hb5) 1610612753 (by decide)
      have H5 := hide h5
      have HP := hide hp
      obtain ⟨pk, hpk⟩ : ∃ b, hasT E 1610612753 = b := ⟨_, rfl⟩
      rw [hpk] at hK
      have HPK := hide hpk
      clear hpk hb5 h5 g5 hz hb1 hp
      go_wp2_with fail
      refine hK.mono ?_
      rintro e w6 ⟨rfl, hb6⟩
      have HB6 := hide (HB5.out.trans (hb6.mono HB5.out.size))
      have H6 := hide (block_stay H5.out hb6)
      clear hK hb6 e0 e1 e2 H5 HB5
      cases pk with
      | false =>
        have HR6 := hide (block_stay HR.out HB6.out)
        go_wp2_with (first
          | ((with_reducible refine at_loadD ?_); refine load_row rfl _ _ rfl p _ (load_dy H6.out rfl) rfl ?_)
          | ((with_reducible refine at_storeD ?_); refine store_part rfl _ _ _ rfl (Z + 1) 0 _ _ [.string ⟨#[]⟩, .string ⟨#[]⟩, .slice none 0 0, .bool true, .bool (bits .and .u64 (lvT E 1879048187 : Nat) 2 != 0), .bool (bits .and .u64 (lvT E 1879048187 : Nat) 8 != 0), .bool (hasT E 5), .int .u64 (lvT E 5 : Nat), .int .u64 (lvT E 10 : Nat), .int .u64 (lvT E 6 : Nat), .int .u64 (lvT E 4 : Nat), .int .u64 (lvT E 1879047925 : Nat), .int .u64 (lvT E 1879048176 : Nat), .int .u64 (lvT E 1879048188 : Nat), .int .u64 (lvT E 1879048190 : Nat), .int .u64 (lvT E 1879048189 : Nat), .int .u64 (lvT E 1879048191 : Nat), .bool (hasT E 17), .int .u64 (lvT E 17 : Nat), .int .u64 (lvT E 18 : Nat), .bool (hasT E 7), .int .u64 (lvT E 7 : Nat), .int .u64 (lvT E 8 : Nat), .bool (hasT E 23), .int .u64 (lvT E 23 : Nat), .int .u64 (lvT E 2 : Nat), .bool (hasT E 36), .int .u64 (lvT E 36 : Nat), .int .u64 (lvT E 35 : Nat), .bool (hasT E 1610612751), .int .u64 (lvT E 1610612751 : Nat), .int .u64 (lvT E 1610612752 : Nat), .bool ((lvT E 20 : Int) == 7), .bool false, .bool (hasT E 25), .int .u64 (lvT E 25 : Nat), .int .u64 (lvT E 27 : Nat), .bool (hasT E 26), .int .u64 (lvT E 26 : Nat), .int .u64 (lvT E 28 : Nat)] #[.string ⟨#[]⟩, .string ⟨#[]⟩, .slice none 0 0, .bool true, .bool (bits .and .u64 (lvT E 1879048187 : Nat) 2 != 0), .bool (bits .and .u64 (lvT E 1879048187 : Nat) 8 != 0), .bool (hasT E 5), .int .u64 (lvT E 5 : Nat), .int .u64 (lvT E 10 : Nat), .int .u64 (lvT E 6 : Nat), .int .u64 (lvT E 4 : Nat), .int .u64 (lvT E 1879047925 : Nat), .int .u64 (lvT E 1879048176 : Nat), .int .u64 (lvT E 1879048188 : Nat), .int .u64 (lvT E 1879048190 : Nat), .int .u64 (lvT E 1879048189 : Nat), .int .u64 (lvT E 1879048191 : Nat), .bool (hasT E 17), .int .u64 (lvT E 17 : Nat), .int .u64 (lvT E 18 : Nat), .bool (hasT E 7), .int .u64 (lvT E 7 : Nat), .int .u64 (lvT E 8 : Nat), .bool (hasT E 23), .int .u64 (lvT E 23 : Nat), .int .u64 (lvT E 2 : Nat), .bool (hasT E 36), .int .u64 (lvT E 36 : Nat), .int .u64 (lvT E 35 : Nat), .bool (hasT E 1610612751), .int .u64 (lvT E 1610612751 : Nat), .int .u64 (lvT E 1610612752 : Nat), .bool ((lvT E 20 : Int) == 7), .bool false, .bool (hasT E 25), .int .u64 (lvT E 25 : Nat), .int .u64 (lvT E 27 : Nat), .bool (hasT E 26), .int .u64 (lvT E 26 : Nat), .int .u64 (lvT E 28 : Nat)] HR6.out rfl rfl dy_size (one_all _ rfl) (Nat.le_refl 40) rfl ?_; intro w8 h8 g8; have H8 := hide h8; have G8 := hide g8; clear h8 g8))
        have HBE : Hid (Below Z w w8) := by
          have b := HB.out.trans (HB6.out.mono (by have := HB.out.size; have := HSZ.out; omega))
          exact b.grown G8.out (by have := b.size; have := HSZ.out; omega) (fun k e => by injection e with e; omega)
        refine bodyPost_ret (results_cell1 rfl _ _ (Z + 1) _ _ _ _ rfl H8.out Tryd.underlying38 rfl (by kernel_rfl)) rfl ?_
        exact ⟨by rw [numC, numT, HS16.out, HPK.out]; rfl, by rw [HSZ.out]; exact HBE.out⟩
      | true =>
        obtain ⟨e0, e1, e2⟩ := tag_cells (block_stay HG.out HB6.out)
        have hA2 := dyn_area w6 M1 M2 a n c E (HT0.out.below HB6.out) 1610612753 1610612754 (by decide) (by decide)
        have hA3 : Calls Tryd.prog 44 #[.agg #[.map (some M1), .map (some M2), .slice a n c], .int .u64 1610612753, .int .u64 1610612754] w6 fun e w' => e = .returned (.agg #[.bool true, .int .u64 (lvT E 1610612753 : Nat), .int .u64 (lvT E 1610612754 : Nat)]) ∧ Below w6.heap.size w6 w' := by
          unfold arV at hA2
          rw [HPK.out] at hA2
          exact hA2
        clear hA2
        go_wp2_with fail
        refine hA3.mono ?_
        rintro e w7 ⟨rfl, hb7⟩
        have HB7 := hide (HB6.out.trans (hb7.mono HB6.out.size))
        have H7 := hide (block_stay H6.out hb7)
        clear hA3 hb7 e0 e1 e2 H6 HB6
        go_wp2_with (first
          | ((with_reducible refine at_storeA ?_); refine store_part rfl _ _ _ rfl p 29 _ _ [.bool true, .int .u64 (lvT E 1610612753 : Nat), .int .u64 (lvT E 1610612754 : Nat)] #[.string ⟨#[]⟩, .string ⟨#[]⟩, .slice none 0 0, .bool true, .bool (bits .and .u64 (lvT E 1879048187 : Nat) 2 != 0), .bool (bits .and .u64 (lvT E 1879048187 : Nat) 8 != 0), .bool (hasT E 5), .int .u64 (lvT E 5 : Nat), .int .u64 (lvT E 10 : Nat), .int .u64 (lvT E 6 : Nat), .int .u64 (lvT E 4 : Nat), .int .u64 (lvT E 1879047925 : Nat), .int .u64 (lvT E 1879048176 : Nat), .int .u64 (lvT E 1879048188 : Nat), .int .u64 (lvT E 1879048190 : Nat), .int .u64 (lvT E 1879048189 : Nat), .int .u64 (lvT E 1879048191 : Nat), .bool (hasT E 17), .int .u64 (lvT E 17 : Nat), .int .u64 (lvT E 18 : Nat), .bool (hasT E 7), .int .u64 (lvT E 7 : Nat), .int .u64 (lvT E 8 : Nat), .bool (hasT E 23), .int .u64 (lvT E 23 : Nat), .int .u64 (lvT E 2 : Nat), .bool (hasT E 36), .int .u64 (lvT E 36 : Nat), .int .u64 (lvT E 35 : Nat), .bool true, .int .u64 (lvT E 1610612753 : Nat), .int .u64 (lvT E 1610612754 : Nat), .bool ((lvT E 20 : Int) == 7), .bool false, .bool (hasT E 25), .int .u64 (lvT E 25 : Nat), .int .u64 (lvT E 27 : Nat), .bool (hasT E 26), .int .u64 (lvT E 26 : Nat), .int .u64 (lvT E 28 : Nat)] H7.out rfl rfl ar_size (one_all _ rfl) (by decide : 29 + 3 ≤ 40) rfl ?_; intro w8 h8 g8; have d33 := cells_of_block h8 33 (.bool false) rfl; have f33 := frozen_of_block h8 33; have H9 : Hid ((w8.setCell ⟨p, 33, none⟩ (.bool true)).heap[p]? = some (.cells #[.string ⟨#[]⟩, .string ⟨#[]⟩, .slice none 0 0, .bool true, .bool (bits .and .u64 (lvT E 1879048187 : Nat) 2 != 0), .bool (bits .and .u64 (lvT E 1879048187 : Nat) 8 != 0), .bool (hasT E 5), .int .u64 (lvT E 5 : Nat), .int .u64 (lvT E 10 : Nat), .int .u64 (lvT E 6 : Nat), .int .u64 (lvT E 4 : Nat), .int .u64 (lvT E 1879047925 : Nat), .int .u64 (lvT E 1879048176 : Nat), .int .u64 (lvT E 1879048188 : Nat), .int .u64 (lvT E 1879048190 : Nat), .int .u64 (lvT E 1879048189 : Nat), .int .u64 (lvT E 1879048191 : Nat), .bool (hasT E 17), .int .u64 (lvT E 17 : Nat), .int .u64 (lvT E 18 : Nat), .bool (hasT E 7), .int .u64 (lvT E 7 : Nat), .int .u64 (lvT E 8 : Nat), .bool (hasT E 23), .int .u64 (lvT E 23 : Nat), .int .u64 (lvT E 2 : Nat), .bool (hasT E 36), .int .u64 (lvT E 36 : Nat), .int .u64 (lvT E 35 : Nat), .bool true, .int .u64 (lvT E 1610612753 : Nat), .int .u64 (lvT E 1610612754 : Nat), .bool ((lvT E 20 : Int) == 7), .bool true, .bool (hasT E 25), .int .u64 (lvT E 25 : Nat), .int .u64 (lvT E 27 : Nat), .bool (hasT E 26), .int .u64 (lvT E 26 : Nat), .int .u64 (lvT E 28 : Nat)] 38 (0, 0))) := heap_setCell_at _ p 33 _ _ _ _ h8; have hb8 := HB7.out.grown g8 HB7.out.size (fun k e => by injection e with e; have := HP.out; omega); have HB9 := hide (hb8.setCell (p := ⟨p, 33, none⟩) HP.out (.bool true)); have HR9 := hide (block_stay HR.out HB9.out); clear h8 g8 hb8)
          | ((with_reducible refine at_loadD ?_); refine load_row rfl _ _ rfl p _ (load_dy H9.out rfl) rfl ?_)
          | ((with_reducible refine at_storeD ?_); refine store_part rfl _ _ _ rfl (Z + 1) 0 _ _ [.string ⟨#[]⟩, .string ⟨#[]⟩, .slice none 0 0, .bool true, .bool (bits .and .u64 (lvT E 1879048187 : Nat) 2 != 0), .bool (bits .and .u64 (lvT E 1879048187 : Nat) 8 != 0), .bool (hasT E 5), .int .u64 (lvT E 5 : Nat), .int .u64 (lvT E 10 : Nat), .int .u64 (lvT E 6 : Nat), .int .u64 (lvT E 4 : Nat), .int .u64 (lvT E 1879047925 : Nat), .int .u64 (lvT E 1879048176 : Nat), .int .u64 (lvT E 1879048188 : Nat), .int .u64 (lvT E 1879048190 : Nat), .int .u64 (lvT E 1879048189 : Nat), .int .u64 (lvT E 1879048191 : Nat), .bool (hasT E 17), .int .u64 (lvT E 17 : Nat), .int .u64 (lvT E 18 : Nat), .bool (hasT E 7), .int .u64 (lvT E 7 : Nat), .int .u64 (lvT E 8 : Nat), .bool (hasT E 23), .int .u64 (lvT E 23 : Nat), .int .u64 (lvT E 2 : Nat), .bool (hasT E 36), .int .u64 (lvT E 36 : Nat), .int .u64 (lvT E 35 : Nat), .bool true, .int .u64 (lvT E 1610612753 : Nat), .int .u64 (lvT E 1610612754 : Nat), .bool ((lvT E 20 : Int) == 7), .bool true, .bool (hasT E 25), .int .u64 (lvT E 25 : Nat), .int .u64 (lvT E 27 : Nat), .bool (hasT E 26), .int .u64 (lvT E 26 : Nat), .int .u64 (lvT E 28 : Nat)] #[.string ⟨#[]⟩, .string ⟨#[]⟩, .slice none 0 0, .bool true, .bool (bits .and .u64 (lvT E 1879048187 : Nat) 2 != 0), .bool (bits .and .u64 (lvT E 1879048187 : Nat) 8 != 0), .bool (hasT E 5), .int .u64 (lvT E 5 : Nat), .int .u64 (lvT E 10 : Nat), .int .u64 (lvT E 6 : Nat), .int .u64 (lvT E 4 : Nat), .int .u64 (lvT E 1879047925 : Nat), .int .u64 (lvT E 1879048176 : Nat), .int .u64 (lvT E 1879048188 : Nat), .int .u64 (lvT E 1879048190 : Nat), .int .u64 (lvT E 1879048189 : Nat), .int .u64 (lvT E 1879048191 : Nat), .bool (hasT E 17), .int .u64 (lvT E 17 : Nat), .int .u64 (lvT E 18 : Nat), .bool (hasT E 7), .int .u64 (lvT E 7 : Nat), .int .u64 (lvT E 8 : Nat), .bool (hasT E 23), .int .u64 (lvT E 23 : Nat), .int .u64 (lvT E 2 : Nat), .bool (hasT E 36), .int .u64 (lvT E 36 : Nat), .int .u64 (lvT E 35 : Nat), .bool true, .int .u64 (lvT E 1610612753 : Nat), .int .u64 (lvT E 1610612754 : Nat), .bool ((lvT E 20 : Int) == 7), .bool true, .bool (hasT E 25), .int .u64 (lvT E 25 : Nat), .int .u64 (lvT E 27 : Nat), .bool (hasT E 26), .int .u64 (lvT E 26 : Nat), .int .u64 (lvT E 28 : Nat)] HR9.out rfl rfl dy_size (one_all _ rfl) (Nat.le_refl 40) rfl ?_; intro w10 h10 g10; have H10 := hide h10; have G10 := hide g10; clear h10 g10))
        have HBE : Hid (Below Z w w10) := by
          have b := HB.out.trans (HB9.out.mono (by have := HB.out.size; have := HSZ.out; omega))
          exact b.grown G10.out (by have := b.size; have := HSZ.out; omega) (fun k e => by injection e with e; omega)
        refine bodyPost_ret (results_cell1 rfl _ _ (Z + 1) _ _ _ _ rfl H10.out Tryd.underlying38 rfl (by kernel_rfl)) rfl ?_
        exact ⟨by unfold numC numT arV; rw [HS16.out, HPK.out]; rfl, by rw [HSZ.out]; exact HBE.out⟩
end Go.Proofs.YtibfiikjelmhmaaDoor
namespace Go.Proofs.YtibfiikjelmhmaaDoor
open Go.RowKit Go.PlainAid Go.Sort
theorem bit_is (n i : Nat) (hi : 2 ^ i < 18446744073709551616) (hn : n < 18446744073709551616) : (bits .and .u64 (n : Nat) ((2 ^ i : Nat) : Int) != 0) = bitB n (2 ^ i) := by
  have e : bits .and .u64 (n : Nat) ((2 ^ i : Nat) : Int) = ((n &&& 2 ^ i : Nat) : Int) := by
    show IntKind.u64.wrap ((BitVec.ofInt 64 (n : Int) &&& BitVec.ofInt 64 ((2 ^ i : Nat) : Int)).toNat : Int) = _
    have h1 : (BitVec.ofInt 64 (n : Int)).toNat = n := by
      rw [BitVec.ofInt_natCast, BitVec.toNat_ofNat]; exact Nat.mod_eq_of_lt (by omega)
    have h2 : (BitVec.ofInt 64 ((2 ^ i : Nat) : Int)).toNat = 2 ^ i := by
      rw [BitVec.ofInt_natCast, BitVec.toNat_ofNat]; exact Nat.mod_eq_of_lt hi
    have h3 : n &&& 2 ^ i ≤ n := Nat.and_le_left
    rw [BitVec.toNat_and, h1, h2, IntKind.wrap_u64]
    omega
  rw [e]
  unfold bitB
  have t := Nat.testBit_eq_decide_div_mod_eq (x := n) (i := i)
  by_cases c : n / 2 ^ i % 2 = 1
  · rw [decide_eq_true c] at t ⊢
    have h : (n &&& 2 ^ i).testBit i = true := by rw [Nat.testBit_and, t, Nat.testBit_two_pow_self]; rfl
    have hne : n &&& 2 ^ i ≠ 0 := fun h0 => by rw [h0, Nat.zero_testBit] at h; cases h
    rw [bne_iff_ne]
    omega
  · rw [decide_eq_false c] at t ⊢
    have h : n &&& 2 ^ i = 0 := by
      apply Nat.eq_of_testBit_eq
      intro j
      rw [Nat.testBit_and, Nat.zero_testBit]
      by_cases hj : i = j
      · subst hj; rw [t]; rfl
      · rw [Nat.testBit_two_pow, decide_eq_false hj, Bool.and_false]
    rw [h]
    rfl
theorem bit2 (n : Nat) (hn : n < 18446744073709551616) : (bits .and .u64 (n : Nat) 2 != 0) = bitB n 2 := bit_is n 1 (by decide) hn
theorem bit8 (n : Nat) (hn : n < 18446744073709551616) : (bits .and .u64 (n : Nat) 8 != 0) = bitB n 8 := bit_is n 3 (by decide) hn
theorem right_single {E : List De} (h : rightB E = true) : ∀ t ∈ singlesL, cntT E t ≤ 1 := by
  unfold rightB at h
  simp only [Bool.and_eq_true, List.all_eq_true] at h
  intro t ht
  have := h.1 t ht
  unfold sP at this
  simpa using this
theorem val_lt : ∀ (E : List De) (t : Nat), (∀ e ∈ E, e.ok) → valT E t < 18446744073709551616
  | [], t, _ => by simp [valT]
  | e :: r, t, h => by
    have h1 := h e (by simp)
    have h2 := val_lt r t (fun x hx => h x (by simp [hx]))
    unfold valT
    have h3 := h1.val
    split <;> omega
theorem lv_lt (E : List De) (t : Nat) (h : ∀ e ∈ E, e.ok) : lvT E t < 18446744073709551616 := by
  unfold lvT
  split
  · exact val_lt E.reverse t (fun e he => h e (by simpa using he))
  · omega
theorem has_is {E : List De} {t : Nat} (ht : t ∈ knownL) (h1 : cntT E t ≤ 1) : hasT E t = decide (cntT E t = 1) := by
  unfold hasT
  rw [oft_is ht]
  by_cases c : cntT E t = 1
  · simp [c]
  · have : cntT E t = 0 := by omega
    simp [this]
theorem numT_is {E : List De} (hok : ∀ e ∈ E, e.ok) (h : rightB E = true) : numT E = dyTail E := by
  have hs := right_single h
  have A : ∀ t u, t ∈ knownL → u ∈ knownL → t ∈ singlesL → u ∈ singlesL → arV E t u = areaC E t u := fun t u k1 k2 s1 s2 => arV_is k1 k2 (hs t s1) (hs u s2)
  have V : ∀ t, t ∈ knownL → t ∈ singlesL → lvT E t = valT E t := fun t k s => lv_is k (hs t s)
  have H : ∀ t, t ∈ knownL → t ∈ singlesL → hasT E t = decide (cntT E t = 1) := fun t k s => has_is k (hs t s)
  have e7 : ((valT E 20 : Int) == 7) = decide (valT E 20 = 7) := by
    by_cases c : valT E 20 = 7
    · simp [c]
    · rw [decide_eq_false c, beq_eq_false_iff_ne]; omega
  unfold numT dyTail packB
  rw [bit2 _ (lv_lt E 30 hok), bit2 _ (lv_lt E 1879048187 hok), bit8 _ (lv_lt E 1879048187 hok)]
  rw [V 30 (by decide) (by decide), V 1879048187 (by decide) (by decide), V 6 (by decide) (by decide), V 4 (by decide) (by decide), V 1879047925 (by decide) (by decide), V 1879048176 (by decide) (by decide), V 1879048188 (by decide) (by decide), V 1879048190 (by decide) (by decide), V 1879048189 (by decide) (by decide), V 1879048191 (by decide) (by decide), V 20 (by decide) (by decide)]
  rw [A 5 10 (by decide) (by decide) (by decide) (by decide), A 17 18 (by decide) (by decide) (by decide) (by decide), A 7 8 (by decide) (by decide) (by decide) (by decide), A 23 2 (by decide) (by decide) (by decide) (by decide), A 36 35 (by decide) (by decide) (by decide) (by decide), A 25 27 (by decide) (by decide) (by decide) (by decide), A 26 28 (by decide) (by decide) (by decide) (by decide), A 1610612753 1610612754 (by decide) (by decide) (by decide) (by decide), A 1610612751 1610612752 (by decide) (by decide) (by decide) (by decide)]
  rw [H 16 (by decide) (by decide), H 1610612753 (by decide) (by decide), e7]
end Go.Proofs.YtibfiikjelmhmaaDoor
namespace Go.Proofs.YtibfiikjelmhmaaDoor
open Go.RowKit Go.PlainAid Go.Sort
theorem tail_len (E : List De) : (dyTail E).length = 37 := by
  unfold dyTail areaC
  cases packB E <;> rfl
theorem tail_one (E : List De) : ∀ v ∈ dyTail E, v.oneCell' = true := by
  unfold dyTail areaC
  cases packB E <;> exact one_all _ rfl
theorem three_one {rs : List Value} (h : ∀ v ∈ rs, v.oneCell' = true) : ∀ v ∈ (Value.string ⟨#[]⟩ :: .string ⟨#[]⟩ :: .slice none 0 0 :: rs), v.oneCell' = true := by
  intro v hv
  simp only [List.mem_cons] at hv
  rcases hv with rfl | rfl | rfl | hv
  · rfl
  · rfl
  · rfl
  · exact h v hv
theorem three_new {rs : List Value} (h : rs.length = 37) : (zeroDy.toArray.toList.take 0 ++ (Value.string ⟨#[]⟩ :: .string ⟨#[]⟩ :: .slice none 0 0 :: rs) ++ zeroDy.toArray.toList.drop (0 + (Value.string ⟨#[]⟩ :: .string ⟨#[]⟩ :: .slice none 0 0 :: rs).length)).toArray = (Value.string ⟨#[]⟩ :: .string ⟨#[]⟩ :: .slice none 0 0 :: rs).toArray := by
  have e : (Value.string ⟨#[]⟩ :: .string ⟨#[]⟩ :: .slice none 0 0 :: rs).length = 40 := by simp [h]
  rw [e, List.drop_of_length_le (by simp [zero_len])]
  simp
theorem needs_lt {E : List De} (h : ∀ e ∈ E, e.ok) : ∀ p ∈ needs E, (p : Int) ≤ 18446744073709551615 := by
  intro p hp
  unfold needs at hp
  simp only [List.mem_map, List.mem_filter] at hp
  obtain ⟨e, ⟨he, _⟩, rfl⟩ := hp
  have := (h e he).val
  omega
theorem gen_one {x0 x1 x2 : Value} {rs : List Value} (h0 : x0.oneCell' = true) (h1 : x1.oneCell' = true) (h2 : x2.oneCell' = true) (h : ∀ v ∈ rs, v.oneCell' = true) : ∀ v ∈ (x0 :: x1 :: x2 :: rs), v.oneCell' = true := by
  intro v hv
  simp only [List.mem_cons] at hv
  rcases hv with rfl | rfl | rfl | hv
  · exact h0
  · exact h1
  · exact h2
  · exact h v hv
theorem gen_new {x0 x1 x2 : Value} {rs : List Value} (h : rs.length = 37) : (zeroDy.toArray.toList.take 0 ++ (x0 :: x1 :: x2 :: rs) ++ zeroDy.toArray.toList.drop (0 + (x0 :: x1 :: x2 :: rs).length)).toArray = (x0 :: x1 :: x2 :: rs).toArray := by
  have e : (x0 :: x1 :: x2 :: rs).length = 40 := by simp [h]
  rw [e, List.drop_of_length_le (by simp [zero_len])]
  simp
theorem OwnT.grownB {w w' : World} {B k : Nat} {v : Value} {l : List (List UInt8)} (h : OwnT w B v l) (g : w.grownBy w' (some k)) (hk : k < B) : OwnT w' B v l := by
  unfold OwnT at h ⊢
  refine ⟨h.1, ?_⟩
  rcases h.2 with hn | ⟨q, cap, cur, e, hB, hg, rs⟩
  · exact .inl hn
  · refine .inr ⟨q, cap, cur, e, hB, ?_, rs⟩
    rw [g.block q (Array.getElem?_eq_some_iff.1 hg).1 (fun e => by injection e with e; omega)]; exact hg
theorem needL_err {s : List UInt8} : ∀ {E : List De} {k : Nat}, needL s E = .error k → k = 91 ∨ k = 92
  | [], k, h => by simp [needL] at h
  | e :: r, k, h => by
    unfold needL at h
    split at h
    · split at h
      · injection h with h; exact .inl h.symm
      · split at h
        · injection h with h; exact .inr h.symm
        · cases hn : needL s r with
          | error q => rw [hn] at h; injection h with h; subst h; exact needL_err hn
          | ok q => rw [hn] at h; cases h
    · exact needL_err h
def nmM : Option (List UInt8) → List UInt8 × Int
  | none => ([], 91)
  | some x => (x, 0)
theorem nmV_m {s : List UInt8} {E : List De} {t : Nat} (hk : t ∈ knownL) (h1 : cntT E t ≤ 1) : nmV s E t = nmM (nameT s E t) := by
  rw [nmV_is hk h1]
  cases nameT s E t <;> rfl
/-- How the names come out. -/
theorem fin_is {w9 : World} {B D : Nat} {S : List UInt8} {E : List De} {rs : List Value} {rr : Int} {O : Except Nat Dd}
    (hN : ((nmM (nameT S E 14)).2 ≠ 0 ∧ rr = (nmM (nameT S E 14)).2) ∨
      ((nmM (nameT S E 14)).2 = 0 ∧ (nmM (nameT S E 29)).2 ≠ 0 ∧ rr = (nmM (nameT S E 29)).2) ∨
      ((nmM (nameT S E 14)).2 = 0 ∧ (nmM (nameT S E 29)).2 = 0 ∧ ∃ X, (if 16 < cntT E 1 then .error 92 else needL S E) = X ∧
        match X with
        | .error k => rr = (k : Nat)
        | .ok L => rr = 0 ∧ ∃ v3, w9.heap[D]? = some (.cells (.string (txb (nmM (nameT S E 14)).1) :: .string (txb (nmM (nameT S E 29)).1) :: v3 :: rs).toArray 38 (0, 0)) ∧ OwnT w9 B v3 L))
    (hO : (match nameT S E 14 with
      | none => Except.error 91
      | some so => match nameT S E 29 with
        | none => Except.error 91
        | some ru => if 16 < cntT E 1 then Except.error 92 else
          match needL S E with
          | .error n => Except.error n
          | .ok ns => Except.ok ⟨E, so, ru, ns⟩) = O) :
    (rr = 91 ∧ Except.error 91 = O) ∨ (rr = 92 ∧ Except.error 92 = O) ∨ (rr = 0 ∧ ∃ so ru L v3, Except.ok ⟨E, so, ru, L⟩ = O ∧ w9.heap[D]? = some (.cells (.string (txb so) :: .string (txb ru) :: v3 :: rs).toArray 38 (0, 0)) ∧ OwnT w9 B v3 L) := by
  cases h14 : nameT S E 14 with
  | none =>
    rw [h14] at hN hO
    rcases hN with ⟨_, e⟩ | ⟨e, _⟩ | ⟨e, _⟩
    · exact .inl ⟨e, hO⟩
    · exact absurd e (by decide)
    · exact absurd e (by decide)
  | some so =>
    rw [h14] at hN hO
    cases h29 : nameT S E 29 with
    | none =>
      rw [h29] at hN
      simp only [h29] at hO
      rcases hN with ⟨e, _⟩ | ⟨_, _, e⟩ | ⟨_, e, _⟩
      · exact absurd rfl e
      · exact .inl ⟨e, hO⟩
      · exact absurd e (by decide)
    | some ru =>
      rw [h29] at hN
      simp only [h29] at hO
      rcases hN with ⟨e, _⟩ | ⟨_, e, _⟩ | ⟨_, _, X, hX, hm⟩
      · exact absurd rfl e
      · exact absurd rfl e
      · by_cases c : 16 < cntT E 1
        · rw [if_pos c] at hX hO
          subst hX
          exact .inr (.inl ⟨hm, hO⟩)
        · rw [if_neg c] at hX hO
          cases hn : needL S E with
          | error k =>
            rw [hn] at hX hO
            subst hX
            rcases needL_err hn with rfl | rfl
            · exact .inl ⟨hm, hO⟩
            · exact .inr (.inl ⟨hm, hO⟩)
          | ok L =>
            rw [hn] at hX hO
            subst hX
            obtain ⟨h0, v3, hh, ho⟩ := hm
            exact .inr (.inr ⟨h0, so, ru, L, v3, hO, hh, ho⟩)
theorem tag_zero (w : World) : (w.alloc (.cells #[.map none, .map none, .slice none 0 0] 69)).heap[w.heap.size]? = some (.cells #[.map none, .map none, .slice none 0 0] 69 (0, 0)) := (MapKept.heap_alloc w _).1
set_option maxHeartbeats 4000000 in
set_option maxRecDepth 20000 in
theorem dyn_Parse (w : World) (b : Value) (l : List UInt8) (hb : Arg w b l) (hl : l.length ≤ 1000000) (h : Hd) (v : Value) (ha : ArgH w v h.loads) (ok : ∀ p ∈ h.loads, p.ok) (sm : ∀ p ∈ h.loads, p.off + p.filesz ≤ 1000000) (hdo : h.dynamic.ok) (hpr : PairsAt w) :
    Calls Tryd.prog 7 #[b, .agg (hdCells h.machine v h.dynamic h.relro).toArray] w fun e w' => DynIs w' w.heap.size (dynZ l h) e ∧ Below w.heap.size w w' := by
  obtain ⟨O, hO⟩ : ∃ O, dynZ l h = O := ⟨_, rfl⟩
  rw [hO]
  unfold dynZ at hO
  obtain ⟨m, ps, ⟨dt, df, dof, dva, dfs, dms, dal⟩, r⟩ := h
  have hva := hdo.vaddr
  have hfs := hdo.filesz
  simp only at hO ha ok sm hva hfs ⊢
  have HB0 : Hid (Below w.heap.size w ((w.alloc (.cells (hdCells m v ⟨dt, df, dof, dva, dfs, dms, dal⟩ r).toArray 30)).alloc (.cells zeroDy.toArray 38))) := ((Below.refl _ w).alloc (Nat.le_refl _) _).alloc (by simp) _
  have HG0 : Hid (((w.alloc (.cells (hdCells m v ⟨dt, df, dof, dva, dfs, dms, dal⟩ r).toArray 30)).alloc (.cells zeroDy.toArray 38)).heap[w.heap.size]? = some (.cells (hdCells m v ⟨dt, df, dof, dva, dfs, dms, dal⟩ r).toArray 30 (0, 0))) := by
    rw [Hid, heap_alloc_old _ _ (by simp)]; exact heap_alloc_new _ _
  have hs1 : (w.alloc (.cells (hdCells m v ⟨dt, df, dof, dva, dfs, dms, dal⟩ r).toArray 30)).heap.size = w.heap.size + 1 := by simp
  have HR0 : Hid (((w.alloc (.cells (hdCells m v ⟨dt, df, dof, dva, dfs, dms, dal⟩ r).toArray 30)).alloc (.cells zeroDy.toArray 38)).heap[w.heap.size + 1]? = some (.cells zeroDy.toArray 38 (0, 0))) := by
    rw [Hid, ← hs1]; exact heap_alloc_new _ _
  have c5 := cells_of_block HG0.out 5 (.int .u64 dva) rfl
  have c6 := cells_of_block HG0.out 6 (.int .u64 dfs) rfl
  have HST := hide (fun W (hB : Below w.heap.size w W) cs hz x s h7 h8 hx hs => dyn_Strings W b l (hb.below' hB) m v ⟨dt, df, dof, dva, dfs, dms, dal⟩ r ps (ha.below hB) ok sm cs hz x s h7 h8 hx hs)
  have HPT := hide (fun W (hB : Below w.heap.size w W) => head_Part W b l (hb.below' hB) m v ⟨dt, df, dof, dva, dfs, dms, dal⟩ r ps (ha.below hB) ok dva dfs (by omega) (by omega))
  have hP := HPT.out _ HB0.out
  have hxl := part_len l ps dva dfs
  have HSL := hide (fun x s => Nat.le_trans (part_len l ps x s) hl)
  have HPR := hide (fun W (hB : Below w.heap.size w W) => hpr.below hB)
  obtain ⟨⟨X, xb⟩, hX⟩ : ∃ X, partZ l ps dva dfs = X := ⟨_, rfl⟩
  simp only [hX] at hP hO hxl
  obtain ⟨a, cap, rfl, _⟩ := hb.isSlice
  have HO := hide hO
  clear hb ha ok sm hdo HPT hX hO hs1 hpr
  simp only [hdCells, zeroDy, zeroAr, List.replicate, List.cons_append, List.nil_append] at HB0 HG0 HR0 hP c5 c6 HST ⊢
  go_enter Tryd.func7, Tryd.ntmps7
  go_wp2_with ((with_reducible refine at_load ?_); refine load_row rfl _ _ rfl w.heap.size _ (load_hd HG0.out rfl) rfl ?_)
  refine hP.mono ?_
  rintro e w1 ⟨⟨vx, rfl, own1⟩, hb1⟩
  have HB1 : Hid (Below w.heap.size w w1) := HB0.out.trans (hb1.mono HB0.out.size)
  have HR1 := hide (block_stay HR0.out hb1)
  have HG1 := hide (block_stay HG0.out hb1)
  have HX1 := hide (own1.arg (by omega))
  have HL1 : Hid (w.heap.size + 1 < w1.heap.size) := Nat.lt_of_lt_of_le (by simp) hb1.size
  clear hP hb1 own1 HB0 HR0 HG0 c5 c6
  cases xb with
  | false =>
    have HF : Hid (Except.error 86 = O) := HO.out
    clear HO
    go_wp2_with ((with_reducible refine at_store ?_); refine store_part rfl _ _ _ rfl (w.heap.size + 1) 0 38 _ zeroDy zeroDy.toArray HR1.out rfl rfl dy_size zeroDy_one (by decide) (by rfl) ?_)
    intro wz hgz hbz
    have HBy := hide (grown_below (Nat.le_succ _) HB1.out hbz)
    have HGy := hide hgz
    clear hgz hbz
    go_wp2
    (try simp only [Exit.inBlock, Exit.then])
    refine bodyPost_ret (results_cell2 rfl _ _ (w.heap.size + 1) _ _ _ _ rfl HGy.out Tryd.underlying38 rfl (by kernel_rfl)) rfl ?_
    exact ⟨by rw [← HF.out]; rfl, HBy.out⟩
  | true =>
    have hO := HO.out
    rw [if_neg (by simp)] at hO
    have HO2 := hide hO
    have hE := dyn_Entries w1 vx X HX1.out (by omega)
    obtain ⟨ax, cx, rfl, _⟩ := HX1.out.isSlice
    clear hO HO
    go_wp2_with fail
    refine hE.mono ?_
    rintro e w2 ⟨hE2, hb2⟩
    have HB2 : Hid (Below w.heap.size w w2) := HB1.out.trans (hb2.mono HB1.out.size)
    have HR2 := hide (block_stay HR1.out hb2)
    have HG2 := hide (block_stay HG1.out hb2)
    have HL2 : Hid (w.heap.size + 1 < w2.heap.size) := Nat.lt_of_lt_of_le HL1.out hb2.size
    clear hE hb2 HB1 HR1 HG1 HX1 HL1
    have HEO := hide (fun E => entsZ_ok (l := X) (L := E))
    cases hEZ : entsZ X with
    | none =>
      rw [hEZ] at hE2
      have hE3 : e = _ := hE2
      subst hE3
      have HF : Hid (Except.error 90 = O) := by have := HO2.out; rw [hEZ] at this; exact this
      clear hE2 HO2 hEZ HEO
      go_wp2_with ((with_reducible refine at_store ?_); refine store_part rfl _ _ _ rfl (w.heap.size + 1) 0 38 _ zeroDy zeroDy.toArray HR2.out rfl rfl dy_size zeroDy_one (by decide) (by rfl) ?_)
      intro wz hgz hbz
      have HBy := hide (grown_below (Nat.le_succ _) HB2.out hbz)
      have HGy := hide hgz
      clear hgz hbz
      go_wp2
      (try simp only [Exit.inBlock, Exit.then])
      refine bodyPost_ret (results_cell2 rfl _ _ (w.heap.size + 1) _ _ _ _ rfl HGy.out Tryd.underlying38 rfl (by kernel_rfl)) rfl ?_
      exact ⟨by rw [← HF.out]; rfl, HBy.out⟩
    | some E =>
      rw [hEZ] at hE2
      obtain ⟨hEok, hEl⟩ := HEO.out E hEZ
      have hO := HO2.out
      simp only [hEZ] at hO
      have HO3 := hide hO
      obtain ⟨ve, rfl, own2⟩ := hE2
      have HE2 := hide (own2.arg (by omega))
      obtain ⟨ae, en, ce, rfl, hen⟩ := HE2.out.form3
      have HEK : Hid (∀ e ∈ E, e.ok) := fun e he => (hEok e he).1
      have hGa := dyn_gather w2 _ E HE2.out hEl HEK.out
      clear hO HO2 hEZ HEO own2 hEok hen
      go_wp2_with fail
      refine hGa.mono ?_
      rintro e w3 ⟨⟨M1, M2, vn, rfl, hT3⟩, hb3⟩
      obtain ⟨na, nc, hvn⟩ := hT3.row.form
      generalize (needs E).length = nn at hvn
      subst hvn
      have HB3 : Hid (Below w.heap.size w w3) := HB2.out.trans (hb3.mono HB2.out.size)
      have HR3 := hide (block_stay HR2.out hb3)
      have HG3 := hide (block_stay HG2.out hb3)
      have HL3 : Hid (w.heap.size + 1 < w3.heap.size) := Nat.lt_of_lt_of_le HL2.out hb3.size
      have HT3 := hide hT3
      have hA3 := tag_zero w3
      clear hGa hb3 hT3 HB2 HR2 HG2 HL2 HE2
      have HA3 := hide hA3
      clear hA3
      go_upto_region 8 with ((with_reducible refine at_store ?_); refine store_part rfl _ _ _ rfl w3.heap.size 0 69 _ [.map (some M1), .map (some M2), .slice na nn nc] #[.map (some M1), .map (some M2), .slice na nn nc] HA3.out rfl rfl tg_size (one_all _ rfl) (Nat.le_refl 3) rfl ?_; intro w4 h4 g4; have H4 := hide h4; have G4 := hide g4; clear h4 g4)
      have HBT : Hid (Below w3.heap.size w3 w4) := grown_below (w := w3) (Nat.le_refl _) (bel1 _ _) G4.out
      have HB4 : Hid (Below w.heap.size w w4) := HB3.out.trans (HBT.out.mono HB3.out.size)
      have HT4 := hide (HT3.out.below HBT.out)
      have HR4 := hide (block_stay HR3.out HBT.out)
      have HG4 := hide (block_stay HG3.out HBT.out)
      have HL4 : Hid (w.heap.size + 1 < w3.heap.size ∧ w3.heap.size < w4.heap.size) := ⟨HL3.out, (Array.getElem?_eq_some_iff.1 H4.out).1⟩
      have HRT := hide (prog_right E)
      clear HT3 HR3 HG3 HA3 G4 HBT HL3 HB3
      dsimp only [Act.put]
      go_cut [51] from 14 (fun vq wx => vq = .bool (!rightB E) ∧ Hid (Below w4.heap.size w4 wx))
      case first => as_aux_lemma =>
        have k1 := dyn_twice w4 M1 M2 na nn nc E HT4.out
        have HK2 := hide (fun W (hW : Below w4.heap.size w4 W) => dyn_together W M1 M2 na nn nc E (HT4.out.below hW) (HPR.out W (HB4.out.trans (hW.mono HB4.out.size))))
        have HK3 := hide (fun W (hW : Below w4.heap.size w4 W) => dyn_valued W M1 M2 na nn nc E (HT4.out.below hW))
        obtain ⟨rt, hrt⟩ : ∃ rt, rightB E = rt := ⟨_, rfl⟩
        rw [hrt] at HRT
        have HRE := hide hrt
        obtain ⟨tw, htw⟩ : ∃ tw, twiceB E = tw := ⟨_, rfl⟩
        obtain ⟨tg, htg⟩ : ∃ tg, togB E = tg := ⟨_, rfl⟩
        obtain ⟨vl, hvl⟩ : ∃ vl, valdB E = vl := ⟨_, rfl⟩
        rw [htw, htg, hvl] at HRT
        rw [htw] at k1
        rw [htg] at HK2
        rw [hvl] at HK3
        clear htw htg hvl hrt
        obtain ⟨e0, e1, e2⟩ := tag_cells H4.out
        cases tw with
        | true =>
          have HF : Hid (rt = false) := by rw [Hid, ← HRT.out]; rfl
          go_wp2_with fail
          refine k1.mono ?_
          rintro e w5 ⟨rfl, hb5⟩
          have HB5 := hide hb5
          clear k1 hb5
          go_wp2
          go_meet
          case rel => exact ⟨by rw [HRE.out, HF.out]; rfl, HB5⟩
        | false =>
          go_wp2_with fail
          refine k1.mono ?_
          rintro e w5 ⟨rfl, hb5⟩
          have HB5 := hide hb5
          have k2 := HK2.out w5 hb5
          clear k1 hb5 e0 e1 e2
          obtain ⟨e0, e1, e2⟩ := tag_cells (block_stay H4.out HB5.out)
          cases tg with
          | false =>
            have HF : Hid (rt = false) := by rw [Hid, ← HRT.out]; rfl
            go_wp2_with fail
            refine k2.mono ?_
            rintro e w6 ⟨rfl, hb6⟩
            have HB6 := hide (HB5.out.trans (hb6.mono HB5.out.size))
            clear k2 hb6
            go_wp2
            go_meet
            case rel => exact ⟨by rw [HRE.out, HF.out]; rfl, HB6⟩
          | true =>
            go_wp2_with fail
            refine k2.mono ?_
            rintro e w6 ⟨rfl, hb6⟩
            have HB6 := hide (HB5.out.trans (hb6.mono HB5.out.size))
            have k3 := HK3.out w6 HB6.out
            clear k2 hb6 e0 e1 e2
            obtain ⟨e0, e1, e2⟩ := tag_cells (block_stay H4.out HB6.out)
            have HF : Hid (rt = vl) := by rw [Hid, ← HRT.out]; simp
            go_wp2_with fail
            refine k3.mono ?_
            rintro e w7 ⟨rfl, hb7⟩
            have HB7 := hide (HB6.out.trans (hb7.mono HB6.out.size))
            clear k3 hb7
            go_wp2
            go_meet
            case rel => exact ⟨by rw [HRE.out, HF.out], HB7⟩
      case rest =>
        obtain ⟨rfl, HB5⟩ := hcut
        have HB6 : Hid (Below w.heap.size w wc) := HB4.out.trans (HB5.out.mono HB4.out.size)
        have HT6 := hide (HT4.out.below HB5.out)
        have HR6 := hide (block_stay HR4.out HB5.out)
        have HG6 := hide (block_stay HG4.out HB5.out)
        have H6 := hide (block_stay H4.out HB5.out)
        have HL6 : Hid (w.heap.size + 1 < w3.heap.size ∧ w3.heap.size < wc.heap.size) := ⟨HL4.out.1, Nat.lt_of_lt_of_le HL4.out.2 HB5.out.size⟩
        clear HT4 HR4 HG4 H4 HB5 HB4 HL4 HRT
        cases hrt : rightB E with
        | false =>
          have HF : Hid (Except.error 90 = O) := by have := HO3.out; rw [if_pos hrt] at this; exact this
          clear HO3 hrt
          go_wp2_with ((with_reducible refine at_store ?_); refine store_part rfl _ _ _ rfl (w.heap.size + 1) 0 38 _ zeroDy zeroDy.toArray HR6.out rfl rfl dy_size zeroDy_one (by decide) (by rfl) ?_)
          intro wz hgz hbz
          have HBy := hide (grown_below (Nat.le_succ _) HB6.out hbz)
          have HGy := hide hgz
          clear hgz hbz
          go_wp2
          (try simp only [Exit.inBlock, Exit.then])
          refine bodyPost_ret (results_cell2 rfl _ _ (w.heap.size + 1) _ _ _ _ rfl HGy.out Tryd.underlying38 rfl (by kernel_rfl)) rfl ?_
          exact ⟨by rw [← HF.out]; rfl, HBy.out⟩
        | true =>
          have hO := HO3.out
          rw [if_neg (by rw [hrt]; simp)] at hO
          have HO4 := hide hO
          obtain ⟨rs, hrs⟩ : ∃ rs, dyTail E = rs := ⟨_, rfl⟩
          have HRS := hide hrs
          have hk := dyn_numbers wc M1 M2 na nn nc E HT6.out
          have hnum : numC E = .string ⟨#[]⟩ :: .string ⟨#[]⟩ :: .slice none 0 0 :: rs := by unfold numC; rw [numT_is HEK.out hrt, hrs]; rfl
          rw [hnum] at hk
          have HRL : Hid (rs.length = 37) := by rw [Hid, ← hrs]; exact tail_len E
          have HR1 : Hid (∀ v ∈ rs, v.oneCell' = true) := by rw [Hid, ← hrs]; exact tail_one E
          have HC7 : Hid (rs[4]? = some (.int .u64 (valT E 5 : Nat)) ∧ rs[5]? = some (.int .u64 (valT E 10 : Nat))) := by rw [Hid, ← hrs]; exact ⟨rfl, rfl⟩
          have HS1 := hide (right_single hrt)
          clear hO HO3 hrt hrs hnum
          obtain ⟨e0, e1, e2⟩ := tag_cells H6.out
          go_wp2_with fail
          refine hk.mono ?_
          rintro e w6 ⟨rfl, hb6⟩
          have HB7 : Hid (Below w.heap.size w w6) := HB6.out.trans (hb6.mono HB6.out.size)
          have HT7 := hide (HT6.out.below hb6)
          have HR7 := hide (block_stay HR6.out hb6)
          have HG7 := hide (block_stay HG6.out hb6)
          have H7 := hide (block_stay H6.out hb6)
          have HL7 : Hid (w.heap.size + 1 < w3.heap.size ∧ w3.heap.size < w6.heap.size) := ⟨HL6.out.1, Nat.lt_of_lt_of_le HL6.out.2 hb6.size⟩
          have HD0 : Hid ((w6.alloc (.cells #[.string ⟨#[]⟩, .string ⟨#[]⟩, .slice none 0 0, .bool false, .bool false, .bool false, .bool false, .int .u64 0, .int .u64 0, .int .u64 0, .int .u64 0, .int .u64 0, .int .u64 0, .int .u64 0, .int .u64 0, .int .u64 0, .int .u64 0, .bool false, .int .u64 0, .int .u64 0, .bool false, .int .u64 0, .int .u64 0, .bool false, .int .u64 0, .int .u64 0, .bool false, .int .u64 0, .int .u64 0, .bool false, .int .u64 0, .int .u64 0, .bool false, .bool false, .bool false, .int .u64 0, .int .u64 0, .bool false, .int .u64 0, .int .u64 0] 38)).heap[w6.heap.size]? = some (.cells zeroDy.toArray 38 (0, 0))) := (MapKept.heap_alloc w6 _).1
          clear hk hb6 e0 e1 e2 HT6 HR6 HG6 H6 HB6 HL6
          go_upto_region 11 with ((with_reducible refine at_store ?_); refine store_part rfl _ _ _ rfl w6.heap.size 0 38 _ (.string ⟨#[]⟩ :: .string ⟨#[]⟩ :: .slice none 0 0 :: rs) (.string ⟨#[]⟩ :: .string ⟨#[]⟩ :: .slice none 0 0 :: rs).toArray HD0.out rfl rfl (fun w => (dy_size w).trans (by rw [show (Value.string ⟨#[]⟩ :: .string ⟨#[]⟩ :: .slice none 0 0 :: rs).length = 40 by simp [HRL.out]])) (three_one HR1.out) (by have := HRL.out; simp [zero_len, this]) (three_new HRL.out) ?_; intro w7 h7 g7; have H8 := hide h7; have G8 := hide g7; clear h7 g7)
          have HBD : Hid (Below w6.heap.size w6 w7) := grown_below (w := w6) (Nat.le_refl _) (bel1 _ _) G8.out
          have HB8 : Hid (Below w.heap.size w w7) := HB7.out.trans (HBD.out.mono HB7.out.size)
          have HR8 := hide (block_stay HR7.out HBD.out)
          have HG8 := hide (block_stay HG7.out HBD.out)
          have HX8 := hide (block_stay H7.out HBD.out)
          have HDl : Hid (w6.heap.size < w7.heap.size) := (Array.getElem?_eq_some_iff.1 H8.out).1
          have hk := HST.out w7 HB8.out (.string ⟨#[]⟩ :: .string ⟨#[]⟩ :: .slice none 0 0 :: rs).toArray (by simp [HRL.out]) (valT E 5) (valT E 10) (by simpa using HC7.out.1) (by simpa using HC7.out.2) (val_lt E 5 HEK.out) (val_lt E 10 HEK.out)
          have hsl := HSL.out (valT E 5) (valT E 10)
          obtain ⟨⟨S, sb⟩, hS⟩ : ∃ S, partZ l ps (valT E 5) (valT E 10) = S := ⟨_, rfl⟩
          have hO := HO4.out
          simp only [hS] at hk hO hsl
          have HO5 := hide hO
          have HSL2 := hide hsl
          clear hO HO4 hS HR7 HG7 H7 HB7 G8 HST HSL hsl
          go_wp2_with (first
            | ((with_reducible refine at_load ?_); refine load_row rfl _ _ rfl w.heap.size _ (load_hd HG8.out rfl) rfl ?_)
            | ((with_reducible refine at_loadD ?_); refine load_row rfl _ _ rfl w6.heap.size _ (load_dy H8.out (by simp [HRL.out])) rfl ?_))
          refine hk.mono ?_
          rintro e w8 ⟨⟨vs, rfl, own8⟩, hb8⟩
          have HB9 : Hid (Below w.heap.size w w8) := HB8.out.trans (hb8.mono HB8.out.size)
          have HR9 := hide (block_stay HR8.out hb8)
          have H9 := hide (block_stay H8.out hb8)
          have HX9 := hide (block_stay HX8.out hb8)
          have HBD9 : Hid (Below w6.heap.size w6 w8) := HBD.out.trans (hb8.mono HBD.out.size)
          have HOW := hide own8
          have HSZ9 : Hid (w7.heap.size ≤ w8.heap.size) := hb8.size
          clear hk hb8 own8 HR8 H8 HX8 HBD HB8 HG8
          cases sb with
          | false =>
            have HF : Hid (Except.error 91 = O) := by have := HO5.out; rw [if_pos rfl] at this; exact this
            clear HO5
            go_wp2_with ((with_reducible refine at_store ?_); refine store_part rfl _ _ _ rfl (w.heap.size + 1) 0 38 _ zeroDy zeroDy.toArray HR9.out rfl rfl dy_size zeroDy_one (by decide) (by rfl) ?_)
            intro wz hgz hbz
            have HBy := hide (grown_below (Nat.le_succ _) HB9.out hbz)
            have HGy := hide hgz
            clear hgz hbz
            go_wp2
            (try simp only [Exit.inBlock, Exit.then])
            refine bodyPost_ret (results_cell2 rfl _ _ (w.heap.size + 1) _ _ _ _ rfl HGy.out Tryd.underlying38 rfl (by kernel_rfl)) rfl ?_
            exact ⟨by rw [← HF.out]; rfl, HBy.out⟩
          | true =>
            have hO := HO5.out
            rw [if_neg (by simp)] at hO
            have HO6 := hide hO
            have hk := dyn_name w6 w8 w6.heap.size w7.heap.size M1 M2 na nn nc E HT7.out (Nat.le_refl _) HBD9.out vs S HOW.out (by have := HSL2.out; omega) HDl.out _ _ _ rs H9.out (fun t => by have := lv_lt E t HEK.out; omega) (needs_lt HEK.out)
            obtain ⟨e0, e1, e2⟩ := tag_cells HX9.out
            obtain ⟨sa, sn, sc, hvs⟩ := HOW.out.isSlice
            subst hvs
            clear hO HO5
            go_wp2_with fail
            refine hk.mono ?_
            rintro e w9 ⟨⟨rr, rfl, hN⟩, hdg⟩
            have HDG := hide hdg
            have HB10 : Hid (Below w.heap.size w w9) := HDG.out.low (by have := HL7.out; omega) HB9.out
            have HR10 : Hid (w9.heap[w.heap.size + 1]? = _) := (HDG.out.block (w.heap.size + 1) (by have := HL7.out; have := HDl.out; have := HSZ9.out; omega) (by have := HL7.out; omega)).trans HR9.out
            clear hk hdg e0 e1 e2
            rw [nmV_m (by decide) (HS1.out 14 (by decide)), nmV_m (by decide) (HS1.out 29 (by decide)), needN_is, needs_len] at hN
            have hO := HO6.out
            have HRZ : Hid (w9.heap[w.heap.size + 1]? = some (.cells zeroDy.toArray 38 (0, 0))) := HR10
            have hfin := fin_is hN hO
            clear hN hO HO6 HR10
            rcases hfin with ⟨hr, hF⟩ | ⟨hr, hF⟩ | ⟨hr, so, ru, L, v3, hF, hh, ho⟩
            · subst hr
              have HF := hide hF
              clear hF
              go_wp2_with ((with_reducible refine at_store ?_); refine store_part rfl _ _ _ rfl (w.heap.size + 1) 0 38 _ zeroDy zeroDy.toArray HRZ.out rfl rfl dy_size zeroDy_one (by decide) (by rfl) ?_)
              intro wz hgz hbz
              have HBy := hide (grown_below (Nat.le_succ _) HB10.out hbz)
              have HGy := hide hgz
              clear hgz hbz
              go_wp2
              (try simp only [Exit.inBlock, Exit.then])
              refine bodyPost_ret (results_cell2 rfl _ _ (w.heap.size + 1) _ _ _ _ rfl HGy.out Tryd.underlying38 rfl (by kernel_rfl)) rfl ?_
              exact ⟨by rw [← HF.out]; rfl, HBy.out⟩
            · subst hr
              have HF := hide hF
              clear hF
              go_wp2_with ((with_reducible refine at_store ?_); refine store_part rfl _ _ _ rfl (w.heap.size + 1) 0 38 _ zeroDy zeroDy.toArray HRZ.out rfl rfl dy_size zeroDy_one (by decide) (by rfl) ?_)
              intro wz hgz hbz
              have HBy := hide (grown_below (Nat.le_succ _) HB10.out hbz)
              have HGy := hide hgz
              clear hgz hbz
              go_wp2
              (try simp only [Exit.inBlock, Exit.then])
              refine bodyPost_ret (results_cell2 rfl _ _ (w.heap.size + 1) _ _ _ _ rfl HGy.out Tryd.underlying38 rfl (by kernel_rfl)) rfl ?_
              exact ⟨by rw [← HF.out]; rfl, HBy.out⟩
            · subst hr
              have HF := hide hF
              have HH := hide hh
              have HOT := hide ho
              obtain ⟨ta, tc, hv3⟩ := ho.form
              generalize L.length = Ln at hv3
              subst hv3
              have HSZ10 : Hid (w.heap.size + 1 < w8.heap.size) := by have h1 := HL7.out; have h2 := HDl.out; have h3 := HSZ9.out; unfold Hid; omega
              clear hF hh ho
              go_wp2_with (first
                | ((with_reducible refine at_loadD ?_); refine load_row rfl _ _ rfl w6.heap.size _ (load_dy HH.out (by simp [HRL.out])) rfl ?_)
                | ((with_reducible refine at_store ?_); refine store_part rfl _ _ _ rfl (w.heap.size + 1) 0 38 _ (.string (txb so) :: .string (txb ru) :: .slice ta Ln tc :: rs) (.string (txb so) :: .string (txb ru) :: .slice ta Ln tc :: rs).toArray HRZ.out rfl rfl (fun w => (dy_size w).trans (by rw [show (Value.string (txb so) :: .string (txb ru) :: .slice ta Ln tc :: rs).length = 40 by simp [HRL.out]])) (gen_one rfl rfl rfl HR1.out) (by have := HRL.out; simp [zero_len, this]) (gen_new HRL.out) ?_; intro wz hz gz; have HZZ := hide hz; have GZ := hide gz; clear hz gz))
              have HBy := hide (grown_below (Nat.le_succ _) HB10.out GZ.out)
              have HOZ := hide ((HOT.out.grownB GZ.out HSZ10.out).low (Nat.le_of_lt (Nat.lt_of_succ_lt HSZ10.out)))
              (try simp only [Exit.inBlock, Exit.then])
              refine bodyPost_ret (results_cell2 rfl _ _ (w.heap.size + 1) _ _ _ _ rfl HZZ.out Tryd.underlying38 rfl (by rw [show (Value.string (txb so) :: .string (txb ru) :: .slice ta Ln tc :: rs).toArray.size = 40 by simp [HRL.out]]; kernel_rfl)) rfl ?_
              exact ⟨by rw [← HF.out]; exact ⟨_, by rw [dyCells, HRS.out]; rfl, HOZ.out⟩, HBy.out⟩
end Go.Proofs.YtibfiikjelmhmaaDoor
