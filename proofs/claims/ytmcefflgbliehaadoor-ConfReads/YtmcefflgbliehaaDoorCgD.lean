
/-
  Layer 18 (conf): the reference's configuration in memory; a line, plain.
-/
import Derived.Test.YtmcefflgbliehaaDoorCgC
set_option linter.unusedVariables false
namespace Go.Proofs.YtmcefflgbliehaaDoor
open Go.RowKit Go.PlainAid Go.Sort
/-- What a line that says something does. -/
def lineC (F : Cf) (s : List UInt8) (n : Int) : Cf × Int :=
  if Lib.hasPrefix s [91] = true then
    if begC F.secs (Lib.trimPrefix s [91]) = true then (⟨F.dirs, F.secs ++ [⟨Lib.trimSuffix (Lib.trimPrefix s [91]) [93], []⟩]⟩, 0) else (F, 181)
  else if readB s = false then (F, 180)
  else if F.secs = [] then
    if folB (readT s) = true then (⟨folD F.dirs (readT s) n, F.secs⟩, 0) else (F, 180)
  else (⟨F.dirs, tellS F.secs (readT s) n⟩, 0)
theorem take_lineC {F : Cf} {l : List UInt8} {n : Int} (h1 : plainC l = true) (h2 : ¬ saidC l = []) : takeC F l n = lineC F (saidC l) n := by
  unfold takeC lineC
  rw [if_neg (by rw [h1]; simp), if_neg h2]
theorem suff1 {s : List UInt8} {d : UInt8} (h : Lib.hasSuffix s [d] = true) : ∃ m, s = m ++ [d] := by
  unfold Lib.hasSuffix at h
  rw [List.isSuffixOf_iff_suffix] at h
  obtain ⟨m, hm⟩ := h
  exact ⟨m, hm.symm⟩
theorem suff1_is (m : List UInt8) (d : UInt8) : Lib.hasSuffix (m ++ [d]) [d] = true ∧ Lib.trimSuffix (m ++ [d]) [d] = m := by
  have h : Lib.hasSuffix (m ++ [d]) [d] = true := by
    unfold Lib.hasSuffix
    rw [List.isSuffixOf_iff_suffix]
    exact ⟨m, rfl⟩
  refine ⟨h, ?_⟩
  unfold Lib.trimSuffix
  rw [if_pos h]
  simp
theorem suff1_cons (c d : UInt8) (r : List UInt8) (hcd : c ≠ d) : Lib.hasSuffix (c :: r) [d] = Lib.hasSuffix r [d] := by
  cases h : Lib.hasSuffix r [d] with
  | true =>
    obtain ⟨m, rfl⟩ := suff1 h
    have := (suff1_is (c :: m) d).1
    exact this
  | false =>
    cases h2 : Lib.hasSuffix (c :: r) [d] with
    | false => rfl
    | true =>
      obtain ⟨m, hm⟩ := suff1 h2
      cases m with
      | nil => injection hm with hm _; exact absurd hm hcd
      | cons a m =>
        injection hm with _ hm
        have h9 : Lib.hasSuffix r [d] = true := by rw [hm]; exact (suff1_is m d).1
        rw [h9] at h; cases h
theorem pref_cons (r : List UInt8) : Lib.hasPrefix (91 :: r) [91] = true ∧ Lib.trimPrefix (91 :: r) [91] = r := by
  have h : Lib.hasPrefix (91 :: r) [91] = true := by unfold Lib.hasPrefix; simp [List.isPrefixOf]
  refine ⟨h, ?_⟩
  unfold Lib.trimPrefix
  rw [if_pos h]; rfl
theorem pref_not (c : UInt8) (r : List UInt8) (h : c ≠ 91) : Lib.hasPrefix (c :: r) [91] = false := by
  unfold Lib.hasPrefix
  simp [List.isPrefixOf]
  exact fun e => h e.symm
theorem index_cases (c : UInt8) : ∀ l : List UInt8, Lib.index l [c] = -1 ∨ ∃ k : Nat, k < l.length ∧ Lib.index l [c] = (k : Int)
  | [] => .inl (index_no c [] (fun j hj => by simp at hj))
  | b :: l => by
    by_cases h : b = c
    · subst h
      exact .inr ⟨0, by simp, index_cons_eq b l⟩
    · rw [index_cons_ne b c l h]
      rcases index_cases c l with e | ⟨k, hk, e⟩
      · rw [e]; exact .inl rfl
      · rw [e]
        have : (((k : Int)) == -1) = false := by simp
        rw [this]
        exact .inr ⟨k + 1, by simpa using hk, by simp⟩
theorem cut_at (c : UInt8) (l : List UInt8) (k : Nat) (h : Lib.index l [c] = (k : Int)) : Lib.cut l [c] = (l.take k, l.drop (k + 1), true) := by
  unfold Lib.cut
  rw [h, if_pos (by omega)]
  simp
theorem cut_not (c : UInt8) (l : List UInt8) (h : Lib.index l [c] = -1) : Lib.cut l [c] = (l, [], false) := by
  unfold Lib.cut
  rw [h, if_neg (by omega)]
/-- A configuration of the reference: dv its folders, sv its parts; all of it made behind B. -/
structure RfAt (w : World) (B : Nat) (dv sv : Value) (ds : List Pr) (ss : List Sx) (N : Nat) : Prop where
  dirs : OwnP 73 w B dv ds
  secs : OwnX 40 w B sv ss
  prs : ∀ s ∈ ss, OwnP 73 w B s.pv s.props
  sm : ds.length ≤ N ∧ ss.length ≤ N ∧ ∀ s ∈ ss, s.props.length ≤ N
  vl : ∀ s ∈ ss, ∀ p ∈ s.props, p.value.length ≤ N * 100002
def foot2 (dv sv : Value) (k : Nat) : Prop := dv.ownBlock = some k ∨ sv.ownBlock = some k
section
variable {w w' W1 : World} {B N : Nat} {dv sv : Value} {ds : List Pr} {ss : List Sx}
theorem RfAt.ne (h : RfAt w B dv sv ds ss N) {g : Nat} (hg : dv.ownBlock = some g) : sv.ownBlock ≠ some g := fun e => by
  obtain ⟨c1, h1⟩ := row_type h.dirs hg
  obtain ⟨c2, h2⟩ := row_type h.secs e
  exact absurd (type_of h1 h2) (by decide)
theorem RfAt.pne (h : RfAt w B dv sv ds ss N) {s : Sx} (hs : s ∈ ss) {g : Nat} (hg : s.pv.ownBlock = some g) : sv.ownBlock ≠ some g := fun e => by
  obtain ⟨c1, h1⟩ := row_type (h.prs s hs) hg
  obtain ⟨c2, h2⟩ := row_type h.secs e
  exact absurd (type_of h1 h2) (by decide)
theorem RfAt.foot (h : RfAt w B dv sv ds ss N) {k : Nat} (hk : foot2 dv sv k) : B ≤ k ∧ k < w.heap.size := by
  rcases hk with e | e
  · exact World.ownsRow.lt h.dirs k e
  · exact World.ownsRow.lt h.secs k e
theorem RfAt.stay (h : RfAt w B dv sv ds ss N) (hb : Below w.heap.size w w') : RfAt w' B dv sv ds ss N :=
  ⟨row_keep h.dirs (fun g hg => hb.block g (World.ownsRow.lt h.dirs g hg).2), row_keep h.secs (fun g hg => hb.block g (World.ownsRow.lt h.secs g hg).2),
    fun s hs => row_keep (h.prs s hs) (fun g hg => hb.block g (World.ownsRow.lt (h.prs s hs) g hg).2), h.sm, h.vl⟩
theorem RfAt.more (h : RfAt w B dv sv ds ss N) {M : Nat} (hm : N ≤ M) : RfAt w B dv sv ds ss M :=
  { h with sm := ⟨Nat.le_trans h.sm.1 hm, Nat.le_trans h.sm.2.1 hm, fun s hs => Nat.le_trans (h.sm.2.2 s hs) hm⟩, vl := fun s hs p hp => Nat.le_trans (h.vl s hs p hp) (Nat.mul_le_mul_right _ hm) }
theorem RfAt.argX (h : RfAt w B dv sv ds ss N) (hN : N ≤ 100000) : ArgX w sv ss := h.secs.arg (Nat.le_trans h.sm.2.1 hN) (fun s hs => (h.prs s hs).arg (Nat.le_trans (h.sm.2.2 s hs) hN))
theorem RfAt.argD (h : RfAt w B dv sv ds ss N) (hN : N ≤ 100000) : ArgP w dv ds := h.dirs.arg (Nat.le_trans h.sm.1 hN)
/-- A folder more (no part is there yet). -/
theorem RfAt.putDir (h : RfAt w B dv sv ds [] N) {p : Pr} {dv' : Value} (r : OwnP 73 w' B dv' (ds ++ [p])) (hg : w.grownBy w' dv.ownBlock) : RfAt w' B dv' sv (ds ++ [p]) [] (N + 1) ∧ Turn (foot2 dv sv) w w' := by
  refine ⟨⟨r, row_keep h.secs (fun g hgg => ?_), by simp, ⟨by rw [List.length_append]; have := h.sm.1; simp; omega, by simp, by simp⟩, by simp⟩, Turn.of_grown hg (fun k e => .inl e)⟩
  exact hg.block g (World.ownsRow.lt h.secs g hgg).2 (fun e => h.ne e.symm hgg)
/-- A part more. -/
theorem RfAt.putSec (h : RfAt w B dv sv ds ss N) {n : List UInt8} {sv' : Value} (r : OwnX 40 w' B sv' (ss ++ [⟨n, .slice none 0 0, []⟩])) (hg : w.grownBy w' sv.ownBlock) : RfAt w' B dv sv' ds (ss ++ [⟨n, .slice none 0 0, []⟩]) (N + 1) ∧ Turn (foot2 dv sv) w w' := by
  refine ⟨⟨row_keep h.dirs (fun g hgg => ?_), r, fun s hs => ?_, ⟨Nat.le_succ_of_le h.sm.1, by rw [List.length_append]; have := h.sm.2.1; simp; omega, fun s hs => ?_⟩, fun s hs p hp => ?_⟩, Turn.of_grown hg (fun k e => .inr e)⟩
  · exact hg.block g (World.ownsRow.lt h.dirs g hgg).2 (fun e => h.ne hgg e.symm)
  · rcases List.mem_append.1 hs with hs | hs
    · exact row_keep (h.prs s hs) (fun g hgg => hg.block g (World.ownsRow.lt (h.prs s hs) g hgg).2 (fun e => h.pne hs hgg e.symm))
    · rw [List.mem_singleton] at hs; subst hs; exact OwnP.nil _ _ _
  · rcases List.mem_append.1 hs with hs | hs
    · exact Nat.le_succ_of_le (h.sm.2.2 s hs)
    · rw [List.mem_singleton] at hs; subst hs; simp
  · rcases List.mem_append.1 hs with hs | hs
    · exact Nat.le_trans (h.vl s hs p hp) (Nat.mul_le_mul_right _ (Nat.le_succ N))
    · rw [List.mem_singleton] at hs; subst hs; cases hp
/-- The last part is told a property: the parts lie elsewhere then. -/
theorem RfAt.tell {A : List Sx} {x : Sx} (h : RfAt w B dv sv ds (A ++ [x]) N) (hb : Below w.heap.size w w') {sv' pv' : Value} {ps : List Pr} (r : OwnX 40 w' B sv' (A ++ [⟨x.name, pv', ps⟩])) (rp : OwnP 73 w' B pv' ps)
    (hp : ps.length ≤ N + 1) (hv : ∀ p ∈ ps, p.value.length ≤ (N + 1) * 100002) : RfAt w' B dv sv' ds (A ++ [⟨x.name, pv', ps⟩]) (N + 1) := by
  refine ⟨row_keep h.dirs (fun g hg => hb.block g (World.ownsRow.lt h.dirs g hg).2), r, fun s hs => ?_, ⟨Nat.le_succ_of_le h.sm.1, by have := h.sm.2.1; simp at this ⊢; omega, fun s hs => ?_⟩, fun s hs p hp => ?_⟩
  · rcases List.mem_append.1 hs with hs | hs
    · have hm : s ∈ A ++ [x] := List.mem_append.2 (.inl hs)
      exact row_keep (h.prs s hm) (fun g hg => hb.block g (World.ownsRow.lt (h.prs s hm) g hg).2)
    · rw [List.mem_singleton] at hs; subst hs; exact rp
  · rcases List.mem_append.1 hs with hs | hs
    · exact Nat.le_succ_of_le (h.sm.2.2 s (List.mem_append.2 (.inl hs)))
    · rw [List.mem_singleton] at hs; subst hs; exact hp
  · rcases List.mem_append.1 hs with hs | hs
    · exact Nat.le_trans (h.vl s (List.mem_append.2 (.inl hs)) p hp) (Nat.mul_le_mul_right _ (Nat.le_succ N))
    · rw [List.mem_singleton] at hs; subst hs; exact hv p hp
end
/-- Another's block (of a whole configuration) is written. -/
theorem RfAt.other {w w' : World} {B N g : Nat} {dv sv : Value} {ds : List Pr} {ss : List Sx} {c : Array Value} (h : RfAt w B dv sv ds ss N) (hF : w.heap[g]? = some (.cells c 32 (0, 0))) (hk : ∀ j, j < w.heap.size → j ≠ g → w'.heap[j]? = w.heap[j]?) : RfAt w' B dv sv ds ss N := by
  refine ⟨row_keep h.dirs (fun j hj => hk j (World.ownsRow.lt h.dirs j hj).2 ?_), row_keep h.secs (fun j hj => hk j (World.ownsRow.lt h.secs j hj).2 ?_), fun s hs => row_keep (h.prs s hs) (fun j hj => hk j (World.ownsRow.lt (h.prs s hs) j hj).2 ?_), h.sm, h.vl⟩
  · rintro rfl
    obtain ⟨c1, h1⟩ := row_type h.dirs hj
    exact absurd (type_of h1 hF) (by decide)
  · rintro rfl
    obtain ⟨c1, h1⟩ := row_type h.secs hj
    exact absurd (type_of h1 hF) (by decide)
  · rintro rfl
    obtain ⟨c1, h1⟩ := row_type (h.prs s hs) hj
    exact absurd (type_of h1 hF) (by decide)
theorem RfAt.store {w w' : World} {B N g : Nat} {dv sv : Value} {ds : List Pr} {ss : List Sx} {c : Array Value} (h : RfAt w B dv sv ds ss N) (hF : w.heap[g]? = some (.cells c 32 (0, 0))) (hg : w.grownBy w' (some g)) : RfAt w' B dv sv ds ss N :=
  h.other hF fun j hj hn => hg.block j hj (fun e => by injection e with e; exact hn e)
theorem RfAt.cell {w : World} {B N g j : Nat} {u : Value} {dv sv : Value} {ds : List Pr} {ss : List Sx} {c : Array Value} (h : RfAt w B dv sv ds ss N) (hF : w.heap[g]? = some (.cells c 32 (0, 0))) : RfAt (w.setCell ⟨g, j, none⟩ u) B dv sv ds ss N :=
  h.other hF fun j _ hn => Below.heap_setCell _ _ _ _ hn
/-- A step's footprint, and whatever was made since W. -/
def far (W : World) (dv sv : Value) (k : Nat) : Prop := foot2 dv sv k ∨ W.heap.size ≤ k
theorem far_end {W w' : World} {dv sv : Value} (h : Turn (far W dv sv) W w') : Turn (foot2 dv sv) W w' := h.mono fun k hk e => by
  rcases e with e | e
  · exact e
  · omega
theorem far_foot {W W5 W6 : World} {dv sv : Value} (h : Turn (foot2 dv sv) W5 W6) : Turn (far W dv sv) W5 W6 := h.mono fun k _ e => .inl e
theorem far_cell {W W5 : World} {dv sv : Value} (g j : Nat) (u : Value) (hg : W.heap.size ≤ g) : Turn (far W dv sv) W5 (W5.setCell ⟨g, j, none⟩ u) := (Turn.setCell W5 ⟨g, j, none⟩ u).mono fun k _ e => .inr (by rw [e]; exact hg)
theorem far_store {W W5 W6 : World} {dv sv : Value} {g : Nat} (h : W5.grownBy W6 (some g)) (hg : W.heap.size ≤ g) : Turn (far W dv sv) W5 W6 := Turn.of_grown h fun k e => by injection e with e; subst e; exact .inr hg
/-- What the reference's line answers. -/
def LineTo (W : World) (B N : Nat) (dv sv : Value) (T : Cf × Int) (e : Ending) (w' : World) : Prop :=
  ∃ dv' sv' ss', e = .returned (.tuple #[.agg #[dv', sv'], .int .i64 T.2]) ∧ ss'.map Sx.sc = T.1.secs ∧ RfAt w' B dv' sv' T.1.dirs ss' (N + 1) ∧ Turn (foot2 dv sv) W w'
/-- The call's own blocks: the configuration's box, and what is answered. -/
structure LnAt (W wr : World) (a b : Value) : Prop where
  bw : Below W.heap.size W wr
  s3 : wr.heap[W.heap.size]? = some (.cells #[a, b] 32 (0, 0))
  s6 : wr.heap[W.heap.size + 1]? = some (.cells zFl.toArray 32 (0, 0))
theorem LnAt.new (W : World) (a b : Value) : LnAt W ((W.alloc (.cells #[a, b] 32)).alloc (.cells zFl.toArray 32)) a b := by
  have hb0 := below_box W (.cells #[a, b] 32)
  refine ⟨hb0.alloc hb0.size _, block_stay (block_new W _) (below_box _ _), ?_⟩
  have := block_new (W.alloc (.cells #[a, b] 32)) (.cells zFl.toArray 32)
  rwa [show (W.alloc (.cells #[a, b] 32)).heap.size = W.heap.size + 1 by simp] at this
theorem LnAt.stay {W wr w' : World} {a b : Value} (h : LnAt W wr a b) (hb : Below wr.heap.size wr w') : LnAt W w' a b := ⟨h.bw.trans (hb.mono h.bw.size), block_stay h.s3 hb, block_stay h.s6 hb⟩
theorem LnAt.lt {W wr : World} {a b : Value} (h : LnAt W wr a b) : W.heap.size + 2 ≤ wr.heap.size := block_lt h.s6
theorem rf_size : ∀ w, (Go.sizeOf 32).run Tryd.prog w = .ok 2 w := Tryd.sizeOf32
end Go.Proofs.YtmcefflgbliehaaDoor
