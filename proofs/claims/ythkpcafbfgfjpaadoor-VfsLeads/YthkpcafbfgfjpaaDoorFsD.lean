
/-
  One node more: add keeps its contract.
-/
import Derived.Test.YthkpcafbfgfjpaaDoorFsC
import Derived.Deep.DeepAppendWide
import Derived.Deep.RegionHeldLaw
set_option linter.unusedVariables false
namespace Go.Proofs.YthkpcafbfgfjpaaDoor
open Go.RowKit Go.PlainAid
/-- A block that was had, or a new one. -/
def Same (w : World) (o : Option Nat) (g : Nat) : Prop := o = some g ∨ w.heap.size ≤ g
theorem run_append_same (w : World) (B : Nat) (t ty e : TypeId) (i : TypeInfo) (z : Value) (size bytes : Nat) (ht : Tryd.prog.underlying t = some (.slice e)) (hi : Tryd.prog.info? e = some i) (hz : i.zero = some z) (hsize : i.size = size) (hby : i.bytes = bytes) (hzs : z.cells.size = size) (hsz : 0 < size)
    (v : Value) (n : Nat) (xs : List Value) (hown : w.ownsRow B e size v n xs) (ad : Addr) (c : Nat) (news : List Value) (hl : news.length = size) (hnews : ∀ j u, news[j]? = some u → w.cell? (ad.add j) = some u) (h1 : ∀ u ∈ news, u.oneCell' = true) (h63 : n + 1 ≤ maxLen) (hbytes : ((n + 1) + (n + 1) / 4 + 192) * bytes ≤ 281474976710656) (hB : B ≤ w.heap.size) :
    ∃ v' w', (Builtin.append_ #[t, t] ty #[v, .slice (some ad) 1 c]).run Tryd.prog w = .ok v' w' ∧ w'.ownsRow B e size v' (n + 1) (xs ++ news) ∧ (∀ g, v'.ownBlock = some g → Same w v.ownBlock g) ∧ w.grownBy w' v.ownBlock := by
  have hA := fun B (hB : B ≤ w.heap.size) (ho : w.ownsRow B e size v n xs) => run_append_own_wide (P := Tryd.prog) w B t ty e i z size bytes ht hi hz hsize hby hzs hsz v n xs ho ad 1 c news (by omega) hnews h1 h63 hbytes hB
  rcases hown.2 with ⟨rfl, rfl⟩ | ⟨g, cap, cur, rfl, hBg, hg, hc1, hc2, hc3, hc4⟩
  · obtain ⟨v', w', hr, ho, hgr, _⟩ := hA w.heap.size (Nat.le_refl _) ⟨hown.1, .inl ⟨rfl, rfl⟩⟩
    refine ⟨v', w', hr, ⟨ho.1, ?_⟩, fun g hg => .inr (World.ownsRow.lt ho g hg).1, hgr⟩
    rcases ho.2 with h | ⟨g, cap, cur, e1, hb, rest⟩
    · exact .inl h
    · exact .inr ⟨g, cap, cur, e1, Nat.le_trans hB hb, rest⟩
  · obtain ⟨v', w', hr, ho, hgr, _⟩ := hA B hB hown
    refine ⟨v', w', hr, ho, fun g' hg' => ?_, hgr⟩
    by_cases hroom : n + 1 ≤ cap
    · have hr2 := run_append_room (P := Tryd.prog) w t ty e i ht hi g n cap cur hg ad 1 c news (by rw [hsize]; omega) hnews h1 hroom (by rw [hsize, hl, hc3, ← Nat.succ_mul]; exact Nat.mul_le_mul_right _ hroom)
      rw [hr] at hr2
      injection hr2 with e1 e2
      subst e1
      exact .inl hg'
    · have hr2 := run_append_grow (P := Tryd.prog) w t ty e i z ht hi hz ⟨g, 0, none⟩ n cap xs (by rw [hsize]; exact hown.1) (hown.cells (g := g) rfl) ad 1 c news (by rw [hsize]; omega) hnews (by omega) (by unfold maxLen at h63; omega) (by rw [hby]; exact growslice_fits_wide (by omega) hbytes)
      rw [hr] at hr2
      injection hr2 with e1 e2
      subst e1
      injection hg' with e3
      exact .inr (by rw [← e3]; exact Nat.le_refl _)
theorem Tryd.infoNd : (Tryd.prog.info? 40).map (fun i => (i.zero, i.size, i.bytes)) = some (some (.agg #[.string ByteArray.empty, .int .i64 0, .slice none 0 0, .string ByteArray.empty]), 4, 64) := by kernel_rfl
theorem Nd.one (n : Nd) (h : ∃ a k c, n.vd = .slice a k c) : ∀ u ∈ n.cells, u.oneCell' = true := by
  obtain ⟨a, k, c, e⟩ := h
  intro u hu
  simp [Nd.cells, e] at hu
  rcases hu with rfl | rfl | rfl | rfl <;> rfl
theorem flatN_app (l : List Nd) (n : Nd) : flatN (l ++ [n]) = flatN l ++ n.cells := by unfold flatN; rw [List.flatMap_append]; simp
/-- append of a node to a row that is owned, as a step of a region that draws. -/
theorem step_append_nd {ops : Array Oper} {o : Oper} {a : Act} {W : World} {K : Act → World → Prop} {Q : Exit → Act → World → Prop} {E : Prop} (hgd : o.guard = none) (s x : Operand)
    (ho : o.op = .call { callee := .builtin .append, args := #[s, x], argTypes := #[22, 22] })
    (B : Nat) (v : Value) (l : List Nd) (hown : W.ownsRow B 40 4 v l.length (flatN l)) (n : Nd) (hvd : ∃ a k c, n.vd = .slice a k c) (hs : a.eval s = v) (q : Nat)
    (hx : a.eval x = .slice (some ⟨q, 0, none⟩) 1 1) (hq : ∀ j u, n.cells[j]? = some u → W.cell? ⟨q, j, none⟩ = some u) (hlen : l.length ≤ 100000) (hB : B ≤ W.heap.size)
    (h : ∀ v' w', w'.ownsRow B 40 4 v' (l ++ [n]).length (flatN (l ++ [n])) → (∀ g, v'.ownBlock = some g → Same W v.ownBlock g) → W.grownBy w' v.ownBlock → K (a.put o.dst v') w') :
    if Region.wanted o (yielded ops a.tmps) = true then Oper.wp Tryd.prog o a W K Q else E := by
  have hw : Region.wanted o (yielded ops a.tmps) = true := by simp [Region.wanted, hgd]
  rw [if_pos hw]
  obtain ⟨i, hi, hz0, hz1, hz2⟩ := info_parts Tryd.infoNd
  obtain ⟨v', w', hr, h2, h3, h4⟩ := run_append_same W B 22 o.type 40 i _ 4 64 Tryd.underlying22 hi hz0 hz1 hz2 rfl (by decide) v l.length (flatN l) hown ⟨q, 0, none⟩ 1 n.cells rfl
    (fun j u hj => by rw [Addr.add_mid, Nat.zero_add]; exact hq j u hj) (n.one hvd) (by unfold maxLen; omega) (by omega) hB
  unfold Oper.wp execOp
  simp only [ho, resolve, invoke, builtin, Sem.run_bind, Sem.run_pure, Result.andThen_ok, List.map_toArray, List.map_cons, List.map_nil, hs, hx, hr]
  refine h v' w' ?_ (fun g hg => h3 g hg) h4
  rw [List.length_append, flatN_app]
  exact h2
def addE (l : List Nd) (n : Nd) : Int := if chkE n.path.data.toList n.kind n.data.length n.to ≠ 0 then chkE n.path.data.toList n.kind n.data.length n.to else if isIn (pathsOf l) n.path.data.toList then 61 else 0
theorem fits_kind {k : Int} {dn : Nat} {to : ByteArray} (h : fitsB k dn to = true) : k = 1 ∨ k = 2 ∨ k = 3 := by
  unfold fitsB at h
  by_cases a : k = 1
  · exact .inl a
  · by_cases b : k = 2
    · exact .inr (.inl b)
    · by_cases c : k = 3
      · exact .inr (.inr c)
      · rw [if_neg a, if_neg b, if_neg c] at h; cases h
theorem chk_kind {p : List UInt8} {k : Int} {dn : Nat} {to : ByteArray} (h : chkE p k dn to = 0) : k = 1 ∨ k = 2 ∨ k = 3 := by
  unfold chkE at h
  by_cases a : isCl p = false ∨ p = [47]
  · rw [if_pos a] at h; cases h
  · rw [if_neg a] at h
    by_cases b : fitsB k dn to = false
    · rw [if_pos b] at h; cases h
    · exact fits_kind (by simpa using b)
theorem heap_setCell_at (w : World) (g j : Nat) (v : Value) (cur : Array Value) (t : TypeId) (r : Nat × Nat) (hg : w.heap[g]? = some (.cells cur t r)) : (w.setCell ⟨g, j, none⟩ v).heap[g]? = some (.cells (cur.setIfInBounds j v) t r) := by
  obtain ⟨hl, hg2⟩ := Array.getElem?_eq_some_iff.1 hg
  simp [World.setCell, hl, Array.getElem_modify, hg2]
theorem chk_big {p : List UInt8} {k : Int} {dn : Nat} {to : ByteArray} (h : chkE p k dn to = 0) : dn ≤ 262144 := by
  unfold chkE at h
  by_cases a : isCl p = false ∨ p = [47]
  · rw [if_pos a] at h; cases h
  · rw [if_neg a] at h
    by_cases b : fitsB k dn to = false
    · rw [if_pos b] at h; cases h
    · rw [if_neg b] at h
      by_cases c : 262144 < dn
      · rw [if_pos c] at h; cases h
      · omega
/-- Behind the map's store: all but the row is as it will be. -/
theorem FsAt.put {W W1 W2 W3 : World} {B F M X : Nat} {v v' : Value} {l : List Nd} {n : Nd} (h : FsAt W B F M v l) (hl : l.length ≤ 900)
    (t1 : Turn (· = M) W W1) (m1 : MapAt W1 M (pathsOf l ++ [n.path.data.toList])) (t2 : Turn (· = X) W1 W2) (hX : X ≠ F ∧ X ≠ M ∧ v.ownBlock ≠ some X) (hB : B ≤ W.heap.size)
    (hdat : ∀ m ∈ l, Src W (fun k => (k < B ∨ k = F ∨ k = M ∨ v.ownBlock = some k) ∨ k = X) m.vd m.data)
    (r3 : W3.ownsRow B 40 4 v' (l ++ [n]).length (flatN (l ++ [n]))) (s3 : ∀ g, v'.ownBlock = some g → Same W2 v.ownBlock g) (g3 : W2.grownBy W3 v.ownBlock)
    (hd : Src W2 (fun k => k < W1.heap.size) n.vd n.data) (hk : n.kind = 1 ∨ n.kind = 2 ∨ n.kind = 3) (hp : n.path.size ≤ 4096) (ht : n.to.size ≤ 4096) :
    FsAt (W3.setCell ⟨F, 0, none⟩ v') B F M v' (l ++ [n]) := by
  have hFl := (Array.getElem?_eq_some_iff.1 h.head).1
  have hMl := h.map.lt
  have hvl := World.ownsRow.lt h.row
  have hF1 : W1.heap[F]? = some (.cells #[v, .map (some M)] 51 (0, 0)) := by rw [t1.block F hFl h.ne]; exact h.head
  have hF2 : W2.heap[F]? = some (.cells #[v, .map (some M)] 51 (0, 0)) := by rw [t2.block F (Nat.lt_of_lt_of_le hFl t1.size) (fun e => hX.1 e.symm)]; exact hF1
  have l2 : W.heap.size ≤ W2.heap.size := Nat.le_trans t1.size t2.size
  have hF3 : W3.heap[F]? = some (.cells #[v, .map (some M)] 51 (0, 0)) := by rw [g3.block F (by omega) (fun e => (h.hv F e.symm).1 rfl)]; exact hF2
  have t3 : Turn (fun k => v.ownBlock = some k) W2 W3 := Turn.of_grown g3 (fun k e => e)
  have ts : Turn (· = F) W3 (W3.setCell ⟨F, 0, none⟩ v') := Turn.setCell W3 ⟨F, 0, none⟩ v'
  have hv' : ∀ g, v'.ownBlock = some g → g ≠ F ∧ g ≠ M := fun g hg => by
    rcases s3 g hg with e | e
    · exact h.hv g e
    · constructor <;> omega
  have key : ∀ (u : Value) (d : List UInt8), Src W2 (fun k => k < B ∨ k = F ∨ k = M ∨ v.ownBlock = some k) u d → Src (W3.setCell ⟨F, 0, none⟩ v') (fun k => k < B ∨ k = F ∨ k = M ∨ v'.ownBlock = some k) u d := fun u d hs => by
    have k1 : Src W2 (fun k => (k < B ∨ k = F ∨ k = M ∨ v.ownBlock = some k) ∨ v'.ownBlock = some k) u d := hs.sub' (fun k hk e => by
      rcases e with e | e
      · exact e
      · rcases s3 k e with e2 | e2
        · exact .inr (.inr (.inr e2))
        · omega)
    have k2 := k1.turn (t3.mono (fun k _ e => .inl (.inr (.inr (.inr e)))))
    have k3 := k2.turn (ts.mono (fun k _ e => .inl (.inr (.inl e))))
    exact k3.sub (fun k e => by
      rcases e with e | e | e | e
      · exact .inl (.inl e)
      · exact .inl (.inr (.inl e))
      · exact .inl (.inr (.inr (.inl e)))
      · exact .inr e)
  refine ⟨?_, ?_, ?_, h.hF, h.hM, h.ne, hv', by simp, by rw [List.length_append]; simp; omega, fun m hm => ?_, fun m hm => ?_⟩
  · rw [heap_setCell_at W3 F 0 v' _ _ _ hF3]; rfl
  · refine ⟨r3.1, ?_⟩
    rcases r3.2 with hn | ⟨g, cap, cur, rfl, hBg, hg, rest⟩
    · exact .inl hn
    · exact .inr ⟨g, cap, cur, rfl, hBg, by rw [Below.heap_setCell _ _ _ _ (hv' g rfl).1]; exact hg, rest⟩
  · have e : pathsOf (l ++ [n]) = pathsOf l ++ [n.path.data.toList] := by unfold pathsOf; rw [List.map_append]; rfl
    rw [e]
    exact ((m1.turn t2 (fun e => hX.2.1 e.symm)).turn t3 (fun e => (h.hv M e).2 rfl)).turn ts (fun e => h.ne e.symm)
  · rcases List.mem_append.1 hm with hm | hm
    · refine key _ _ ((((hdat m hm).turn (t1.mono (fun k _ e => .inl (.inr (.inr (.inl e)))))).turn (t2.mono (fun k _ e => .inr e))).sub (fun k e => .inl e))
    · rw [List.mem_singleton] at hm
      subst hm
      refine key _ _ (hd.sub (fun k e => ?_))
      rcases e with e | e | e | e
      · have := t1.size; omega
      · have := t1.size; omega
      · have := t1.size; omega
      · have := (hvl k e).2; have := t1.size; omega
  · rcases List.mem_append.1 hm with hm | hm
    · exact h.knd m hm
    · rw [List.mem_singleton] at hm
      subst hm
      exact ⟨hk, hp, ht⟩
theorem Turn.of_grown1 {w w' : World} {g : Nat} (h : w.grownBy w' (some g)) : Turn (· = g) w w' := Turn.of_grown h (fun k e => (Option.some.inj e).symm)
theorem own_turn {w w' : World} {B : Nat} {e : TypeId} {s n : Nat} {v : Value} {xs : List Value} {F : Nat → Prop} (h : w.ownsRow B e s v n xs) (ht : Turn F w w') (hF : ∀ g, v.ownBlock = some g → ¬ F g) : w'.ownsRow B e s v n xs := by
  refine ⟨h.1, ?_⟩
  rcases h.2 with hn | ⟨g, cap, cur, rfl, hB, hg, rest⟩
  · exact .inl hn
  · exact .inr ⟨g, cap, cur, rfl, hB, by rw [ht.block g (Array.getElem?_eq_some_iff.1 hg).1 (hF g rfl)]; exact hg, rest⟩
theorem nd_form {w : World} {B : Nat} {v : Value} {l : List Nd} {n : Nd} (h : w.ownsRow B 40 4 v (l ++ [n]).length (flatN (l ++ [n]))) : ∃ g cap, v = .slice (some ⟨g, 0, none⟩) (l.length + 1) cap := by
  rcases h.2 with ⟨_, hn⟩ | ⟨g, cap, cur, e, _⟩
  · simp at hn
  · exact ⟨g, cap, by rw [e, List.length_append]; rfl⟩
theorem new_cells (W : World) (n : Nd) : ∀ j u, n.cells[j]? = some u → (W.alloc (.cells n.cells.toArray 40)).cell? ⟨W.heap.size, j, none⟩ = some u := fun j u h => by
  have e : (W.alloc (.cells n.cells.toArray 40)).heap[W.heap.size]? = some (.cells n.cells.toArray 40 (0, 0)) := heap_alloc_new W _
  unfold World.cell?
  rw [e]
  simpa using h
theorem cell_of_head {W : World} {F : Nat} {a b : Value} {t : TypeId} (h : W.heap[F]? = some (.cells #[a, b] t (0, 0))) : W.cell? ⟨F, 0, none⟩ = some a ∧ W.cell? ⟨F, 1, none⟩ = some b ∧ W.frozen? ⟨F, 0, none⟩ = false := by
  refine ⟨?_, ?_, ?_⟩ <;> simp [World.cell?, World.frozen?, h]
/-- A node in a box of its own. -/
def XH (W : World) (X : Nat) (n : Nd) : Prop := W.heap[X]? = some (.cells n.cells.toArray 40 (0, 0))
theorem XH.heap {W W' : World} {X : Nat} {n : Nd} (h : XH W X n) (hb : W'.heap[X]? = W.heap[X]?) : XH W' X n := hb.trans h
theorem XH.lt {W : World} {X : Nat} {n : Nd} (h : XH W X n) : X < W.heap.size := (Array.getElem?_eq_some_iff.1 h).1
structure X4 (W : World) (X : Nat) (n : Nd) : Prop where
  c0 : W.cell? ⟨X, 0, none⟩ = some (.string n.path)
  c1 : W.cell? ⟨X, 1, none⟩ = some (.int .i64 n.kind)
  c2 : W.cell? ⟨X, 2, none⟩ = some n.vd
  c3 : W.cell? ⟨X, 3, none⟩ = some (.string n.to)
  f2 : W.frozen? ⟨X, 2, none⟩ = false
theorem XH.cells {W : World} {X : Nat} {n : Nd} (h : XH W X n) : X4 W X n := by
  unfold XH at h
  constructor <;> simp [World.cell?, World.frozen?, h, Nd.cells]
theorem XH.new (W : World) (n : Nd) : XH (W.alloc (.cells n.cells.toArray 40)) W.heap.size n := heap_alloc_new W _
theorem XH.set {W : World} {X : Nat} {n : Nd} (h : XH W X n) (vd : Value) : XH (W.setCell ⟨X, 2, none⟩ vd) X { n with vd := vd } := by
  unfold XH at h ⊢
  rw [heap_setCell_at W X 2 vd _ _ _ h]; rfl
/-- The cells that the last region reads. -/
abbrev S5 (F : Nat) (v : Value) (X : Nat) (n : Nd) (W : World) : Prop := W.cell? ⟨F, 0, none⟩ = some v ∧ W.cell? ⟨X, 0, none⟩ = some (.string n.path) ∧ W.cell? ⟨X, 1, none⟩ = some (.int .i64 n.kind) ∧ W.cell? ⟨X, 2, none⟩ = some n.vd ∧ W.cell? ⟨X, 3, none⟩ = some (.string n.to)
theorem XH.five {W : World} {X : Nat} {n : Nd} (h : XH W X n) {F : Nat} {v : Value} (hf : W.cell? ⟨F, 0, none⟩ = some v) : S5 F v X n W := ⟨hf, h.cells.c0, h.cells.c1, h.cells.c2, h.cells.c3⟩
theorem add_fin {w w2 w3 X W6 : World} {B F M : Nat} {v v' : Value} {l : List Nd} {n : Nd} (hB : B ≤ w.heap.size) (hl : l.length ≤ 900) (b2 : Below w.heap.size w w2) (h2 : FsAt w2 B F M v l) (t3 : Turn (· = M) w2 w3) (m3 : MapAt w3 M (pathsOf l ++ [n.path.data.toList])) (t5 : Turn (· = w.heap.size) w3 X) (hX : w.heap.size ≠ F ∧ w.heap.size ≠ M ∧ v.ownBlock ≠ some w.heap.size)
    (hdat : ∀ m ∈ l, Src w (fun k => (k < B ∨ k = F ∨ k = M ∨ v.ownBlock = some k) ∨ k = w.heap.size) m.vd m.data) (r6 : W6.ownsRow B 40 4 v' (l ++ [n]).length (flatN (l ++ [n]))) (s6 : ∀ g, v'.ownBlock = some g → Same X v.ownBlock g) (g6 : X.grownBy W6 v.ownBlock)
    (hd : Src X (fun k => k < w3.heap.size) n.vd n.data) (hk : n.kind = 1 ∨ n.kind = 2 ∨ n.kind = 3) (hp : n.path.size ≤ 4096) (ht : n.to.size ≤ 4096) :
    Below B w (W6.setCell ⟨F, 0, none⟩ v') ∧ FsAt (W6.setCell ⟨F, 0, none⟩ v') B F M v' (l ++ [n]) := by
  have e2 : B ≤ w2.heap.size := Nat.le_trans hB b2.size
  have e3 : B ≤ w3.heap.size := Nat.le_trans e2 t3.size
  have e5 : B ≤ X.heap.size := Nat.le_trans e3 t5.size
  have e6 : B ≤ W6.heap.size := Nat.le_trans e5 g6.size
  have c2 : Below B w w2 := b2.mono hB
  have c3 : Below B w2 w3 := t3.below e2 (fun k e => by rw [e]; exact h2.hM)
  have c5 : Below B w3 X := t5.below e3 (fun k e => by rw [e]; exact hB)
  have c6 : Below B X W6 := (Turn.of_grown g6 (F := fun k => v.ownBlock = some k) (fun k e => e)).below e5 (fun k e => (World.ownsRow.lt h2.row k e).1)
  have c7 : Below B W6 (W6.setCell ⟨F, 0, none⟩ v') := (Turn.setCell W6 ⟨F, 0, none⟩ v').below e6 (fun k e => by rw [e]; exact h2.hF)
  exact ⟨c2.trans (c3.trans (c5.trans (c6.trans c7))), FsAt.put h2 hl t3 m3 t5 hX e2 (fun m hm => (hdat m hm).turn (Turn.of_below b2)) r6 s6 g6 hd hk hp ht⟩
set_option maxHeartbeats 4000000 in
theorem vfs_add (w : World) (hm : Mx w) (B F M : Nat) (v : Value) (l : List Nd) (h : FsAt w B F M v l) (hB : B ≤ w.heap.size) (hl : l.length ≤ 900) (n : Nd) (hs : Src w (fun k => B ≤ k) n.vd n.data) (hp : n.path.size ≤ 4096) (ht : n.to.size ≤ 4096) :
    Calls Tryd.prog 17 #[.pointer (some ⟨F, 0, none⟩), .agg n.cells.toArray] w fun e w' => e = .returned (.int .i64 (addE l n)) ∧ Below B w w' ∧ (addE l n = 0 → ∃ v' vd', FsAt w' B F M v' (l ++ [{ n with vd := vd' }])) := by
  have HS := hide hs
  obtain ⟨da, dc, hvd, hd1, hd2, _⟩ := hs
  have HFT : Hid (∀ k, (k = F ∨ k = M ∨ v.ownBlock = some k) → k < w.heap.size) := fun k e => by
    rcases e with e | e | e
    · rw [e]; exact (Array.getElem?_eq_some_iff.1 h.head).1
    · rw [e]; exact h.map.lt
    · exact (World.ownsRow.lt h.row k e).2
  have HDT : Hid (∀ m ∈ l, Src w (fun k => (k < B ∨ k = F ∨ k = M ∨ v.ownBlock = some k) ∨ k = w.heap.size) m.vd m.data) := fun m hm => (h.dat m hm).sub' (fun k hk e => by
    rcases e with e | e
    · exact e
    · omega)
  have HX0 := hide (XH.new w n)
  have hbx := below_box w (.cells n.cells.toArray 40)
  have HB0 := hide hbx
  have H0 := hide (h.stay hbx)
  have HM0 := hide (hm.below hbx)
  unfold Nd.cells at hbx HX0 HB0 H0 HM0 ⊢
  rw [hvd] at hbx HX0 HB0 H0 HM0 ⊢
  have hC := vfs_check (w.alloc (.cells #[.string n.path, .int .i64 n.kind, .slice da n.data.length dc, .string n.to] 40)) HM0.out n.path n.to n.kind da n.data.length dc (by unfold maxLen at hd2; omega) hp ht
  have X0 := HX0.out.cells
  obtain ⟨x0, x1, x2, x3, f2⟩ := X0
  rw [hvd] at x2
  have HVD := hide hvd
  have HBW := hide hB
  clear hm h hbx hvd hd1 hd2 f2
  go_enter Tryd.func17, Tryd.ntmps17
  go_wp2_with fail
  generalize w.alloc (.cells #[.string n.path, .int .i64 n.kind, .slice da n.data.length dc, .string n.to] 40) = w0 at *
  refine hC.mono ?_
  rintro e w1 ⟨rfl, hb1⟩
  have H1 := hide (H0.out.stay hb1)
  have HX1 := hide (HX0.out.heap (hb1.block _ HX0.out.lt))
  have HB1 : Hid (Below w.heap.size w w1) := HB0.out.trans (hb1.mono HB0.out.size)
  clear hC hb1 H0 HX0 x0 x1 x2 x3 HM0 HB0
  have HAE : Hid (addE l n = if chkE n.path.data.toList n.kind n.data.length n.to ≠ 0 then chkE n.path.data.toList n.kind n.data.length n.to else if isIn (pathsOf l) n.path.data.toList then 61 else 0) := rfl
  have HCK : Hid (chkE n.path.data.toList n.kind n.data.length n.to = 0 → n.kind = 1 ∨ n.kind = 2 ∨ n.kind = 3) := chk_kind
  have HCB : Hid (chkE n.path.data.toList n.kind n.data.length n.to = 0 → n.data.length ≤ 262144) := chk_big
  generalize chkE n.path.data.toList n.kind n.data.length n.to = ck at *
  by_cases hck : ck = 0
  · rw [if_neg (by simpa using hck)] at HAE
    have hckb : (ck != 0) = false := by rw [hck]; rfl
    obtain ⟨g, cap, rfl, C⟩ := H1.out.cells
    have hlook := fun k => (H1.out.map.turn (w' := w1.drewN k) (F := fun _ => False) ⟨rfl, rfl, rfl, Nat.le_refl _, fun _ _ _ => rfl⟩ id).ok n.path (by unfold maxLen; omega)
    have a0 := C.a0
    have a1 := C.a1
    obtain ⟨x0, x1, x2, x3, f2⟩ := HX1.out.cells
    rw [HVD.out] at x2
    have HK := hide (HCK.out hck)
    have hd := HCB.out hck
    have HXF0 : Hid (w.heap.size ≠ F ∧ w.heap.size ≠ M ∧ g ≠ w.heap.size) := ⟨fun e => by have := HFT.out F (.inl rfl); omega, fun e => by have := HFT.out M (.inr (.inl rfl)); omega, fun e => by have := HFT.out g (.inr (.inr rfl)); omega⟩
    clear C hck HCK
    cases hin : isIn (pathsOf l) n.path.data.toList with
    | true =>
      simp only [hin] at hlook
      rw [if_pos hin] at HAE
      generalize numOf (pathsOf l) n.path.data.toList = kn at *
      go_wp2_with fail
      go_quiet (fail)
      go_wp2
      go_ret
      exact ⟨by rw [HAE.out]; rfl, (HB1.out.mono hB).trans ((below_drewN w1 _).mono (Nat.le_trans hB HB1.out.size)), fun e => by rw [HAE.out] at e; cases e⟩
    | false =>
      simp only [hin] at hlook
      rw [if_neg (by rw [hin]; simp)] at HAE
      generalize numOf (pathsOf l) n.path.data.toList = kn at *
      go_wp2_with fail
      go_quiet (fail)
      go_wp2_with fail
      have H2 := hide (H1.out.stay (below_drewN w1 nq))
      have HX2 := hide (HX1.out.heap (W' := w1.drewN nq) rfl)
      have HB2 := hide (HB1.out.trans ((below_drewN w1 nq).mono HB1.out.size))
      clear H1 HX1 HB1 a0 a1 x0 x1 x2 x3 f2 hlook
      generalize w1.drewN nq = w2 at *
      have bd : Below w2.heap.size w2 w2.drew := ⟨rfl, rfl, rfl, Nat.le_refl _, fun _ _ => rfl⟩
      obtain ⟨w3, hup, hM3, hg3⟩ := (H2.out.stay bd).map.put n.path (by unfold maxLen; omega) hin (by rw [pathsOf_len]; omega)
      rw [pathsOf_len] at hup
      have a0 : w2.drew.cell? ⟨F, 0, none⟩ = some (.slice (some ⟨g, 0, none⟩) l.length cap) := by have := (H2.out.stay bd).head; simp [World.cell?, this]
      have a1 : w2.drew.cell? ⟨F, 1, none⟩ = some (.map (some M)) := by have := (H2.out.stay bd).head; simp [World.cell?, this]
      have x0 : w2.drew.cell? ⟨w.heap.size, 0, none⟩ = some (.string n.path) := (HX2.out.heap (W' := w2.drew) rfl).cells.c0
      have HM3 := hide hM3
      have DD := And.intro a0 (And.intro a1 x0)
      have T3 : Hid (Turn (· = M) w2 w3) := (Turn.of_below bd).trans (Turn.of_grown1 hg3)
      have HXF : Hid (w.heap.size ≠ F ∧ w.heap.size ≠ M ∧ g ≠ w.heap.size) := HXF0
      have HF3 : Hid (w3.heap[F]? = some (.cells #[.slice (some ⟨g, 0, none⟩) l.length cap, .map (some M)] 51 (0, 0))) := by
        unfold Hid; rw [T3.out.block F (Array.getElem?_eq_some_iff.1 H2.out.head).1 H2.out.ne]; exact H2.out.head
      have HX3 := hide (HX2.out.heap (W' := w3) (T3.out.block _ HX2.out.lt HXF.out.2.1))
      have EE : w3.cell? ⟨F, 0, none⟩ = some (.slice (some ⟨g, 0, none⟩) l.length cap) ∧ w3.cell? ⟨F, 1, none⟩ = some (.map (some M)) ∧ w3.cell? ⟨w.heap.size, 0, none⟩ = some (.string n.path) := ⟨by simp [World.cell?, HF3.out], by simp [World.cell?, HF3.out], HX3.out.cells.c0⟩
      clear bd hM3 hg3
      go_region_held_law (fun w' => w'.cell? ⟨F, 0, none⟩ = some (.slice (some ⟨g, 0, none⟩) l.length cap) ∧ w'.cell? ⟨F, 1, none⟩ = some (.map (some M)) ∧ w'.cell? ⟨w.heap.size, 0, none⟩ = some (.string n.path))
        (first | with_reducible assumption)
        (fail)
      clear EE DD a0 a1 x0 hup
      have hsr : Src w3 (fun k => B ≤ k) n.vd n.data := (HS.out.turn (Turn.of_below HB2.out)).turn (T3.out.mono (fun k _ e => by rw [e]; exact H2.out.hM))
      have hCl := lib_Clone w3 n.vd n.data (hsr.sub (fun k e => e.elim)) (by omega)
      rw [HVD.out] at hCl
      have x2 := HX3.out.cells.c2
      rw [HVD.out] at x2
      clear hsr
      go_wp2_with fail
      refine hCl.mono ?_
      rintro e w4 ⟨⟨vd', rfl, hsd⟩, hb4⟩
      have HSD := hide hsd
      have HX4 := hide (HX3.out.heap (W' := w4) (hb4.block _ HX3.out.lt))
      obtain ⟨va, vc, hva, _, _, _⟩ := hsd
      have HVA := hide hva
      have HB4 := hide hb4
      obtain ⟨y0, y1, y2, y3, f2⟩ := HX4.out.cells
      clear hCl x2 hb4 hva
      rw [HVA.out]
      go_wp2_with fail
      have HX5 := hide (HX4.out.set (.slice va n.data.length vc))
      have T5 : Hid (Turn (· = w.heap.size) w3 (w4.setCell ⟨w.heap.size, 2, none⟩ (.slice va n.data.length vc))) := (Turn.of_below HB4.out).trans (Turn.setCell w4 ⟨w.heap.size, 2, none⟩ (.slice va n.data.length vc))
      have HSD5 : Hid (Src (w4.setCell ⟨w.heap.size, 2, none⟩ (.slice va n.data.length vc)) (fun k => k < w3.heap.size) (.slice va n.data.length vc) n.data) := by
        have := HSD.out
        rw [HVA.out] at this
        exact this.turn ((Turn.setCell w4 ⟨w.heap.size, 2, none⟩ (.slice va n.data.length vc)).mono (fun k _ e => by rw [e]; exact HX3.out.lt))
      clear HX4 HB4 HSD HVA y0 y1 y2 y3 f2
      generalize w4.setCell ⟨w.heap.size, 2, none⟩ (.slice va n.data.length vc) = w5 at *
      have HF5 : Hid (w5.heap[F]? = some (.cells #[.slice (some ⟨g, 0, none⟩) l.length cap, .map (some M)] 51 (0, 0))) := by
        unfold Hid; rw [T5.out.block F (Array.getElem?_eq_some_iff.1 HF3.out).1 (fun e => HXF.out.1 e.symm)]; exact HF3.out
      have HR5 : Hid (w5.ownsRow B 40 4 (.slice (some ⟨g, 0, none⟩) l.length cap) l.length (flatN l)) := own_turn (own_turn H2.out.row T3.out (fun k e e2 => (H2.out.hv k e).2 e2)) T5.out (fun k e e2 => HXF.out.2.2 ((Option.some.inj e).trans e2))
      have a0 : w5.drew.cell? ⟨F, 0, none⟩ = some (.slice (some ⟨g, 0, none⟩) l.length cap) := (cell_of_head (W := w5.drew) HF5.out).1
      obtain ⟨y0, y1, y2, y3, f2⟩ := (HX5.out.heap (W' := w5.drew) rfl).cells
      have a0' : ∀ o, (w5.alloc o).cell? ⟨F, 0, none⟩ = some (.slice (some ⟨g, 0, none⟩) l.length cap) := fun o => by rw [World.cell?_alloc_lt _ _ _ (Array.getElem?_eq_some_iff.1 HF5.out).1]; exact (cell_of_head HF5.out).1
      have HRA : Hid (∀ o, (w5.drew.alloc o).ownsRow B 40 4 (.slice (some ⟨g, 0, none⟩) l.length cap) l.length (flatN l)) := fun o => own_turn HR5.out (Turn.of_below (F := fun _ => False) ((below_drewN w5 1).trans ((below_box w5.drew o)))) (fun _ _ => id)
      have HFA : Hid (∀ o, (w5.drew.alloc o).heap[F]? = some (.cells #[.slice (some ⟨g, 0, none⟩) l.length cap, .map (some M)] 51 (0, 0))) := fun o => by rw [Below.heap_alloc _ _ _ (show F < w5.drew.heap.size from (Array.getElem?_eq_some_iff.1 HF5.out).1)]; exact HF5.out
      have HGF : Hid (some F ≠ (Value.slice (some ⟨g, 0, none⟩) l.length cap).ownBlock) := fun e => (H2.out.hv F e.symm).1 rfl
      have HTA : Hid (∀ o, Turn (· = w.heap.size) w3 (w5.drew.alloc o)) := fun o => T5.out.trans (Turn.of_below ((below_drewN w5 1).trans (below_box w5.drew o)))
      have HSA : Hid (∀ o, Src (w5.drew.alloc o) (fun k => k < w3.heap.size) (.slice va n.data.length vc) n.data) := fun o => HSD5.out.turn (Turn.of_below ((below_drewN w5 1).trans (below_box w5.drew o)))
      have HQ := hide (new_cells w5.drew { n with vd := .slice va n.data.length vc })
      have HBS : Hid (∀ o, B ≤ (w5.drew.alloc o).heap.size) := fun o => by
        have h1 := HB2.out.size
        have h2 := T3.out.size
        have h3 := T5.out.size
        have h4 : (w5.drew.alloc o).heap.size = w5.heap.size + 1 := by simp
        have := HBW.out
        omega
      dsimp only at y0 y1 y2 y3
      go_region_law (refine step_append_nd rfl (.tmp 43) (.tmp 45) rfl B _ l (HRA.out _) { n with vd := .slice va n.data.length vc } ⟨_, _, _, rfl⟩ rfl _ rfl HQ.out (by omega) (HBS.out _) ?_; intro v6 W6 r6 s6 g6; have HR6 := hide r6; have HS6 := hide s6; have HG6 := hide g6; have h6 := cell_of_head ((g6.block F (Array.getElem?_eq_some_iff.1 (HFA.out _)).1 HGF.out).trans (HFA.out _)); obtain ⟨z0, z1, z2⟩ := h6; obtain ⟨g7, cap7, hv6⟩ := nd_form r6; subst hv6; clear r6 s6 g6)
      all_goals
        go_wp2
        go_ret
        have fin := add_fin (n := { n with vd := .slice va n.data.length vc }) HBW.out hl HB2.out H2.out T3.out HM3.out (HTA.out _) ⟨HXF.out.1, HXF.out.2.1, fun e => HXF.out.2.2 (Option.some.inj e)⟩ HDT.out HR6.out HS6.out HG6.out (HSA.out _) HK.out hp ht
        exact ⟨by rw [HAE.out]; rfl, fin.1, fun _ => ⟨_, _, fin.2⟩⟩
  · rw [if_pos hck] at HAE
    have hckb : (ck != 0) = true := by simpa using hck
    clear hck
    go_wp2
    go_ret
    exact ⟨by rw [HAE.out]; rfl, HB1.out.mono hB, fun e => by rw [HAE.out] at e; simp [e] at hckb⟩
end Go.Proofs.YthkpcafbfgfjpaaDoor
