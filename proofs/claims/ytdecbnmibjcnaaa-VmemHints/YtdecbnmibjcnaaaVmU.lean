
/-
  A room more in a row of rooms: insert keeps its contract.
-/
import Derived.Test.YtdecbnmibjcnaaaVmT
import Derived.Deep.DeepAppendWide
set_option linter.unusedVariables false
namespace Go.Proofs.Ytdecbnmibjcnaaa
open Go.RowKit Go.PlainAid
/-- A row lies where it lay, or in a new block. -/
def Same (w : World) (o : Option Nat) (g : Nat) : Prop := o = some g ∨ w.heap.size ≤ g
theorem run_append_one (w : World) (ty : TypeId) (v : Value) (n : Nat) (xs : List Value) (hown : w.ownsRow 0 85 2 v n xs) (ad : Addr) (c : Nat) (news : List Value) (hl : news.length = 2) (hnews : ∀ j u, news[j]? = some u → w.cell? (ad.add j) = some u) (h1 : ∀ u ∈ news, u.oneCell' = true) (hn : n ≤ 1024) :
    ∃ g cap w', (Builtin.append_ #[72, 72] ty #[v, .slice (some ad) 1 c]).run Try.prog w = .ok (.slice (some ⟨g, 0, none⟩) (n + 1) cap) w' ∧ HoldsN w' g 85 (cap * 2) (xs ++ news) ∧ n + 1 ≤ cap ∧ cap ≤ maxLen ∧ Same w v.ownBlock g ∧ w.grownBy w' v.ownBlock := by
  obtain ⟨i, hi, hz0, hz1, hz2⟩ := info_parts Try.infoR
  have conv : ∀ (B : Nat) (v' : Value) (w' : World), w'.ownsRow B 85 2 v' (n + 1) (xs ++ news) → ∃ g cap, v' = .slice (some ⟨g, 0, none⟩) (n + 1) cap ∧ B ≤ g ∧ HoldsN w' g 85 (cap * 2) (xs ++ news) ∧ n + 1 ≤ cap ∧ cap ≤ maxLen := by
    intro B v' w' h
    rcases h.2 with ⟨_, e⟩ | ⟨g, cap, cur, rfl, hB, hg, hc1, hc2, hc3, hc4⟩
    · omega
    · exact ⟨g, cap, rfl, hB, ⟨cur, hg, hc3, hc4 ▸ List.take_prefix _ _⟩, hc1, hc2⟩
  have hA := fun B (hB : B ≤ w.heap.size) (ho : w.ownsRow B 85 2 v n xs) => run_append_own_wide (P := Try.prog) w B 72 ty 85 i (.agg #[.int .u64 0, .slice none 0 0]) 2 32 Try.underlying72 hi hz0 hz1 hz2 rfl (by decide) v n xs ho ad 1 c news (by omega) hnews h1 (by unfold maxLen; omega) (by omega) hB
  rcases hown.2 with ⟨rfl, rfl⟩ | ⟨g, cap, cur, rfl, _, hg, hc1, hc2, hc3, hc4⟩
  · obtain ⟨v', w', hr, ho, hgr, _⟩ := hA w.heap.size (Nat.le_refl _) ⟨hown.1, .inl ⟨rfl, rfl⟩⟩
    obtain ⟨g, cap, rfl, hB, hh, h2, h3⟩ := conv _ _ _ ho
    exact ⟨g, cap, w', hr, hh, h2, h3, .inr hB, hgr⟩
  · by_cases hroom : n + 1 ≤ cap
    · obtain ⟨v', w', hr, ho, hgr, _⟩ := hA 0 (Nat.zero_le _) hown
      have hr2 := run_append_room (P := Try.prog) w 72 ty 85 i Try.underlying72 hi g n cap cur hg ad 1 c news (by rw [hz1]; omega) hnews h1 hroom (by rw [hz1]; omega)
      obtain ⟨g', cap', rfl, hB, hh, h2, h3⟩ := conv _ _ _ ho
      rw [hr] at hr2
      injection hr2 with e1 e2
      injection e1 with e1 _ _
      injection e1 with e1
      injection e1 with e1
      subst e1
      exact ⟨g', cap', w', hr, hh, h2, h3, .inl rfl, hgr⟩
    · obtain ⟨v', w', hr, ho, hgr, _⟩ := hA 0 (Nat.zero_le _) hown
      have hr2 := run_append_grow (P := Try.prog) w 72 ty 85 i (.agg #[.int .u64 0, .slice none 0 0]) Try.underlying72 hi hz0 ⟨g, 0, none⟩ n cap xs (by rw [hz1]; exact hown.1) (hown.cells (g := g) rfl) ad 1 c news (by rw [hz1]; omega) hnews (by omega) (by omega) (by rw [hz2]; exact growslice_fits_wide (by omega) (by omega))
      obtain ⟨g', cap', rfl, hB, hh, h2, h3⟩ := conv _ _ _ ho
      rw [hr] at hr2
      injection hr2 with e1 e2
      injection e1 with e1 _ _
      injection e1 with e1
      injection e1 with e1
      exact ⟨g', cap', w', hr, hh, h2, h3, .inr (by rw [e1]; exact Nat.le_refl _), hgr⟩
theorem append_one {ops : Array Oper} {rest : List Oper} {o : Oper} {a : Act} {Q : Exit → Act → World → Prop} {w : World} (hgd : o.guard = none) (s x : Operand)
    (ho : o.op = .call { callee := .builtin .append, args := #[s, x], argTypes := #[72, 72] }) (v : Value) (n : Nat) (xs : List Value) (hown : w.ownsRow 0 85 2 v n xs) (ad : Addr) (c : Nat) (news : List Value) (hl : news.length = 2) (hnews : ∀ j u, news[j]? = some u → w.cell? (ad.add j) = some u) (h1 : ∀ u ∈ news, u.oneCell' = true) (hn : n ≤ 1024)
    (hs : a.eval s = v) (hx : a.eval x = .slice (some ad) 1 c)
    (h : ∀ g cap w', HoldsN w' g 85 (cap * 2) (xs ++ news) → n + 1 ≤ cap → cap ≤ maxLen → Same w v.ownBlock g → w.grownBy w' v.ownBlock → wpList Try.prog ops Q rest (a.put o.dst (.slice (some ⟨g, 0, none⟩) (n + 1) cap)) w') : wpList Try.prog ops Q (o :: rest) a w := by
  obtain ⟨g, cap, w', hr, h2, h3, h4, h5, h6⟩ := run_append_one w o.type v n xs hown ad c news hl hnews h1 hn
  refine wpList_plain hgd fun _ hK => ?_
  unfold Oper.wp execOp
  simp only [ho, resolve, invoke, builtin, Sem.run_bind, Sem.run_pure, Result.andThen_ok, List.map_toArray, List.map_cons, List.map_nil, hs, hx, hr]
  exact hK _ _ (h g cap w' h2 h3 h4 h5 h6)
/-- copy(s[i+1:], s[i:]) within a row of rooms. -/
theorem step_copy {ops : Array Oper} {o : Oper} {a : Act} {w : World} {K : Act → World → Prop} {Q : Exit → Act → World → Prop} {E : Prop}
    (hgd : o.guard = none) (x y : Operand) (hop : o.op = Op.call { callee := Callee.builtin Builtin.copy, args := #[x, y], argTypes := #[72, 72] })
    (g j dl dc sl sc N : Nat) (ad src : Addr) (xs cs : List Value) (hh : HoldsN w g 85 N xs) (hx : a.eval x = .slice (some ad) dl dc) (hy : a.eval y = .slice (some src) sl sc) (hm : min sl dl = dl) (hl : cs.length = dl * 2) (had : dl = 0 ∨ ad = ⟨g, j, none⟩)
    (hc : ∀ t u, cs[t]? = some u → w.cell? (src.add t) = some u) (h1 : ∀ u ∈ cs, u.oneCell' = true) (hj : j ≤ xs.length) (hfit : j + cs.length ≤ N)
    (hK : ∀ w', HoldsN w' g 85 N (xs.take j ++ cs) → w.grownBy w' (some g) → K (a.put o.dst (.int .i64 dl)) w') :
    if Region.wanted o (yielded ops a.tmps) = true then Oper.wp Try.prog o a w K Q else E := by
  have hw : Region.wanted o (yielded ops a.tmps) = true := by simp [Region.wanted, hgd]
  rw [if_pos hw]
  obtain ⟨i, hi, hz0, hz1, hz2⟩ := info_parts Try.infoR
  obtain ⟨cur, hg, hN, hp⟩ := hh
  have hf := run_firstCells_some (P := Try.prog) w 2 dl src sl sc cs hl hc
  have hsz : ∀ w, (Go.sizeOf 85).run Try.prog w = .ok 2 w := Try.sizeOf85
  have hgi : goInt dl = .int .i64 dl := rfl
  rcases Nat.eq_zero_or_pos dl with hz | hpos
  · subst hz
    have hcs : cs = [] := List.eq_nil_of_length_eq_zero (by omega)
    subst hcs
    have hrun : (Builtin.copy_ #[72, 72] o.type #[.slice (some ad) 0 dc, .slice (some src) sl sc]).run Try.prog w = .ok (goInt 0) w := by
      simp [Builtin.copy_, run_underlying Try.underlying72, Builtin.lenOf, hsz]
      rw [hf]
      simp [storeCells, Result.andThen]
    unfold Oper.wp
    simp [execOp, hop, resolve, invoke, builtin, hx, hy, hrun, Result.andThen]
    exact hK _ ⟨cur, hg, hN, by rw [List.append_nil]; exact (List.take_prefix _ _).trans hp⟩ (World.grownBy.refl w _)
  · have had2 : ad = ⟨g, j, none⟩ := by rcases had with e | e; · omega
                                        · exact e
    subst had2
    have hst := run_storeCells_at Try.prog g j 85 cs 0 cur w hg (by omega) h1
    simp only [Nat.add_zero] at hst
    have hrun : (Builtin.copy_ #[72, 72] o.type #[.slice (some ⟨g, j, none⟩) dl dc, .slice (some src) sl sc]).run Try.prog w = .ok (goInt dl) (w.setRow g (cur.toList.take j ++ cs ++ cur.toList.drop (j + cs.length)).toArray) := by
      simp [Builtin.copy_, run_underlying Try.underlying72, Builtin.lenOf, hsz]
      rw [show sl.min dl = dl from hm, hf]
      simp [Result.andThen, hst]
    unfold Oper.wp
    simp only [execOp, hop, resolve, invoke, builtin, Sem.run_bind, Sem.run_pure, Result.andThen_ok, List.map_toArray, List.map_cons, List.map_nil, hx, hy, hrun]
    refine hK _ ⟨_, setRow_heap w g cur _ _ _ hg, ?_, ?_⟩ ⟨rfl, rfl, rfl, by simp, fun k _ hk => setRow_other w g k _ (fun e => hk (by rw [e]))⟩
    · rw [seg_len (by omega)]; exact hN
    · exact seg_prefix hp hj
/-- Where things lie behind the append of insert. -/
structure InsAt (w W : World) (S : Nat) (v : Value) (sp : Sp) (r : Rm) (g cap : Nat) : Prop where
  hn : HoldsN W g 85 (cap * 2) (flatR sp.rooms ++ [.int .u64 0, .slice none 0 0])
  head : W.heap[S]? = some (.cells #[.int .i64 sp.budget, .slice (some ⟨g, 0, none⟩) (sp.rooms.length + 1) cap] 74 (0, 0))
  box : W.heap[w.heap.size]? = some (.cells #[.int .u64 r.pos, r.sl] 85 (0, 0))
  same : Same w v.ownBlock g
  gne : g ≠ w.heap.size
  pgs : ∀ x ∈ sp.rooms, Holds W x.blk 88 (flatS x.pages)
  turn : Turn (· ∈ foot S v sp.rooms) w W
theorem HoldsN.setCell {w : World} {g : Nat} {t : TypeId} {N : Nat} {xs : List Value} (h : HoldsN w g t N xs) (j : Nat) (hj : j < xs.length) (v : Value) : HoldsN (w.setCell ⟨g, j, none⟩ v) g t N (xs.set j v) := by
  obtain ⟨cur, h1, h2, h3⟩ := h
  refine ⟨cur.setIfInBounds j v, heap_setCell_same w g j cur t v h1, by simp [h2], ?_⟩
  obtain ⟨r, hr⟩ := h3
  refine ⟨r, ?_⟩
  rw [Array.toList_setIfInBounds, ← hr, List.set_append_left _ _ hj]
theorem ins_take (l : List Rm) (i : Nat) (hi : i ≤ l.length) (z0 z1 : Value) : ∃ c0 c1, (flatR l ++ [z0, z1]).take ((i + 1) * 2) = flatR (l.take i) ++ [c0, c1] := by
  have e : (i + 1) * 2 = i * 2 + 2 := by omega
  rw [e, List.take_add]
  have e1 : (flatR l ++ [z0, z1]).take (i * 2) = flatR (l.take i) := by
    rw [List.take_append_of_le_length (by rw [flatR_len]; omega), flatR_take]
  rw [e1]
  have hl : (((flatR l ++ [z0, z1]).drop (i * 2)).take 2).length = 2 := by
    rw [List.length_take, List.length_drop, List.length_append, flatR_len]; simp; omega
  match h : ((flatR l ++ [z0, z1]).drop (i * 2)).take 2, hl with
  | [a, b], _ => exact ⟨a, b, rfl⟩
theorem ins_set (l : List Rm) (i : Nat) (hi : i ≤ l.length) (c0 c1 : Value) (r : Rm) : ((flatR (l.take i) ++ [c0, c1] ++ flatR (l.drop i)).set (i * 2) (.int .u64 r.pos)).set (i * 2 + 1) r.sl = flatR (l.take i ++ r :: l.drop i) := by
  have hl : (flatR (l.take i)).length = i * 2 := by rw [flatR_len, List.length_take]; omega
  rw [flatR_app, List.append_assoc, List.set_append_right _ _ (by omega), hl, Nat.sub_self, List.set_append_right _ _ (by omega), hl, show i * 2 + 1 - i * 2 = 1 by omega]
  rfl
theorem ins_nodup {S g : Nat} {l : List Rm} {r : Rm} {i : Nat} (h1 : S ≠ g) (h2 : S ∉ l.map Rm.blk) (h3 : g ∉ l.map Rm.blk) (h4 : (l.map Rm.blk).Nodup) (h5 : r.blk ≠ S) (h6 : r.blk ≠ g) (h7 : r.blk ∉ l.map Rm.blk) : (S :: g :: (l.take i ++ r :: l.drop i).map Rm.blk).Nodup := by
  have hp : ((l.take i ++ r :: l.drop i).map Rm.blk).Perm (r.blk :: l.map Rm.blk) := by
    have := (List.perm_middle (l₁ := l.take i) (a := r) (l₂ := l.drop i)).map Rm.blk
    rw [List.take_append_drop] at this
    exact this
  have hm : ∀ k, k ∈ (l.take i ++ r :: l.drop i).map Rm.blk ↔ k = r.blk ∨ k ∈ l.map Rm.blk := fun k => by rw [hp.mem_iff, List.mem_cons]
  refine List.nodup_cons.2 ⟨fun hx => ?_, List.nodup_cons.2 ⟨fun hx => ?_, hp.nodup_iff.2 (List.nodup_cons.2 ⟨h7, h4⟩)⟩⟩
  · rcases List.mem_cons.1 hx with e | e
    · exact h1 e
    · rcases (hm S).1 e with e | e
      · exact h5 e.symm
      · exact h2 e
  · rcases (hm g).1 hx with e | e
    · exact h6 e.symm
    · exact h3 e
set_option maxHeartbeats 4000000 in
theorem vm_insert (w : World) (S : Nat) (v : Value) (sp : Sp) (h : SpAt w S v sp) (hk : sp.ok) (r : Rm) (hlen : sp.rooms.length ≤ 1023) (hr : Holds w r.blk 88 (flatS r.pages)) (hrf : r.blk ∉ foot S v sp.rooms) :
    Calls Try.prog 42 #[.pointer (some ⟨S, 0, none⟩), .agg #[.int .u64 r.pos, r.sl]] w fun e w' => e = .returned (.tuple #[]) ∧ (∃ v', SpAt w' S v' { sp with rooms := sp.rooms.take (begun sp.rooms r.pos) ++ r :: sp.rooms.drop (begun sp.rooms r.pos) } ∧ ∀ g, v'.ownBlock = some g → Same w v.ownBlock g) ∧ Turn (· ∈ foot S v sp.rooms) w w' := by
  have hB0 : Below w.heap.size w (w.alloc (.cells #[.int .u64 r.pos, r.sl] 85)) := (Below.refl _ w).alloc (Nat.le_refl _) _
  have hsp0 := h.stay hB0
  have hBe := vm_begun (w.alloc (.cells #[.int .u64 r.pos, r.sl] 85)) S v sp hsp0 hk r.pos
  have hble := begun_le sp.rooms r.pos
  have HSP : Hid (SpAt w S v sp) := h
  have HFL := h.foot_lt
  generalize begun sp.rooms r.pos = i at *
  have hform : ∃ s cp, v = .slice s sp.rooms.length cp := by
    rcases h.told with ⟨rfl, e⟩ | ⟨g, cap, ht⟩
    · exact ⟨none, 0, by rw [e]; rfl⟩
    · exact ⟨_, _, ht.form⟩
  have HB0 : Hid (Below w.heap.size w (w.alloc (.cells #[.int .u64 r.pos, r.sl] 85))) := hB0
  have HBX : Hid ((w.alloc (.cells #[.int .u64 r.pos, r.sl] 85)).heap[w.heap.size]? = some (.cells #[.int .u64 r.pos, r.sl] 85 (0, 0))) := heap_alloc_new w _
  have HW0 : Hid ((w.alloc (.cells #[.int .u64 r.pos, r.sl] 85)).heap.size = w.heap.size + 1) := by unfold Hid; simp
  have key : ∀ (w1 w3 : World) (g cap : Nat), Below (w.alloc (.cells #[.int .u64 r.pos, r.sl] 85)).heap.size (w.alloc (.cells #[.int .u64 r.pos, r.sl] 85)) w1 → HoldsN w3 g 85 (cap * 2) (flatR sp.rooms ++ [.int .u64 0, .slice none 0 0]) →
      Same (w1.alloc (.cells #[.int .u64 0, .slice none 0 0] 85)) v.ownBlock g → (w1.alloc (.cells #[.int .u64 0, .slice none 0 0] 85)).grownBy w3 v.ownBlock →
      (w3.heap[S]? = some (.cells #[.int .i64 sp.budget, v] 74 (0, 0)) ∧ InsAt w (w3.setCell ⟨S, 1, none⟩ (.slice (some ⟨g, 0, none⟩) (sp.rooms.length + 1) cap)) S v sp r g cap) := by
    intro w1 w3 g cap hb1 hN hS hG
    have hw1 : w.heap.size + 1 ≤ w1.heap.size := by have := hb1.size; have := HW0.out; omega
    have hBw1 : Below w.heap.size w w1 := hB0.trans (hb1.mono hB0.size)
    have hBw2 : Below w.heap.size w (w1.alloc (.cells #[.int .u64 0, .slice none 0 0] 85)) := hBw1.alloc hBw1.size _
    have hsp1 := h.stay hBw2
    have hown : ∀ k, v.ownBlock = some k → k < w.heap.size ∧ k ∈ foot S v sp.rooms ∧ k ≠ S := by
      intro k hk
      have hm : k ∈ foot S v sp.rooms := List.mem_cons_of_mem _ (List.mem_append_left _ (by rw [hk]; simp))
      refine ⟨HFL k hm, hm, fun e => ?_⟩
      have := h.nod
      rw [List.nodup_cons] at this
      exact this.1 (List.mem_append_left _ (by rw [hk, e]; simp))
    have hSne : some S ≠ v.ownBlock := fun e => (hown S e.symm).2.2 rfl
    have hgS : g ≠ S := by
      rcases hS with e | e
      · exact (hown g e).2.2
      · have := hsp1.lt; have := h.lt; intro e2; rw [e2] at e; omega
    have hgB : g ≠ w.heap.size := by
      rcases hS with e | e
      · have := (hown g e).1; omega
      · have h2 : (w1.alloc (.cells #[.int .u64 0, .slice none 0 0] 85)).heap.size = w1.heap.size + 1 := by simp
        omega
    have hT : Turn (· ∈ foot S v sp.rooms) w w3 := by
      refine ⟨hG.os.trans hBw2.os, hG.tape.trans hBw2.tape, hG.output.trans hBw2.output, Nat.le_trans hBw2.size hG.size, fun k hk hf => ?_⟩
      rw [hG.block k (Nat.lt_of_lt_of_le hk hBw2.size) (fun e => hf (hown k e.symm).2.1), hBw2.block k hk]
    have hhead : w3.heap[S]? = some (.cells #[.int .i64 sp.budget, v] 74 (0, 0)) := (hG.block S hsp1.lt hSne).trans hsp1.head
    refine ⟨hhead, hN.setOther _ hgS _, heap_setCell_same w3 S 1 _ _ _ hhead, ?_, ?_, hgB, ?_, hT.trans ⟨rfl, rfl, rfl, by simp, fun k _ hk => heap_setCell_other _ _ _ _ (fun e => hk ?_)⟩⟩
    · rw [heap_setCell_other _ _ _ _ (show w.heap.size ≠ S by have := h.lt; omega), hG.block w.heap.size (by simp; omega) (fun e => by have := (hown _ e.symm).1; omega), Below.heap_alloc _ _ _ (by omega), hb1.block w.heap.size (by have := HW0.out; omega)]
      exact HBX.out
    · rcases hS with e | e
      · exact .inl e
      · right; have h2 : (w1.alloc (.cells #[.int .u64 0, .slice none 0 0] 85)).heap.size = w1.heap.size + 1 := by simp
        omega
    · intro x hx
      refine Holds.setOther ?_ _ (fun e => (h.apart hx).1 (by have e' : x.blk = S := e; exact e'.symm)) _
      obtain ⟨cur, hc1, hc2⟩ := hsp1.pgs x hx
      refine ⟨cur, ?_, hc2⟩
      rw [hG.block x.blk (hsp1.pgs x hx).lt (fun e => (h.apart hx).2 x.blk e.symm rfl)]; exact hc1
    · have e' : k = S := e
      rw [e']; exact List.mem_cons_self
  obtain ⟨bl, m, cp, hsl⟩ : ∃ bl m cp, r.sl = .slice (some ⟨bl, 0, none⟩) m cp := ⟨_, _, _, rfl⟩
  have HSL : Hid (r.sl = .slice (some ⟨bl, 0, none⟩) m cp) := hsl
  have HR : Hid (Holds w r.blk 88 (flatS r.pages)) := hr
  have HRF : Hid (r.blk ∉ foot S v sp.rooms) := hrf
  rw [hsl] at hBe key HB0 HBX HW0 hsp0 ⊢
  have KEY : Hid _ := key
  obtain ⟨s0, c0, hv⟩ := hform
  have hSlt := h.lt
  have HC1 : Hid (∀ w1, Below (w.alloc (.cells #[.int .u64 r.pos, .slice (some ⟨bl, 0, none⟩) m cp] 85)).heap.size (w.alloc (.cells #[.int .u64 r.pos, .slice (some ⟨bl, 0, none⟩) m cp] 85)) w1 → w1.cell? ⟨S, 1, none⟩ = some v) := fun w1 hb => (hsp0.stay hb).c1
  have HOWN : Hid (∀ w1, Below (w.alloc (.cells #[.int .u64 r.pos, .slice (some ⟨bl, 0, none⟩) m cp] 85)).heap.size (w.alloc (.cells #[.int .u64 r.pos, .slice (some ⟨bl, 0, none⟩) m cp] 85)) w1 → (w1.alloc (.cells #[.int .u64 0, .slice none 0 0] 85)).ownsRow 0 85 2 v sp.rooms.length (flatR sp.rooms)) := fun w1 hb => World.ownsRow.alloc (hsp0.stay hb).row _
  subst hv
  clear key h hB0 hsl hr hrf HFL hk hsp0
  go_enter Try.func42, Try.ntmps42
  go_wp2_with (first | (go_at_call 48; refine hBe.mono ?_; rintro e w1 ⟨rfl, hb⟩; have e2 := HC1.out w1 hb; have HB1 : Hid (Below (w.alloc (.cells #[.int .u64 r.pos, .slice (some ⟨bl, 0, none⟩) m cp] 85)).heap.size (w.alloc (.cells #[.int .u64 r.pos, .slice (some ⟨bl, 0, none⟩) m cp] 85)) w1) := hb; clear hBe hb) | (at_builtin; refine append_one rfl _ _ rfl _ sp.rooms.length (flatR sp.rooms) (HOWN.out w1 HB1.out) ⟨w1.heap.size, 0, none⟩ 1 [.int .u64 0, .slice none 0 0] rfl ?hc ?ho (by omega) rfl rfl ?_))
  case hc =>
    intro j u hu
    match j, hu with
    | 0, hu => simp at hu; subst hu; simp [Addr.add]
    | 1, hu => simp at hu; subst hu; simp [Addr.add]
  case ho => intro u hu; simp at hu; rcases hu with rfl | rfl <;> rfl
  intro g cap w3 a1 a2 a3 a4 a5
  obtain ⟨k1, k2⟩ := KEY.out w1 w3 g cap HB1.out a1 a4 a5
  have f1 : w3.cell? ⟨S, 1, none⟩ = some (.slice s0 sp.rooms.length c0) := by simp [World.cell?, k1]
  have f2 : w3.frozen? ⟨S, 1, none⟩ = false := by simp [World.frozen?, k1]
  have hcap : cap ≤ 9223372036854775807 := by unfold maxLen at a3; omega
  have HCM : Hid (cap ≤ maxLen) := a3
  have KI : Hid (InsAt w (w3.setCell ⟨S, 1, none⟩ (.slice (some ⟨g, 0, none⟩) (sp.rooms.length + 1) cap)) S (.slice s0 sp.rooms.length c0) sp r g cap) := k2
  clear KEY HOWN HC1 k1 k2 a1 a3 a4 a5 HB0 HBX HW0 HB1 e2
  go_wp2_with fail
  clear f1 f2
  generalize w3.setCell ⟨S, 1, none⟩ (.slice (some ⟨g, 0, none⟩) (sp.rooms.length + 1) cap) = W at *
  have g1 : W.cell? ⟨S, 1, none⟩ = some (.slice (some ⟨g, 0, none⟩) (sp.rooms.length + 1) cap) := by simp [World.cell?, KI.out.head]
  have n1 : (i : Int) + 1 ≤ (sp.rooms.length : Int) + 1 := by omega
  have n2 : (0 : Int) ≤ (i : Int) + 1 := by omega
  have n3 : (i : Int) ≤ (sp.rooms.length : Int) + 1 := by omega
  have n4 : ¬ cap = i := by omega
  have n5 : IntKind.i64.wrap ((i : Int) + 1) = (i : Int) + 1 := IntWalk.i64_in _ (by omega)
  obtain ⟨AD, hAD, hADe⟩ : ∃ AD : Addr, (if cap = i + 1 then some (⟨g, 0, none⟩ : Addr) else some ⟨g, (i + 1) * 2, none⟩) = some AD ∧ Hid (sp.rooms.length - i = 0 ∨ AD = ⟨g, (i + 1) * 2, none⟩) := by
    by_cases hc : cap = i + 1
    · exact ⟨⟨g, 0, none⟩, by simp [hc], .inl (by omega)⟩
    · exact ⟨⟨g, (i + 1) * 2, none⟩, by simp [hc], .inr rfl⟩
  have hfl := flatR_len sp.rooms
  have HDL : Hid ((flatR (sp.rooms.drop i)).length = (sp.rooms.length - i) * 2) := by unfold Hid; rw [flatR_len, List.length_drop]
  have HSRC : Hid (∀ t u, (flatR (sp.rooms.drop i))[t]? = some u → W.drew.cell? ((⟨g, i * 2, none⟩ : Addr).add t) = some u) := fun t u hu => by
    have ht := (List.getElem?_eq_some_iff.1 hu).1
    rw [HDL.out] at ht
    rw [flatR_drop, List.getElem?_drop] at hu
    rw [Addr.add_mid]
    exact KI.out.hn.holds.cell _ _ (by rw [List.getElem?_append_left (by omega)]; exact hu)
  have HN0 : Hid (HoldsN W.drew g 85 (cap * 2) (flatR sp.rooms ++ [.int .u64 0, .slice none 0 0])) := KI.out.hn
  have HXL : Hid ((flatR sp.rooms ++ [Value.int .u64 0, Value.slice none 0 0]).length = (sp.rooms.length + 1) * 2) := by unfold Hid; rw [List.length_append, hfl]; simp; omega
  have HONE : Hid (∀ u ∈ flatR (sp.rooms.drop i), u.oneCell' = true) := flatR_one _
  clear hfl
  go_region_law (refine step_copy rfl (.tmp 25) (.tmp 31) rfl g ((i + 1) * 2) (sp.rooms.length - i) (cap - (i + 1)) (sp.rooms.length + 1 - i) (cap - i) (cap * 2) AD ⟨g, i * 2, none⟩ _ (flatR (sp.rooms.drop i)) HN0.out (by simp [Act.eval, Act.put]) (by simp [Act.eval, Act.put]) (by omega) HDL.out hADe.out HSRC.out HONE.out (by rw [HXL.out]; omega) (by rw [HDL.out]; omega) ?_; intro w5 h1 h2; have H5 : Hid (HoldsN w5 g 85 (cap * 2) ((flatR sp.rooms ++ [Value.int .u64 0, Value.slice none 0 0]).take ((i + 1) * 2) ++ flatR (sp.rooms.drop i))) := h1; have H6 : Hid (W.drew.grownBy w5 (some g)) := h2; clear h1 h2)
  all_goals
    go_wp2_with fail
    obtain ⟨z0, z1, hz⟩ := ins_take sp.rooms i hble (.int .u64 0) (.slice none 0 0)
    have H5' := H5.out
    rw [hz] at H5'
    have hl5 : (flatR (sp.rooms.take i) ++ [z0, z1] ++ flatR (sp.rooms.drop i)).length = i * 2 + 2 + (flatR (sp.rooms.drop i)).length := by
      rw [List.length_append, List.length_append, flatR_len, List.length_take]; simp; omega
    have hneB : g ≠ w.heap.size := KI.out.gne
    have hgS : S ≠ g := fun e => by
      have e1 := KI.out.head
      obtain ⟨cur, e2, _⟩ := KI.out.hn
      rw [← e, e1] at e2
      injection e2 with e2
      injection e2 with _ e3 _
      exact absurd e3 (by decide)
    have q1 : w5.cell? ⟨S, 1, none⟩ = some (.slice (some ⟨g, 0, none⟩) (sp.rooms.length + 1) cap) := by
      have e := H6.out.block S (by have := KI.out.turn.size; show S < W.heap.size; omega) (fun e => hgS (by injection e))
      have e0 : w5.heap[S]? = W.heap[S]? := e
      simp [World.cell?, e0, KI.out.head]
    have hBlt : w.heap.size < W.heap.size := (Array.getElem?_eq_some_iff.1 KI.out.box).1
    have e5 : w5.heap[w.heap.size]? = W.heap[w.heap.size]? := H6.out.block w.heap.size hBlt (fun e => hneB (by injection e with e; exact e.symm))
    have q2 : w5.cell? ⟨w.heap.size, 0, none⟩ = some (.int .u64 r.pos) := by simp [World.cell?, e5, KI.out.box]
    have q3 : w5.cell? ⟨w.heap.size, 1, none⟩ = some (.slice (some ⟨bl, 0, none⟩) m cp) := by simp [World.cell?, e5, KI.out.box, HSL.out]
    have q4 : w5.cell? ⟨g, i * 2, none⟩ = some z0 := H5'.holds.cell _ _ (by
      have hl : (flatR (sp.rooms.take i)).length = i * 2 := by rw [flatR_len, List.length_take]; omega
      rw [List.append_assoc, List.getElem?_append_right (by omega), hl, Nat.sub_self]; rfl)
    have q5 : w5.cell? ⟨g, i * 2 + 1, none⟩ = some z1 := H5'.holds.cell _ _ (by
      have hl : (flatR (sp.rooms.take i)).length = i * 2 := by rw [flatR_len, List.length_take]; omega
      rw [List.append_assoc, List.getElem?_append_right (by omega), hl, show i * 2 + 1 - i * 2 = 1 by omega]; rfl)
    have q6 := H5'.holds.soft (i * 2)
    have q7 := H5'.holds.soft (i * 2 + 1)
    have n6 : (i : Int) < (sp.rooms.length : Int) + 1 := by omega
    have HH5 : Hid (HoldsN w5 g 85 (cap * 2) (flatR (sp.rooms.take i) ++ [z0, z1] ++ flatR (sp.rooms.drop i))) := H5'
    have HL5 : Hid _ := hl5
    have HGS : Hid (S ≠ g) := hgS
    clear H5 H5' hl5 hz hneB hgS hBlt e5 g1 hAD hADe HSRC HN0 HXL HONE n1 n2 n3 n5
    go_region
    go_wp2
    go_end0
    have hsp := HSP.out
    have hnod := List.nodup_cons.1 hsp.nod
    have hnod2 := List.nodup_append.1 hnod.2
    have hgf : ∀ k, k < w.heap.size → k ∉ foot S (.slice s0 sp.rooms.length c0) sp.rooms → k ≠ g := by
      intro k hk hf e
      rcases KI.out.same with e1 | e1
      · exact hf (List.mem_cons_of_mem _ (List.mem_append_left _ (by rw [e1, e]; simp)))
      · omega
    have hgb : ∀ x ∈ sp.rooms, x.blk ≠ g := by
      intro x hx e
      rcases KI.out.same with e1 | e1
      · exact (hsp.apart hx).2 g e1 e.symm
      · have := (hsp.pgs x hx).lt; omega
    have hrlt := HR.out.lt
    have hrg : r.blk ≠ g := hgf r.blk hrlt HRF.out
    have hblk : ∀ k, k < W.heap.size → k ≠ g → ((w5.setCell ⟨g, i * 2, none⟩ (.int .u64 r.pos)).setCell ⟨g, i * 2 + 1, none⟩ (.slice (some ⟨bl, 0, none⟩) m cp)).heap[k]? = W.heap[k]? := by
      intro k hk hne
      rw [heap_setCell_other _ _ _ _ hne, heap_setCell_other _ _ _ _ hne]
      exact H6.out.block k hk (fun e => hne (by injection e))
    have hN7 : HoldsN ((w5.setCell ⟨g, i * 2, none⟩ (.int .u64 r.pos)).setCell ⟨g, i * 2 + 1, none⟩ (.slice (some ⟨bl, 0, none⟩) m cp)) g 85 (cap * 2) (flatR (sp.rooms.take i ++ r :: sp.rooms.drop i)) := by
      have e := (HH5.out.setCell (i * 2) (by rw [HL5.out]; omega) (.int .u64 r.pos)).setCell (i * 2 + 1) (by rw [List.length_set, HL5.out]; omega) (.slice (some ⟨bl, 0, none⟩) m cp)
      rw [← HSL.out] at e ⊢
      rw [ins_set sp.rooms i hble z0 z1 r] at e
      exact e
    have hll : (sp.rooms.take i ++ r :: sp.rooms.drop i).length = sp.rooms.length + 1 := by simp; omega
    have hWt := KI.out.turn
    refine ⟨rfl, ⟨.slice (some ⟨g, 0, none⟩) (sp.rooms.length + 1) cap, ?_, fun g' hg' => ?_⟩, ?_⟩
    · refine ⟨?_, ?_, ?_, ?_⟩
      · exact (hblk S (Nat.lt_of_lt_of_le hsp.lt hWt.size) HGS.out).trans KI.out.head
      · rw [← hll]; exact own_of_holdsN (w := (((w5.setCell ⟨g, i * 2, none⟩ (.int .u64 r.pos)).setCell ⟨g, i * 2 + 1, none⟩ (.slice (some ⟨bl, 0, none⟩) m cp))).drew) hN7 HCM.out
      · intro x hx
        have hx2 : x = r ∨ x ∈ sp.rooms := by
          rcases List.mem_append.1 hx with e | e
          · exact .inr (List.mem_of_mem_take e)
          · rcases List.mem_cons.1 e with e | e
            · exact .inl e
            · exact .inr (List.mem_of_mem_drop e)
        have hW : Holds W x.blk 88 (flatS x.pages) ∧ x.blk ≠ g := by
          rcases hx2 with rfl | e
          · exact ⟨HR.out.turn hWt HRF.out, hrg⟩
          · exact ⟨KI.out.pgs x e, hgb x e⟩
        obtain ⟨cur, c1, c2⟩ := hW.1
        exact ⟨cur, (hblk x.blk hW.1.lt hW.2).trans c1, c2⟩
      · exact ins_nodup HGS.out (fun e => hnod.1 (List.mem_append_right _ e)) (fun e => by obtain ⟨x, hx, e2⟩ := List.mem_map.1 e; exact hgb x hx e2) hnod2.2.1 (fun e => HRF.out (by rw [e]; exact List.mem_cons_self)) hrg (fun e => HRF.out (List.mem_cons_of_mem _ (List.mem_append_right _ e)))
    · have e : g = g' := by injection hg'
      rw [← e]; exact KI.out.same
    · refine ⟨H6.out.os.trans hWt.os, H6.out.tape.trans hWt.tape, H6.out.output.trans hWt.output, Nat.le_trans hWt.size (Nat.le_trans H6.out.size (by simp)), fun k hk hf => ?_⟩
      exact (hblk k (Nat.lt_of_lt_of_le hk hWt.size) (hgf k hk hf)).trans (hWt.block k hk hf)
end Go.Proofs.Ytdecbnmibjcnaaa
