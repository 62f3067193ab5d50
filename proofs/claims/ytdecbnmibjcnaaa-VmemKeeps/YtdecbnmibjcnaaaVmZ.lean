
/-
  All pages that are there: Pages keeps its contract.
-/
import Derived.Test.YtdecbnmibjcnaaaVmY
set_option linter.unusedVariables false
namespace Go.Proofs.Ytdecbnmibjcnaaa
open Go.RowKit Go.PlainAid
theorem run_append_same (w : World) (B : Nat) (t ty e : TypeId) (i : TypeInfo) (z : Value) (size bytes : Nat) (ht : Try.prog.underlying t = some (.slice e)) (hi : Try.prog.info? e = some i) (hz : i.zero = some z) (hsize : i.size = size) (hby : i.bytes = bytes) (hzs : z.cells.size = size) (hsz : 0 < size)
    (v : Value) (n : Nat) (xs : List Value) (hown : w.ownsRow B e size v n xs) (ad : Addr) (c : Nat) (news : List Value) (hl : news.length = size) (hnews : ∀ j u, news[j]? = some u → w.cell? (ad.add j) = some u) (h1 : ∀ u ∈ news, u.oneCell' = true) (h63 : n + 1 ≤ maxLen) (hbytes : ((n + 1) + (n + 1) / 4 + 192) * bytes ≤ 281474976710656) (hB : B ≤ w.heap.size) :
    ∃ v' w', (Builtin.append_ #[t, t] ty #[v, .slice (some ad) 1 c]).run Try.prog w = .ok v' w' ∧ w'.ownsRow B e size v' (n + 1) (xs ++ news) ∧ (∀ g, v'.ownBlock = some g → Same w v.ownBlock g) ∧ w.grownBy w' v.ownBlock := by
  have hA := fun B (hB : B ≤ w.heap.size) (ho : w.ownsRow B e size v n xs) => run_append_own_wide (P := Try.prog) w B t ty e i z size bytes ht hi hz hsize hby hzs hsz v n xs ho ad 1 c news (by omega) hnews h1 h63 hbytes hB
  rcases hown.2 with ⟨rfl, rfl⟩ | ⟨g, cap, cur, rfl, hBg, hg, hc1, hc2, hc3, hc4⟩
  · obtain ⟨v', w', hr, ho, hgr, _⟩ := hA w.heap.size (Nat.le_refl _) ⟨hown.1, .inl ⟨rfl, rfl⟩⟩
    refine ⟨v', w', hr, ⟨ho.1, ?_⟩, fun g hg => .inr (World.ownsRow.lt ho g hg).1, hgr⟩
    rcases ho.2 with h | ⟨g, cap, cur, e1, hb, rest⟩
    · exact .inl h
    · exact .inr ⟨g, cap, cur, e1, Nat.le_trans hB hb, rest⟩
  · obtain ⟨v', w', hr, ho, hgr, _⟩ := hA B hB hown
    refine ⟨v', w', hr, ho, fun g' hg' => ?_, hgr⟩
    by_cases hroom : n + 1 ≤ cap
    · have hr2 := run_append_room (P := Try.prog) w t ty e i ht hi g n cap cur hg ad 1 c news (by rw [hsize]; omega) hnews h1 hroom (by rw [hsize, hl, hc3, ← Nat.succ_mul]; exact Nat.mul_le_mul_right _ hroom)
      rw [hr] at hr2
      injection hr2 with e1 e2
      subst e1
      exact .inl hg'
    · have hr2 := run_append_grow (P := Try.prog) w t ty e i z ht hi hz ⟨g, 0, none⟩ n cap xs (by rw [hsize]; exact hown.1) (hown.cells (g := g) rfl) ad 1 c news (by rw [hsize]; omega) hnews (by omega) (by unfold maxLen at h63; omega) (by rw [hby]; exact growslice_fits_wide (by omega) hbytes)
      rw [hr] at hr2
      injection hr2 with e1 e2
      subst e1
      injection hg' with e3
      exact .inr (by rw [← e3]; exact Nat.le_refl _)
/-- v is a slice of pages that the call has made. -/
def OwnP (w : World) (B : Nat) (v : Value) (l : List Pg) : Prop := w.ownsRow B 90 258 v l.length (flatP l)
theorem OwnP.isSlice {w : World} {B : Nat} {v : Value} {l : List Pg} (h : OwnP w B v l) : ∃ a cap, v = .slice a l.length cap := by
  rcases h.2 with ⟨rfl, hn⟩ | ⟨g, cap, cur, rfl, _⟩
  · exact ⟨_, _, by rw [hn]⟩
  · exact ⟨_, _, rfl⟩
theorem flatP_app (a b : List Pg) : flatP (a ++ b) = flatP a ++ flatP b := by unfold flatP; rw [List.flatMap_append]
theorem append_page {ops : Array Oper} {rest : List Oper} {o : Oper} {a : Act} {Q : Exit → Act → World → Prop} (hgd : o.guard = none) (s x : Operand)
    (ho : o.op = .call { callee := .builtin .append, args := #[s, x], argTypes := #[52, 52] })
    (B : Nat) (wr : World) (v : Value) (acc : List Pg) (hown : OwnP wr B v acc) (c : Pg) (hc : c.data.length = 256) (hs : a.eval s = v)
    (hx : a.eval x = .slice (some ⟨wr.heap.size, 0, none⟩) 1 1) (hlen : acc.length ≤ 100000) (hB : B ≤ wr.heap.size)
    (h : ∀ v' w', OwnP w' B v' (acc ++ [c]) → (∀ g, v'.ownBlock = some g → Same wr v.ownBlock g) → wr.grownBy w' v.ownBlock → wpList Try.prog ops Q rest (a.put o.dst v') w') :
    wpList Try.prog ops Q (o :: rest) a (wr.alloc (.cells c.cells.toArray 90)) := by
  obtain ⟨i, hi, hz0, hz1, hz2⟩ := info_parts Try.infoP
  have hz : (Value.agg page0.cells.toArray).cells.size = 258 := by show page0.cells.toArray.size = 258; rw [List.size_toArray]; exact page0.cells_len List.length_replicate
  obtain ⟨v', w', hr, h2, h3, h4⟩ := run_append_same (wr.alloc (.cells c.cells.toArray 90)) B 52 o.type 90 i (.agg page0.cells.toArray) 258 272 Try.underlying52 hi hz0 hz1 hz2 hz (by decide) v acc.length (flatP acc) (World.ownsRow.alloc hown _) ⟨wr.heap.size, 0, none⟩ 1 c.cells (c.cells_len hc)
    (fun j u hj => by
      rw [add_lit, World.cell?_alloc_at _ _ _ _ (by rfl)]
      simpa using hj) c.one (by unfold maxLen; omega) (by omega) (by simp; omega)
  refine wpList_plain hgd fun _ hK => ?_
  unfold Oper.wp execOp
  simp only [ho, resolve, invoke, builtin, Sem.run_bind, Sem.run_pure, Result.andThen_ok, List.map_toArray, List.map_cons, List.map_nil, hs, hx, hr]
  refine hK _ _ (h v' w' ?_ (fun g hg => ?_) ((World.grownBy_alloc wr _ _).trans h4))
  · unfold OwnP
    rw [flatP_app, List.length_append]
    simpa [flatP] using h2
  · rcases h3 g hg with e | e
    · exact .inl e
    · right; have : (wr.alloc (.cells c.cells.toArray 90)).heap.size = wr.heap.size + 1 := by simp
      omega
/-- The pages that are there of a room that begins at p. -/
def pgsL (p : Nat) : Nat → List Sh → List Pg
  | _, [] => []
  | k, s :: l => (if s.there then [⟨p + k * 256, s.prot, s.data⟩] else []) ++ pgsL p (k + 1) l
def pgsOf (l : List Rm) : List Pg := l.flatMap (fun r => pgsL r.pos 0 r.pages)
theorem pgsL_app (p k : Nat) (a b : List Sh) : pgsL p k (a ++ b) = pgsL p k a ++ pgsL p (k + a.length) b := by
  induction a generalizing k with
  | nil => simp [pgsL]
  | cons s a ih => simp only [List.cons_append, pgsL, ih, List.length_cons, List.append_assoc]; congr 3; omega
theorem pgsL_len (p k : Nat) (l : List Sh) : (pgsL p k l).length ≤ l.length := by
  induction l generalizing k with
  | nil => simp [pgsL]
  | cons s l ih => simp only [pgsL, List.length_append, List.length_cons]; have := ih (k + 1); split <;> simp <;> omega
theorem pgsOf_len (l : List Rm) : (pgsOf l).length ≤ used l := by
  induction l with
  | nil => simp [pgsOf]
  | cons r l ih =>
    have e : pgsOf (r :: l) = pgsL r.pos 0 r.pages ++ pgsOf l := rfl
    have := pgsL_len r.pos 0 r.pages
    rw [e, List.length_append, used]; omega
end Go.Proofs.Ytdecbnmibjcnaaa
