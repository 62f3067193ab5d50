
/-
  Layer 7 (zip): with one file more at its end an archive has all that it had; rows of files of the call's own.
-/
import Derived.Test.YtegcdddfccmljaaZpQ
import Derived.Test.YtegcdddfccmljaaZpS
set_option linter.unusedVariables false
namespace Go.Proofs.Ytegcdddfccmljaa
open Go.RowKit Go.PlainAid
/-- Where it is found. -/
theorem find_place (fs F1 F2 : List Fl) (f : Fl) (b : List UInt8) (h : makeN fs = .ok b) (e : fs = F1 ++ f :: F2) (hf : ∀ g ∈ F1, g.name ≠ f.name) :
    findZ b f.name = ((layA F1 0).length + 30 + f.name.length + padN ((layA F1 0).length + 30 + f.name.length), f.data.length, 0) := by
  obtain ⟨S, hb, hbl, h22, hk, hR⟩ := read_made fs b h
  have hkf := chkF_zero (hk f (by rw [e]; simp))
  obtain ⟨q, hq⟩ : ∃ q, (layA F1 0).length = q := ⟨_, rfl⟩
  obtain ⟨T, hT⟩ : ∃ T, layA F2 (q + (ownB q f.name f.data).length) = T := ⟨_, rfl⟩
  have hA : layA fs 0 = layA F1 0 ++ (ownB q f.name f.data ++ T) := by rw [e, layA_app, Nat.zero_add, hq, layA, hT]
  have hE : ents fs 0 = ents F1 0 ++ (⟨f.name, 0, f.data.length, f.data.length, q⟩ :: ents F2 (q + (ownB q f.name f.data).length)) := by rw [e, ents_app, Nat.zero_add, hq, ents]
  have hfind : (ents fs 0).find? (named f.name) = some ⟨f.name, 0, f.data.length, f.data.length, q⟩ := by
    rw [hE, List.find?_append]
    have hn : (ents F1 0).find? (named f.name) = none := by
      rw [List.find?_eq_none]
      intro x hx hnx
      obtain ⟨g, hg, hgn⟩ := ents_mem_name F1 0 x hx
      have : x.name = f.name := by simpa [named] using hnx
      exact hf g hg (by rw [← hgn, this])
    rw [hn]
    simp [named]
  obtain ⟨g0, g8, g26, g28, g30, gd⟩ := own_fields q f.name f.data (by omega)
  have hpad := padN_is (q + 30 + f.name.length)
  obtain ⟨z, hz⟩ : ∃ z, padN (q + 30 + f.name.length) = z := ⟨_, rfl⟩
  have hOL := ownB_len q f.name f.data
  rw [hz] at g28 gd hpad hOL
  have hAl : (layA fs 0).length = q + ((ownB q f.name f.data).length + T.length) := by rw [hA]; simp [hq]
  have hwA : win b 0 (layA fs 0).length = layA fs 0 := by rw [hb]; simp [win]
  have hle : (layA fs 0).length ≤ b.length := by rw [hb]; simp
  have r := fun k s (hk : k + s ≤ 30 + f.name.length) => rd_at (layA F1 0) (ownB q f.name f.data) T k s (by omega)
  rw [hq, ← hA] at r
  have r0 := r 0 4 (by omega)
  rw [Nat.add_zero] at r0
  have w30 := win_at (layA F1 0) (ownB q f.name f.data) T 30 f.name.length (by omega)
  rw [hq, ← hA] at w30
  have hB : beginZ (layA fs 0) ⟨f.name, 0, f.data.length, f.data.length, q⟩ = some (q + 30 + f.name.length + z) := by
    unfold beginZ
    dsimp only
    rw [r0, r 8 2 (by omega), r 26 2 (by omega), r 28 2 (by omega), g0, g8, g26, g28, w30, g30, if_pos ⟨by omega, rfl, rfl⟩, if_pos ⟨by omega, rfl⟩, if_pos ⟨rfl, by omega⟩]
  rw [hq, hz]
  unfold findZ
  rw [hR]
  dsimp only
  rw [hfind]
  dsimp only
  rw [if_pos rfl, hwA, hB]
  dsimp only
  rw [if_pos hpad.1]
theorem find_none (fs : List Fl) (b nm : List UInt8) (h : makeN fs = .ok b) (hf : ∀ g ∈ fs, g.name ≠ nm) : findZ b nm = (0, 0, 71) := by
  obtain ⟨S, hb, hbl, h22, hk, hR⟩ := read_made fs b h
  have hn : (ents fs 0).find? (named nm) = none := by
    rw [List.find?_eq_none]
    intro x hx hnx
    obtain ⟨g, hg, hgn⟩ := ents_mem_name fs 0 x hx
    have : x.name = nm := by simpa [named] using hnx
    exact hf g hg (by rw [← hgn, this])
  unfold findZ
  rw [hR]
  dsimp only
  rw [hn]
theorem first_of (nm : List UInt8) : ∀ fs : List Fl, (∀ g ∈ fs, g.name ≠ nm) ∨ ∃ F1 f F2, fs = F1 ++ f :: F2 ∧ f.name = nm ∧ ∀ g ∈ F1, g.name ≠ nm
  | [] => .inl fun g hg => by simp at hg
  | f :: t => by
    by_cases h : f.name = nm
    · exact .inr ⟨[], f, t, rfl, h, fun g hg => by simp at hg⟩
    · rcases first_of nm t with k | ⟨F1, g, F2, e, k1, k2⟩
      · left
        intro g hg
        rcases List.mem_cons.1 hg with e | e
        · rw [e]; exact h
        · exact k g e
      · refine .inr ⟨f :: F1, g, F2, by rw [e]; rfl, k1, fun x hx => ?_⟩
        rcases List.mem_cons.1 hx with e | e
        · rw [e]; exact h
        · exact k2 x e
theorem makeZ_app : ∀ (l t : List Fl) (a c : List UInt8), makeZ (l ++ t) a c = match makeZ l a c with | .error e => .error e | .ok r => makeZ t r.1 r.2
  | [], t, a, c => rfl
  | f :: l, t, a, c => by
    rw [List.cons_append, makeZ, makeZ]
    by_cases h1 : chkF f.name.length f.data.length = 0
    · rw [if_pos h1, if_pos h1]
      by_cases h2 : 262144 < (a ++ ownB a.length f.name f.data).length + (c ++ listB a.length f.name f.data).length + 22
      · rw [if_pos h2, if_pos h2]
      · rw [if_neg h2, if_neg h2]; exact makeZ_app l t _ _
    · rw [if_neg h1, if_neg h1]
theorem more_err (l : List Fl) (x : Fl) (c : Int) (h : makeN l = .error c) : ∃ c', makeN (l ++ [x]) = .error c' := by
  unfold makeN at h ⊢
  by_cases h1 : 256 < (l ++ [x]).length
  · exact ⟨68, by rw [if_pos h1]⟩
  · rw [if_neg h1]
    rw [if_neg (by simp at h1; omega)] at h
    rw [makeZ_app]
    cases hM : makeZ l [] [] with
    | error e => exact ⟨e, rfl⟩
    | ok r => rw [hM] at h; cases h
theorem more_is (l : List Fl) (x : Fl) (nm a b : List UInt8) (ha : makeN l = .ok a) (hb : makeN (l ++ [x]) = .ok b) :
    ((findZ a nm).2.2 = 0 ∧ findZ b nm = findZ a nm) ∨ ((findZ a nm).2.2 = 71 ∧ ((x.name = nm ∧ (findZ b nm).2.2 = 0) ∨ (x.name ≠ nm ∧ (findZ b nm).2.2 = 71))) := by
  rcases first_of nm l with k | ⟨F1, f, F2, e, rfl, k2⟩
  · refine .inr ⟨by rw [find_none l a nm ha k], ?_⟩
    by_cases hx : x.name = nm
    · subst hx
      exact .inl ⟨rfl, by rw [find_place (l ++ [x]) l [] x b hb rfl k]⟩
    · refine .inr ⟨hx, ?_⟩
      rw [find_none (l ++ [x]) b nm hb (fun g hg => ?_)]
      rcases List.mem_append.1 hg with h | h
      · exact k g h
      · simp at h; rw [h]; exact hx
  · left
    have e1 := find_place l F1 F2 f a ha e k2
    have e2 := find_place (l ++ [x]) F1 (F2 ++ [x]) f b hb (by rw [e]; simp) k2
    rw [e1, e2]
    exact ⟨rfl, rfl⟩
/-! ### Rows of files of the call's own -/
def Fl.cells (f : Fl) : List Value := [.string ⟨f.name.toArray⟩, f.vd]
def flatF (l : List Fl) : List Value := l.flatMap Fl.cells
theorem flatF_app (l m : List Fl) : flatF (l ++ m) = flatF l ++ flatF m := by simp [flatF]
theorem flatF_len (l : List Fl) : (flatF l).length = l.length * 2 := by
  induction l with
  | nil => rfl
  | cons n l ih => show (n.cells ++ flatF l).length = _; rw [List.length_append, ih]; simp [Fl.cells]; omega
theorem flatF_get (l : List Fl) : ∀ (j : Nat) (hj : j < l.length) (k : Nat) (hk : k < 2), (flatF l)[j * 2 + k]? = l[j].cells[k]? := by
  induction l with
  | nil => intro j hj; simp at hj
  | cons e l ih =>
    intro j hj k hk
    have e1 : flatF (e :: l) = e.cells ++ flatF l := rfl
    have e2 : e.cells.length = 2 := rfl
    cases j with
    | zero => rw [e1, Nat.zero_mul, Nat.zero_add, List.getElem?_append_left (by omega)]; rfl
    | succ j =>
      rw [e1, List.getElem?_append_right (by omega), e2, show (j + 1) * 2 + k - 2 = j * 2 + k by omega]
      exact ih j (by simpa using hj) k hk
def OwnF (w : World) (B : Nat) (v : Value) (l : List Fl) : Prop := w.ownsRow B 50 2 v l.length (flatF l)
theorem Try.infoFl : (Try.prog.info? 50).map (fun i => (i.zero, i.size, i.bytes)) = some (some (.agg #[.string ByteArray.empty, .slice none 0 0]), 2, 40) := by kernel_rfl
theorem flatF_one {l : List Fl} (h : ∀ f ∈ l, ∃ a k c, f.vd = .slice a k c) : ∀ u ∈ flatF l, u.oneCell' = true := by
  intro u hu
  unfold flatF at hu
  obtain ⟨f, hf, hu⟩ := List.mem_flatMap.1 hu
  obtain ⟨a, k, c, e⟩ := h f hf
  simp only [Fl.cells, List.mem_cons, List.not_mem_nil, or_false] at hu
  rcases hu with rfl | rfl
  · rfl
  · rw [e]; rfl
theorem append_fls {ops : Array Oper} {rest : List Oper} {o : Oper} {a : Act} {Q : Exit → Act → World → Prop} (hgd : o.guard = none) (s x : Operand)
    (ho : o.op = .call { callee := .builtin .append, args := #[s, x], argTypes := #[41, 41] })
    (B : Nat) (wr : World) (v : Value) (l : List Fl) (hown : OwnF wr B v l) (L : List Fl) (y off c : Nat) (hL : ∀ j u, (flatF L)[j]? = some u → wr.cell? ⟨y, off + j, none⟩ = some u) (hs1 : ∀ f ∈ L, ∃ a k c, f.vd = .slice a k c) (hs : a.eval s = v)
    (hx : a.eval x = .slice (some ⟨y, off, none⟩) L.length c) (hlen : l.length + L.length ≤ 100000) (hB : B ≤ wr.heap.size)
    (h : ∀ v' w', OwnF w' B v' (l ++ L) → wr.grownBy w' v.ownBlock → wpList Try.prog ops Q rest (a.put o.dst v') w') :
    wpList Try.prog ops Q (o :: rest) a wr := by
  obtain ⟨i, hi, hz0, hz1, hz2⟩ := info_parts Try.infoFl
  refine wpList_append_own (P := Try.prog) wr hgd s x 41 ho B 50 i _ 2 40 Try.underlying41 hi hz0 hz1 hz2 rfl (by decide) v l.length (flatF l) hs hown
    ⟨y, off, none⟩ L.length c (flatF L) hx (flatF_len L) (fun j u hj => by rw [add_at]; exact hL j u hj) (flatF_one hs1) (by unfold maxLen; omega) (by omega) hB ?_
  intro v' w' h1 h2 _
  refine h v' w' ?_ h2
  unfold OwnF
  rw [List.length_append, flatF_app]
  exact h1
theorem OwnF.files {w : World} {B : Nat} {v : Value} {l : List Fl} (h : OwnF w B v l) (hk : ∀ f ∈ l, Arg w f.vd f.data ∧ f.name.length ≤ 9223372036854775807) : ∃ a cap, v = .slice a l.length cap ∧ l.length ≤ cap ∧ cap ≤ maxLen ∧ FilesAt w a l := by
  have h0 := h
  unfold OwnF at h
  rcases h.2 with ⟨rfl, hn⟩ | ⟨g, cap, cur, rfl, hb, hg, hn, hm, hc, ht⟩
  · have e : l = [] := List.length_eq_zero_iff.1 hn
    subst e
    exact ⟨none, 0, rfl, Nat.le_refl _, Nat.zero_le _, .inl rfl⟩
  · refine ⟨_, cap, rfl, hn, hm, .inr ⟨g, 0, rfl, fun i hi => ?_⟩⟩
    have hx := hk l[i] (List.getElem_mem hi)
    have hc : ∀ k (hk : k < 2) u, l[i].cells[k]? = some u → w.cell? ⟨g, i * 2 + k, none⟩ = some u := fun k hk u hu => by
      have := World.ownsRow.cells h0 (g := g) rfl (i * 2 + k) u (by rw [flatF_get l i hi k hk]; exact hu)
      rwa [add_at, Nat.zero_add] at this
    rw [Nat.zero_add]
    exact ⟨hc 0 (by omega) _ rfl, hc 1 (by omega) _ rfl, hx.1, hx.2⟩
theorem files_flat {w : World} {y o : Nat} {l : List Fl} (h : ∀ i (h : i < l.length), IsFl w y (o + i * 2) l[i]) : ∀ j u, (flatF l)[j]? = some u → w.cell? ⟨y, o + j, none⟩ = some u := by
  intro j u hj
  have hlt : j < l.length * 2 := by rw [← flatF_len]; exact (List.getElem?_eq_some_iff.1 hj).1
  have e : j = j / 2 * 2 + j % 2 := by omega
  have hi : j / 2 < l.length := by omega
  rw [e, flatF_get l (j / 2) hi (j % 2) (by omega)] at hj
  have k := h (j / 2) hi
  rcases (show j % 2 = 0 ∨ j % 2 = 1 by omega) with m | m
  · rw [m] at hj
    have : some (Value.string ⟨l[j / 2].name.toArray⟩) = some u := hj
    rw [e, m, Nat.add_zero, ← Option.some.inj this]
    exact k.c0
  · rw [m] at hj
    have : some l[j / 2].vd = some u := hj
    rw [e, m, ← Option.some.inj this, ← Nat.add_assoc]
    exact k.c1
section
variable {H : Type} {enc : TypeId × Value → H}
theorem opAgg_of {W : World} {cs : Array Value} {d : DataW H} {p : List MemPlace}
    (h : DataW.Trod enc Try.prog W 0 (fun _ => true) true 50 (.agg cs) d p) : ∃ (x : Fl) (vd : Value), cs = #[.string ⟨x.name.toArray⟩, vd] ∧ x.name.length ≤ 9223372036854775807 ∧ ArgL W vd x.data := by
  obtain ⟨fuel, hf⟩ := h
  obtain ⟨x, e, h1, h2⟩ := fl_of hf
  refine ⟨x, x.vd, ?_, h1, h2⟩
  have e2 : cs.toList = [.string ⟨x.name.toArray⟩, x.vd] := e
  exact Array.toList_inj.1 e2
end
end Go.Proofs.Ytegcdddfccmljaa
