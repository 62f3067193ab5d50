
/-
  Layer 7 (zip): rows of entries, and the list of them.
-/
import Derived.Test.YtegcdddfccmljaaZpB
set_option linter.unusedVariables false
namespace Go.Proofs.Ytegcdddfccmljaa
open Go.RowKit Go.PlainAid
def flatE (l : List En) : List Value := l.flatMap En.cells
theorem flatE_app (l : List En) (e : En) : flatE (l ++ [e]) = flatE l ++ e.cells := by simp [flatE]
theorem flatE_len (l : List En) : (flatE l).length = l.length * 5 := by
  induction l with
  | nil => rfl
  | cons n l ih => show (n.cells ++ flatE l).length = _; rw [List.length_append, ih]; simp [En.cells]; omega
theorem flatE_get (l : List En) : ∀ (j : Nat) (hj : j < l.length) (k : Nat) (hk : k < 5), (flatE l)[j * 5 + k]? = l[j].cells[k]? := by
  induction l with
  | nil => intro j hj; simp at hj
  | cons e l ih =>
    intro j hj k hk
    have e1 : flatE (e :: l) = e.cells ++ flatE l := rfl
    have e2 : e.cells.length = 5 := rfl
    cases j with
    | zero => rw [e1, Nat.zero_mul, Nat.zero_add, List.getElem?_append_left (by omega)]; rfl
    | succ j =>
      rw [e1, List.getElem?_append_right (by omega), e2, show (j + 1) * 5 + k - 5 = j * 5 + k by omega]
      exact ih j (by simpa using hj) k hk
theorem En.one (e : En) : ∀ u ∈ e.cells, u.oneCell' = true := by
  intro u hu
  simp only [En.cells, List.mem_cons, List.not_mem_nil, or_false] at hu
  rcases hu with rfl | rfl | rfl | rfl | rfl <;> rfl
/-- A row of entries of the call's own. -/
def OwnE (w : World) (T : TypeId) (B : Nat) (v : Value) (l : List En) : Prop := w.ownsRow B T 5 v l.length (flatE l)
theorem OwnE.nil (w : World) (T : TypeId) (B : Nat) : OwnE w T B (.slice none 0 0) [] := World.ownsRow_nil _ _ _ _
theorem OwnE.stay {w w' : World} {T : TypeId} {B : Nat} {v : Value} {l : List En} (h : OwnE w T B v l) (hb : Below w.heap.size w w') : OwnE w' T B v l := by
  unfold OwnE at h ⊢
  refine ⟨h.1, ?_⟩
  rcases h.2 with hn | ⟨g, cap, cur, rfl, hB, hg, rest⟩
  · exact .inl hn
  · refine .inr ⟨g, cap, cur, rfl, hB, ?_, rest⟩
    rw [hb.block g (Array.getElem?_eq_some_iff.1 hg).1]; exact hg
theorem Try.infoEZ : (Try.prog.info? 32).map (fun i => (i.zero, i.size, i.bytes)) = some (some (.agg noEn.cells.toArray), 5, 48) := by kernel_rfl
theorem append_enZ {ops : Array Oper} {rest : List Oper} {o : Oper} {a : Act} {Q : Exit → Act → World → Prop} (hgd : o.guard = none) (s x : Operand)
    (ho : o.op = .call { callee := .builtin .append, args := #[s, x], argTypes := #[23, 23] })
    (B : Nat) (wr : World) (v : Value) (l : List En) (hown : OwnE wr 32 B v l) (e : En) (hs : a.eval s = v)
    (q : Nat) (hq : q = wr.heap.size) (hx : a.eval x = .slice (some ⟨q, 0, none⟩) 1 1) (hlen : l.length ≤ 1000000) (hB : B ≤ wr.heap.size)
    (h : ∀ v' w', OwnE w' 32 B v' (l ++ [e]) → Below B wr w' → wpList Try.prog ops Q rest (a.put o.dst v') w') :
    wpList Try.prog ops Q (o :: rest) a (wr.alloc (.cells e.cells.toArray 32)) := by
  subst hq
  obtain ⟨i, hi, hz0, hz1, hz2⟩ := info_parts Try.infoEZ
  have hb : ∀ k, v.ownBlock = some k → B ≤ k := fun k hk => (World.ownsRow.lt hown k hk).1
  refine wpList_append_own (P := Try.prog) (wr.alloc (.cells e.cells.toArray 32)) hgd s x 23 ho B 32 i _ 5 48 Try.underlying23 hi hz0 hz1 hz2 rfl (by decide) v l.length (flatE l) hs (World.ownsRow.alloc hown _)
    ⟨wr.heap.size, 0, none⟩ 1 1 e.cells hx rfl ?_ e.one ?_ ?_ ?_ ?_
  · intro j u hj
    have hj5 : j < 5 := (List.getElem?_eq_some_iff.1 hj).1
    rw [add_at, Nat.zero_add, World.cell?_alloc_at _ _ _ _ (by simp)]
    simpa using hj
  · unfold maxLen; omega
  · omega
  · simp; omega
  · intro v' w' h1 h2 _
    refine h v' w' ?_ ?_
    · unfold OwnE
      rw [List.length_append, flatE_app]
      exact h1
    · exact ((Below.refl B wr).alloc hB _).grown h2 (by simp; omega) hb
theorem Try.infoER : (Try.prog.info? 33).map (fun i => (i.zero, i.size, i.bytes)) = some (some (.agg noEn.cells.toArray), 5, 48) := by kernel_rfl
theorem append_enR {ops : Array Oper} {rest : List Oper} {o : Oper} {a : Act} {Q : Exit → Act → World → Prop} (hgd : o.guard = none) (s x : Operand)
    (ho : o.op = .call { callee := .builtin .append, args := #[s, x], argTypes := #[27, 27] })
    (B : Nat) (wr : World) (v : Value) (l : List En) (hown : OwnE wr 33 B v l) (e : En) (hs : a.eval s = v)
    (q : Nat) (hq : q = wr.heap.size) (hx : a.eval x = .slice (some ⟨q, 0, none⟩) 1 1) (hlen : l.length ≤ 1000000) (hB : B ≤ wr.heap.size)
    (h : ∀ v' w', OwnE w' 33 B v' (l ++ [e]) → Below B wr w' → wpList Try.prog ops Q rest (a.put o.dst v') w') :
    wpList Try.prog ops Q (o :: rest) a (wr.alloc (.cells e.cells.toArray 33)) := by
  subst hq
  obtain ⟨i, hi, hz0, hz1, hz2⟩ := info_parts Try.infoER
  have hb : ∀ k, v.ownBlock = some k → B ≤ k := fun k hk => (World.ownsRow.lt hown k hk).1
  refine wpList_append_own (P := Try.prog) (wr.alloc (.cells e.cells.toArray 33)) hgd s x 27 ho B 33 i _ 5 48 Try.underlying27 hi hz0 hz1 hz2 rfl (by decide) v l.length (flatE l) hs (World.ownsRow.alloc hown _)
    ⟨wr.heap.size, 0, none⟩ 1 1 e.cells hx rfl ?_ e.one ?_ ?_ ?_ ?_
  · intro j u hj
    have hj5 : j < 5 := (List.getElem?_eq_some_iff.1 hj).1
    rw [add_at, Nat.zero_add, World.cell?_alloc_at _ _ _ _ (by simp)]
    simpa using hj
  · unfold maxLen; omega
  · omega
  · simp; omega
  · intro v' w' h1 h2 _
    refine h v' w' ?_ ?_
    · unfold OwnE
      rw [List.length_append, flatE_app]
      exact h1
    · exact ((Below.refl B wr).alloc hB _).grown h2 (by simp; omega) hb
/-- So many entries from a place on, and nothing behind them. -/
def entries (l : List UInt8) : Nat → Nat → Option (List En)
  | 0, p => if p = l.length then some [] else none
  | k + 1, p => match entryAt l p with
    | none => none
    | some (e, s) => (entries l k (p + s)).map (e :: ·)
theorem entryAt_le {l : List UInt8} {p : Nat} {e : En} {s : Nat} (h : entryAt l p = some (e, s)) : p + s ≤ l.length ∧ 46 ≤ s := by
  unfold entryAt at h
  split at h
  · split at h
    · simp only [Option.some.injEq, Prod.mk.injEq] at h
      omega
    · simp at h
  · simp at h
/-- What readList answers. -/
def ReadsL (w' : World) (B : Nat) (o : Option (List En)) (e : Ending) : Prop :=
  match o with
  | none => ∃ v, e = .returned (.tuple #[v, .bool false])
  | some es => ∃ v, e = .returned (.tuple #[v, .bool true]) ∧ OwnE w' 32 B v es
set_option maxHeartbeats 4000000 in
set_option maxRecDepth 20000 in
theorem zip_readList (w : World) (v : Value) (l : List UInt8) (h : Arg w v l) (hl : l.length ≤ 1000000) (m : Nat) (hm : m < 65536) :
    Calls Try.prog 37 #[v, .int .u64 m] w fun e w' => ReadsL w' w.heap.size (entries l m 0) e ∧ Below w.heap.size w w' := by
  have HA : Hid (Arg w v l) := h
  obtain ⟨a, cap, rfl, _, _, _⟩ := h.isSlice
  clear h
  obtain ⟨O, hO⟩ : ∃ O, entries l m 0 = O := ⟨_, rfl⟩
  have HO : Hid (O = (entries l m 0).map ([] ++ ·)) := by rw [Hid, hO]; cases O <;> simp
  rw [hO]
  clear hO
  obtain ⟨n, hn⟩ : ∃ n, l.length = n := ⟨_, rfl⟩
  have HN : Hid (l.length = n) := hn
  rw [hn] at hl ⊢ HA
  clear hn
  go_enter Try.func37, Try.ntmps37
  go_wp2
  go_loopw [6, 7, 8, 9, 10, 12] (fun v6 v7 _ _ _ v12 wr => ∃ (i p : Nat) (acc : List En), i ≤ m ∧ v12 = .int .u64 i ∧ v7 = .int .u64 p ∧ p ≤ n ∧ Hid (acc.length = i) ∧ Hid (OwnE wr 32 w.heap.size v6 acc) ∧ Hid (Below w.heap.size w wr) ∧ Hid (O = (entries l (m - i) p).map (acc ++ ·)))
    (fun _ _ _ _ _ v12 _ => m - (intOf v12).toNat)
  case atStart => exact ⟨0, 0, [], by omega, rfl, rfl, by omega, rfl, OwnE.nil _ _ _, Below.refl _ _, HO⟩
  case round =>
    obtain ⟨i, p, acc, hi, rfl, rfl, hp, HAC, HOW, HB, HR⟩ := hrel
    by_cases hlt : i < m
    · have hltI : (i : Int) < (m : Int) := by omega
      have hRE := zip_readEntry wr _ l (HA.out.below HB.out rfl) p (by rw [HN.out]; exact hl) (by rw [HN.out]; exact hp)
      have hstep := HR.out
      rw [show m - i = (m - i - 1) + 1 by omega, entries] at hstep
      cases hE : entryAt l p with
      | none =>
        rw [hE] at hRE hstep
        simp only [entV, noEn, En.cells] at hRE
        simp only [Option.map_none] at hstep
        subst hstep
        clear HR hE
        go_wp2_with fail
        refine hRE.mono ?_
        rintro e w1 ⟨rfl, hb1⟩
        have HB1 : Hid (Below w.heap.size w w1) := HB.out.trans (hb1.mono HB.out.size)
        clear hb1 hRE
        go_wp2
        go_ret2
        exact ⟨⟨_, rfl⟩, HB1.out.alloc HB1.out.size _⟩
      | some es =>
        obtain ⟨e, s⟩ := es
        obtain ⟨hs1, hs2⟩ := entryAt_le hE
        rw [hE] at hRE hstep
        rw [HN.out] at hs1
        have HR2 : Hid (O = (entries l (m - (i + 1)) (p + s)).map ((acc ++ [e]) ++ ·)) := by
          rw [Hid, hstep, show m - (i + 1) = m - i - 1 by omega]
          simp only [Option.map_map]
          congr 1
          funext x
          simp
        simp only [entV] at hRE
        have hsI : (p : Int) + (s : Int) ≤ (n : Int) := by omega
        clear HR hE hstep
        have HE : Hid (e.cells = e.cells) := rfl
        obtain ⟨nm, me, si, st, po⟩ := e
        simp only [En.cells] at hRE
        go_wp2_with fail
        refine hRE.mono ?_
        rintro e w1 ⟨rfl, hb1⟩
        have HB1 : Hid (Below w.heap.size w w1) := HB.out.trans (hb1.mono HB.out.size)
        have HOW1 := hide (OwnE.stay HOW.out hb1)
        clear hb1 hRE
        have HB2 : Hid (Below w.heap.size w (w1.alloc (.cells #[.string ⟨nm.toArray⟩, .int .i64 me, .int .u64 si, .int .u64 st, .int .u64 po] 32))) := HB1.out.alloc HB1.out.size _
        have HOW2 := hide (OwnE.stay HOW1.out ((Below.refl _ _).alloc (Nat.le_refl _) (.cells #[.string ⟨nm.toArray⟩, .int .i64 me, .int .u64 si, .int .u64 st, .int .u64 po] 32)))
        go_wp2_with (at_builtin; refine append_enZ rfl _ _ rfl w.heap.size (w1.alloc (.cells #[.string ⟨nm.toArray⟩, .int .i64 me, .int .u64 si, .int .u64 st, .int .u64 po] 32)) _ acc HOW2.out ⟨nm, me, si, st, po⟩ rfl _ (by simp) rfl (by have := HAC.out; omega) HB2.out.size ?_)
        intro v' w3 h1 h2
        have HB3 : Hid (Below w.heap.size w w3) := HB2.out.trans h2
        have HOW3 := hide h1
        clear h1 h2 HOW2 HB2 HOW1 HB1
        go_wp2
        go_roundw
        case rel => exact ⟨i + 1, p + s, acc ++ [⟨nm, me, si, st, po⟩], by omega, by go_num, by go_num, by omega, by rw [Hid, List.length_append, HAC.out]; rfl, HOW3, HB3, HR2⟩
        case measure => simp [intOf]; omega
    · have him : i = m := by omega
      subst him
      have hO := HR.out
      rw [Nat.sub_self, entries, HN.out] at hO
      by_cases hpn : p = n
      · subst hpn
        rw [if_pos rfl] at hO
        simp only [Option.map_some, List.append_nil] at hO
        subst hO
        clear HR
        go_wp2
        go_ret2
        exact ⟨⟨_, by simp, HOW.out⟩, HB.out⟩
      · rw [if_neg hpn] at hO
        simp only [Option.map_none] at hO
        subst hO
        have hpb : ((p : Int) == (n : Int)) = false := by simp; omega
        clear HR
        go_wp2
        go_ret2
        exact ⟨⟨_, rfl⟩, HB.out⟩
end Go.Proofs.Ytegcdddfccmljaa
