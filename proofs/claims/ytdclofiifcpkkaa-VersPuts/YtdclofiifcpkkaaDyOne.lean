
/-
  DyA DyB DyD DyE DyF DyG DyH DyI DyJ DyJb
-/
import Derived.Test.YtdclofiifcpkkaaHdTwo
import Derived.Test.YtdclofiifcpkkaaRowB
import Derived.Test.YtdclofiifcpkkaaHdX
import Derived.Maps.AppendAt
import Derived.Deep.RegionLaw
import Derived.Test.YtdclofiifcpkkaaHdOne
import Derived.Test.YtdclofiifcpkkaaTextB
set_option linter.unusedVariables false
namespace Go.Proofs.Ytdclofiifcpkkaa
open Go.RowKit Go.PlainAid Go.Sort
/-- An entry. -/
structure De where
  tag : Nat
  val : Nat
def De.cells (e : De) : List Value := [.int .u64 e.tag, .int .u64 e.val]
structure De.ok (e : De) : Prop where
  tag : (e.tag : Int) ≤ 18446744073709551615
  val : (e.val : Int) ≤ 18446744073709551615
/-- The entries from one on, among so many. -/
def entsFrom (l : List UInt8) : Nat → Nat → Option (List De)
  | 0, _ => none
  | f + 1, i => if i * 16 + 16 ≤ l.length then (if rd l (i * 16) 8 = 0 then some [] else (entsFrom l f (i + 1)).map (⟨rd l (i * 16) 8, rd l (i * 16 + 8) 8⟩ :: ·)) else none
def entsZ (l : List UInt8) : Option (List De) := entsFrom l 128 0
theorem rd8I (l : List UInt8) (p : Nat) : (rd l p 8 : Int) ≤ 18446744073709551615 := by
  have h : rd l p 8 < 2 ^ 64 := rd_lt l p 8
  have e : (2 : Nat) ^ 64 = 18446744073709551616 := by decide
  omega
theorem entsFrom_ok (l : List UInt8) : ∀ f i L, entsFrom l f i = some L → (∀ e ∈ L, e.ok ∧ e.tag ≠ 0) ∧ L.length ≤ f
  | 0, _, _, h => by simp [entsFrom] at h
  | f + 1, i, L, h => by
    unfold entsFrom at h
    split at h
    · split at h
      · injection h with h; subst h; simp
      · rename_i h0
        cases hr : entsFrom l f (i + 1) with
        | none => rw [hr] at h; simp at h
        | some M =>
          rw [hr] at h
          simp at h
          subst h
          have ih := entsFrom_ok l f (i + 1) M hr
          refine ⟨fun e he => ?_, by simpa using ih.2⟩
          rcases List.mem_cons.1 he with rfl | he
          · exact ⟨⟨rd8I l _, rd8I l _⟩, h0⟩
          · exact ih.1 e he
    · simp at h
/-- What is read so far, and what comes. -/
def entsRest (l : List UInt8) (acc : List De) (f i : Nat) : Option (List De) := (entsFrom l f i).map (acc ++ ·)
theorem entsRest_start (l : List UInt8) : entsRest l [] 128 0 = entsZ l := by unfold entsRest entsZ; cases entsFrom l 128 0 <;> simp
theorem entsRest_zero (l : List UInt8) (acc : List De) (i : Nat) : entsRest l acc 0 i = none := rfl
theorem entsRest_no (l : List UInt8) (acc : List De) (f i : Nat) (h : ¬ i * 16 + 16 ≤ l.length) : entsRest l acc f i = none := by
  cases f with
  | zero => rfl
  | succ f => unfold entsRest entsFrom; rw [if_neg h]; rfl
theorem entsRest_end (l : List UInt8) (acc : List De) (f i : Nat) (h : i * 16 + 16 ≤ l.length) (h0 : rd l (i * 16) 8 = 0) : entsRest l acc (f + 1) i = some acc := by
  unfold entsRest entsFrom; rw [if_pos h, if_pos h0]; simp
theorem entsRest_next (l : List UInt8) (acc : List De) (f i : Nat) (h : i * 16 + 16 ≤ l.length) (h0 : rd l (i * 16) 8 ≠ 0) :
    entsRest l acc (f + 1) i = entsRest l (acc ++ [⟨rd l (i * 16) 8, rd l (i * 16 + 8) 8⟩]) f (i + 1) := by
  unfold entsRest
  rw [entsFrom, if_pos h, if_neg h0]
  cases entsFrom l f (i + 1) <;> simp
def flatD (l : List De) : List Value := l.flatMap De.cells
theorem flatD_app (l m : List De) : flatD (l ++ m) = flatD l ++ flatD m := by simp [flatD]
theorem flatD_get (l : List De) : ∀ (j : Nat) (hj : j < l.length) (k : Nat) (hk : k < 2), (flatD l)[j * 2 + k]? = l[j].cells[k]? := by
  induction l with
  | nil => intro j hj; simp at hj
  | cons e l ih =>
    intro j hj k hk
    have e1 : flatD (e :: l) = e.cells ++ flatD l := rfl
    have e2 : e.cells.length = 2 := rfl
    cases j with
    | zero => rw [e1, Nat.zero_mul, Nat.zero_add, List.getElem?_append_left (by omega)]; rfl
    | succ j =>
      rw [e1, List.getElem?_append_right (by omega), e2, show (j + 1) * 2 + k - 2 = j * 2 + k by omega]
      exact ih j (by simpa using hj) k hk
theorem De.one (e : De) : ∀ u ∈ e.cells, u.oneCell' = true := by
  intro u hu
  simp only [De.cells, List.mem_cons, List.not_mem_nil, or_false] at hu
  rcases hu with rfl | rfl <;> rfl
/-- A row of entries of the call's own. -/
def OwnD (T : TypeId) (w : World) (B : Nat) (v : Value) (l : List De) : Prop := w.ownsRow B T 2 v l.length (flatD l)
theorem OwnD.nil (T : TypeId) (w : World) (B : Nat) : OwnD T w B (.slice none 0 0) [] := World.ownsRow_nil _ _ _ _
/-- A row of entries that can be read. -/
def ArgD (w : World) (v : Value) (ps : List De) : Prop :=
  ps.length ≤ 65536 ∧ ((v = .slice none 0 0 ∧ ps = []) ∨ ∃ g cap, v = .slice (some ⟨g, 0, none⟩) ps.length cap ∧ ps.length ≤ cap ∧ cap ≤ maxLen ∧ g < w.heap.size ∧
    ∀ j (hj : j < ps.length) k, k < 2 → w.cell? ⟨g, j * 2 + k, none⟩ = ps[j].cells[k]?)
theorem OwnD.arg {T : TypeId} {w : World} {B : Nat} {v : Value} {l : List De} (h : OwnD T w B v l) (hl : l.length ≤ 65536) : ArgD w v l := by
  have hc := fun g hg => World.ownsRow.cells h (g := g) hg
  unfold OwnD at h
  refine ⟨hl, ?_⟩
  rcases h.2 with ⟨rfl, hn⟩ | ⟨g, cap, cur, rfl, hb, hg, hn, hm, _⟩
  · exact .inl ⟨rfl, List.length_eq_zero_iff.1 hn⟩
  · refine .inr ⟨g, cap, rfl, hn, hm, (Array.getElem?_eq_some_iff.1 hg).1, fun j hj k hk => ?_⟩
    have hlen : k < l[j].cells.length := hk
    have := hc g rfl (j * 2 + k) (l[j].cells[k]) (by rw [flatD_get l j hj k hk, List.getElem?_eq_getElem hlen])
    rw [add_at, Nat.zero_add] at this
    rw [this, List.getElem?_eq_getElem hlen]
theorem ArgD.below {w w' : World} {v : Value} {ps : List De} (h : ArgD w v ps) (hb : Below w.heap.size w w') : ArgD w' v ps := by
  refine ⟨h.1, ?_⟩
  rcases h.2 with hn | ⟨g, cap, rfl, h1, h2, h3, h4⟩
  · exact .inl hn
  · refine .inr ⟨g, cap, rfl, h1, h2, Nat.lt_of_lt_of_le h3 hb.size, fun j hj k hk => ?_⟩
    rw [hb.cell (p := ⟨g, j * 2 + k, none⟩) h3, h4 j hj k hk]
theorem ArgD.form {w : World} {v : Value} {ps : List De} (h : ArgD w v ps) : ∃ a cap, v = .slice a ps.length cap := by
  rcases h.2 with ⟨rfl, rfl⟩ | ⟨g, cap, rfl, _⟩
  · exact ⟨_, _, rfl⟩
  · exact ⟨_, _, rfl⟩
theorem ArgD.at {w : World} {a : Option Addr} {n cap : Nat} {ps : List De} (h : ArgD w (.slice a n cap) ps) (j : Nat) (hj : j < ps.length) :
    ∃ g, a = some ⟨g, 0, none⟩ ∧ ps.length ≤ cap ∧ cap ≤ 9223372036854775807 ∧ g < w.heap.size ∧
      w.cell? ⟨g, j * 2, none⟩ = some (.int .u64 ps[j].tag) ∧ w.cell? ⟨g, j * 2 + 1, none⟩ = some (.int .u64 ps[j].val) := by
  rcases h.2 with ⟨_, rfl⟩ | ⟨g, cap', e, h1, h2, h3, h4⟩
  · simp at hj
  · injection e with e1 e2 e3
    subst e1 e3
    have k := fun k hk => h4 j hj k hk
    exact ⟨g, rfl, h1, by unfold maxLen at h2; omega, h3, k 0 (by omega), k 1 (by omega)⟩
theorem info_rf : (Try.prog.info? 88).map (fun i => (i.zero, i.size, i.bytes)) = some (some (.agg #[.int .u64 0, .int .u64 0]), 2, 16) := by kernel_rfl
theorem append_rf {ops : Array Oper} {rest : List Oper} {o : Oper} {a : Act} {Q : Exit → Act → World → Prop} (hgd : o.guard = none) (s x : Operand)
    (ho : o.op = .call { callee := .builtin .append, args := #[s, x], argTypes := #[77, 77] })
    (B : Nat) (wr : World) (v : Value) (l : List De) (hown : OwnD 88 wr B v l) (e : De) (hs : a.eval s = v)
    (q : Nat) (hq : q = wr.heap.size) (hx : a.eval x = .slice (some ⟨q, 0, none⟩) 1 1) (hlen : l.length ≤ 1000000) (hB : B ≤ wr.heap.size)
    (h : ∀ v' w', OwnD 88 w' B v' (l ++ [e]) → Below B wr w' → wpList Try.prog ops Q rest (a.put o.dst v') w') :
    wpList Try.prog ops Q (o :: rest) a (wr.alloc (.cells e.cells.toArray 88)) := by
  subst hq
  obtain ⟨i, hi, hz0, hz1, hz2⟩ := info_parts info_rf
  have hb : ∀ k, v.ownBlock = some k → B ≤ k := fun k hk => (World.ownsRow.lt hown k hk).1
  refine wpList_append_own (P := Try.prog) (wr.alloc (.cells e.cells.toArray 88)) hgd s x 77 ho B 88 i _ 2 16 Try.underlying77 hi hz0 hz1 hz2 rfl (by decide) v l.length (flatD l) hs (World.ownsRow.alloc hown _)
    ⟨wr.heap.size, 0, none⟩ 1 1 e.cells hx rfl ?_ e.one ?_ ?_ ?_ ?_
  · intro j u hj
    have hj5 : j < 2 := (List.getElem?_eq_some_iff.1 hj).1
    rw [add_at, Nat.zero_add, World.cell?_alloc_at _ _ _ _ (by simp)]
    simpa using hj
  · unfold maxLen; omega
  · omega
  · simp; omega
  · intro v' w' h1 h2 _
    refine h v' w' ?_ ?_
    · unfold OwnD
      rw [List.length_append, flatD_app]
      simpa [flatD] using h1
    · exact ((Below.refl B wr).alloc hB _).grown h2 (by simp; omega) hb
end Go.Proofs.Ytdclofiifcpkkaa
namespace Go.Proofs.Ytdclofiifcpkkaa
open Go.RowKit Go.PlainAid Go.Sort
/-- What Entries answers. -/
def EntIs (T : TypeId) (w' : World) (B : Nat) (o : Option (List De)) (e : Ending) : Prop :=
  match o with
  | none => e = .returned (.tuple #[.slice none 0 0, .int .i64 90])
  | some L => ∃ v, e = .returned (.tuple #[v, .int .i64 0]) ∧ OwnD T w' B v L
theorem entsZ_ok {l : List UInt8} {L : List De} (h : entsZ l = some L) : (∀ e ∈ L, e.ok ∧ e.tag ≠ 0) ∧ L.length ≤ 128 := entsFrom_ok l 128 0 L h
set_option maxHeartbeats 2000000 in
theorem ref9_Entries (w : World) (v : Value) (l : List UInt8) (h : Arg w v l) (hl : l.length ≤ 1000000) :
    Calls Try.prog 26 #[v] w fun e w' => EntIs 88 w' w.heap.size (entsZ l) e ∧ Below w.heap.size w w' := by
  have HA := hide h
  obtain ⟨a, cap, rfl, _⟩ := h.isSlice
  obtain ⟨O, hO⟩ : ∃ O, entsZ l = O := ⟨_, rfl⟩
  rw [hO]
  rw [← entsRest_start] at hO
  have HO := hide hO
  clear h hO
  go_enter Try.func26, Try.ntmps26
  go_wp2
  go_loopw [4, 5, 6, 7, 8, 9] (fun v4 v5 _ _ _ _ wr => ∃ (i : Nat) (acc : List De), i ≤ 128 ∧ v5 = .int .u64 i ∧ Hid (acc.length ≤ i) ∧ Hid (OwnD 88 wr w.heap.size v4 acc) ∧ Hid (Below w.heap.size w wr) ∧ Hid (entsRest l acc (128 - i) i = O)) (fun _ v5 _ _ _ _ _ => 128 - (intOf v5).toNat)
  case atStart => exact ⟨0, [], by omega, rfl, by simp [Hid], OwnD.nil _ _ _, Below.refl _ _, HO⟩
  case round =>
    obtain ⟨i, acc, hi, rfl, HL, HOW, HB, HR⟩ := hrel
    by_cases hlt : i < 128
    · have hltI : (i : Int) < 128 := by omega
      have hA := HA.out.below' HB.out
      have k0 := ref_Get_all wr _ l hA (i * 16) 8 (by omega) (by omega) (by omega)
      have k8 := ref_Get_all wr _ l hA (i * 16 + 8) 8 (by omega) (by omega) (by omega)
      have e0 : ((i * 16 : Nat) : Int) = (i : Int) * 16 := by omega
      have e8 : ((i * 16 + 8 : Nat) : Int) = (i : Int) * 16 + 8 := by omega
      rw [e0] at k0
      rw [e8] at k8
      clear e0 e8 hA
      obtain ⟨f, hf⟩ : ∃ f, 128 - i = f + 1 := ⟨127 - i, by omega⟩
      by_cases hin : i * 16 + 16 ≤ l.length
      · rw [show eN l (i * 16 + 8) 8 = 0 from if_pos (by omega)] at k8
        rw [show eN l (i * 16) 8 = 0 from if_pos (by omega)] at k0
        obtain ⟨tg, htg⟩ : ∃ tg, vN l (i * 16) 8 = tg := ⟨_, rfl⟩
        obtain ⟨vl, hvl⟩ : ∃ vl, vN l (i * 16 + 8) 8 = vl := ⟨_, rfl⟩
        have r0 : rd l (i * 16) 8 = tg := htg
        have r8 : rd l (i * 16 + 8) 8 = vl := hvl
        rw [htg] at k0
        rw [hvl] at k8
        by_cases ht : tg = 0
        · have HF : Hid (some acc = O) := by
            have := HR.out
            rw [hf, entsRest_end l acc f i hin (r0.trans ht)] at this
            exact this
          subst ht
          clear htg hvl r0 r8 hf HR
          go_wp2_with fail
          refine k0.mono ?_
          rintro e w1 ⟨rfl, rfl⟩
          go_wp2_with fail
          refine k8.mono ?_
          rintro e w1 ⟨rfl, rfl⟩
          clear k0 k8
          go_wp2
          go_ret2
          exact ⟨by rw [← HF.out]; exact ⟨_, rfl, HOW.out⟩, HB.out⟩
        · have HF : Hid (entsRest l (acc ++ [⟨tg, vl⟩]) (128 - (i + 1)) (i + 1) = O) := by
            have := HR.out
            rw [hf, entsRest_next l acc f i hin (by rw [r0]; exact ht), r0, r8] at this
            rw [Hid, show 128 - (i + 1) = f by omega]; exact this
          have htI : ((tg : Int) == 0) = false := by simp; omega
          have HL2 : Hid ((acc ++ [(⟨tg, vl⟩ : De)]).length ≤ i + 1) := by have := HL.out; rw [Hid, List.length_append]; simp; omega
          clear htg hvl r0 r8 hf HR ht
          go_wp2_with fail
          refine k0.mono ?_
          rintro e w1 ⟨rfl, rfl⟩
          go_wp2_with fail
          refine k8.mono ?_
          rintro e w1 ⟨rfl, rfl⟩
          clear k0 k8
          go_wp2_with (at_builtin; refine append_rf rfl _ _ rfl w.heap.size wr _ acc HOW.out ⟨tg, vl⟩ rfl _ (by simp) rfl (by have := HL.out; omega) HB.out.size ?_)
          intro v' w3 h1 h2
          have HB3 : Hid (Below w.heap.size w w3) := HB.out.trans h2
          have HOW3 := hide h1
          clear h1 h2 HOW HB
          go_wp2
          go_roundw
          case rel => exact ⟨i + 1, _, by omega, by go_num, HL2, HOW3, HB3, HF⟩
          case measure => simp [intOf]; omega
      · have hor : eN l (i * 16) 8 = 0 ∨ eN l (i * 16) 8 = 20 := by unfold eN; split <;> simp
        rw [show eN l (i * 16 + 8) 8 = 20 from if_neg (by omega)] at k8
        have HF : Hid (none = O) := by have := HR.out; rw [entsRest_no l acc _ i hin] at this; exact this
        generalize vN l (i * 16) 8 = tg at *
        generalize vN l (i * 16 + 8) 8 = vl at *
        generalize eN l (i * 16) 8 = eg at *
        clear hf HR
        rcases hor with rfl | rfl
        all_goals
          go_wp2_with fail
          refine k0.mono ?_
          rintro e w1 ⟨rfl, rfl⟩
          go_wp2_with fail
          refine k8.mono ?_
          rintro e w1 ⟨rfl, rfl⟩
          clear k0 k8
          go_wp2
          go_ret2
          exact ⟨by rw [← HF.out]; rfl, HB.out⟩
    · have hltI : ¬ (i : Int) < 128 := by omega
      have he : i = 128 := by omega
      subst he
      have HF : Hid (none = O) := HR.out
      go_wp2
      go_ret2
      exact ⟨by rw [← HF.out]; rfl, HB.out⟩
end Go.Proofs.Ytdclofiifcpkkaa
namespace Go.Proofs.Ytdclofiifcpkkaa
open Go.RowKit Go.PlainAid Go.Sort
/-- How often a tag is there. -/
def cntT (E : List De) (t : Nat) : Nat := (E.filter fun e => decide (e.tag = t)).length
/-- The value of the first one. -/
def valT : List De → Nat → Nat
  | [], _ => 0
  | e :: r, t => if e.tag = t then e.val else valT r t
theorem cnt_le (E : List De) (t : Nat) : cntT E t ≤ E.length := List.length_filter_le _ _
theorem cnt_snoc {E : List De} {i : Nat} (h : i < E.length) (t : Nat) : cntT (E.take (i + 1)) t = cntT (E.take i) t + (if E[i].tag = t then 1 else 0) := by
  unfold cntT
  rw [List.take_add_one, List.getElem?_eq_getElem h, List.filter_append, List.length_append]
  congr 1
  simp only [Option.toList_some, List.filter_cons, List.filter_nil, decide_eq_true_eq]
  split <;> rfl
theorem val_drop {E : List De} {i : Nat} (h : i < E.length) (t : Nat) : valT (E.drop i) t = if E[i].tag = t then E[i].val else valT (E.drop (i + 1)) t := by
  rw [List.drop_eq_getElem_cons h]; rfl
theorem val_le {E : List De} (h : ∀ e ∈ E, e.ok) (t : Nat) : (valT E t : Int) ≤ 18446744073709551615 := by
  induction E with
  | nil => simp [valT]
  | cons e r ih =>
    unfold valT
    split
    · exact (h e (by simp)).val
    · exact ih (fun x hx => h x (by simp [hx]))
set_option maxHeartbeats 1000000 in
theorem ref9_count (w : World) (v : Value) (E : List De) (h : ArgD w v E) (t : Nat) :
    Calls Try.prog 29 #[v, .int .u64 t] w fun e w' => e = .returned (.int .i64 (cntT E t : Nat)) ∧ w = w' := by
  have HA := hide h
  obtain ⟨a, cap, rfl⟩ := h.form
  have hl := h.1
  clear h
  go_enter Try.func29, Try.ntmps29
  go_wp2
  go_loopw [5, 6] (fun v5 v6 wr => wr = w ∧ ∃ i : Nat, i ≤ E.length ∧ v6 = .int .i64 i ∧ v5 = .int .i64 (cntT (E.take i) t : Nat)) (fun _ v6 _ => E.length - (intOf v6).toNat)
  case atStart => exact ⟨rfl, 0, by omega, rfl, rfl⟩
  case round =>
    obtain ⟨rfl, i, hi, rfl, rfl⟩ := hrel
    by_cases hlt : i < E.length
    · have hltI : (i : Int) < (E.length : Int) := by omega
      obtain ⟨g, rfl, p1, p2, _, y0, y1⟩ := HA.out.at i hlt
      have HS := hide (cnt_snoc hlt t)
      have hc := cnt_le (E.take i) t
      rw [List.length_take] at hc
      obtain ⟨c, hcc⟩ : ∃ c, cntT (E.take i) t = c := ⟨_, rfl⟩
      rw [hcc] at hc HS ⊢
      have hcI : (c : Int) ≤ 65536 := by omega
      generalize E[i] = e at *
      clear hcc
      by_cases ht : e.tag = t
      · have HS2 : Hid (cntT (E.take (i + 1)) t = c + 1) := by rw [Hid, HS.out, if_pos ht]
        have hb : ((e.tag : Int) == (t : Int)) = true := by rw [ht]; simp
        clear HS ht
        go_wp2
        go_roundw
        case rel => exact ⟨trivial, i + 1, by omega, by go_num, by rw [HS2.out]; go_num⟩
        case measure => simp [intOf]; omega
      · have HS2 : Hid (cntT (E.take (i + 1)) t = c) := by rw [Hid, HS.out, if_neg ht]; rfl
        have hb : ((e.tag : Int) == (t : Int)) = false := by simp; omega
        clear HS ht
        go_wp2
        go_roundw
        case rel => exact ⟨trivial, i + 1, by omega, by go_num, by rw [HS2.out]⟩
        case measure => simp [intOf]; omega
    · have hltI : ¬ (i : Int) < (E.length : Int) := by omega
      have he : i = E.length := by omega
      subst he
      rw [List.take_length]
      go_wp2
      go_ret
      exact ⟨rfl, rfl⟩
set_option maxHeartbeats 1000000 in
theorem ref9_value (w : World) (v : Value) (E : List De) (h : ArgD w v E) (t : Nat) :
    Calls Try.prog 30 #[v, .int .u64 t] w fun e w' => e = .returned (.int .u64 (valT E t : Nat)) ∧ w = w' := by
  have HA := hide h
  obtain ⟨a, cap, rfl⟩ := h.form
  have hl := h.1
  obtain ⟨O, hO⟩ : ∃ O, valT E t = O := ⟨_, rfl⟩
  rw [hO]
  have HO : Hid (valT (E.drop 0) t = O) := hO
  clear h hO
  go_enter Try.func30, Try.ntmps30
  go_wp2
  go_loopw [5] (fun v5 wr => wr = w ∧ ∃ i : Nat, i ≤ E.length ∧ v5 = .int .i64 i ∧ Hid (valT (E.drop i) t = O)) (fun v5 _ => E.length - (intOf v5).toNat)
  case atStart => exact ⟨rfl, 0, by omega, rfl, HO⟩
  case round =>
    obtain ⟨rfl, i, hi, rfl, HR⟩ := hrel
    by_cases hlt : i < E.length
    · have hltI : (i : Int) < (E.length : Int) := by omega
      obtain ⟨g, rfl, p1, p2, _, y0, y1⟩ := HA.out.at i hlt
      have hr := HR.out
      rw [val_drop hlt] at hr
      clear HR
      generalize E[i] = e at *
      by_cases ht : e.tag = t
      · rw [if_pos ht] at hr
        have HF := hide hr
        have hb : ((e.tag : Int) == (t : Int)) = true := by rw [ht]; simp
        clear hr ht
        go_wp2
        go_ret
        exact ⟨by rw [← HF.out]; rfl, rfl⟩
      · rw [if_neg ht] at hr
        have HF := hide hr
        have hb : ((e.tag : Int) == (t : Int)) = false := by simp; omega
        clear hr ht
        go_wp2
        go_roundw
        case rel => exact ⟨trivial, i + 1, by omega, by go_num, HF⟩
        case measure => simp [intOf]; omega
    · have hltI : ¬ (i : Int) < (E.length : Int) := by omega
      have he : i = E.length := by omega
      subst he
      have HF : Hid (0 = O) := by have := HR.out; rw [List.drop_length] at this; exact this
      go_wp2
      go_ret
      exact ⟨by rw [← HF.out]; rfl, rfl⟩
/-- The tags that belong together. -/
def pairsL : List De := [⟨5, 10⟩, ⟨17, 18⟩, ⟨7, 8⟩, ⟨23, 2⟩, ⟨36, 35⟩, ⟨1610612751, 1610612752⟩, ⟨1610612753, 1610612754⟩, ⟨25, 27⟩, ⟨26, 28⟩, ⟨1879048188, 1879048189⟩, ⟨1879048190, 1879048191⟩, ⟨23, 20⟩]
/-- The tags that have one value. -/
def fixedL : List De := [⟨11, 24⟩, ⟨9, 24⟩, ⟨19, 16⟩, ⟨37, 8⟩]
theorem ArgD.of_block {w : World} {g : Nat} {ps : List De} {T : TypeId} (h : w.heap[g]? = some (.cells (flatD ps).toArray T (0, 0))) (hl : ps.length ≤ 65536) : ArgD w (.slice (some ⟨g, 0, none⟩) ps.length ps.length) ps := by
  refine ⟨hl, .inr ⟨g, ps.length, rfl, Nat.le_refl _, by unfold maxLen; omega, (Array.getElem?_eq_some_iff.1 h).1, fun j hj k hk => ?_⟩⟩
  have hlen : k < ps[j].cells.length := hk
  have e := flatD_get ps j hj k hk
  rw [List.getElem?_eq_getElem hlen] at e ⊢
  exact cells_of_block h (j * 2 + k) _ (by simpa using e)
set_option maxHeartbeats 1000000 in
theorem ref9_pairs (w : World) : Calls Try.prog 57 #[] w fun e w' => e = .returned (.slice (some ⟨w.heap.size, 0, none⟩) 12 12) ∧ ArgD w' (.slice (some ⟨w.heap.size, 0, none⟩) 12 12) pairsL ∧ Below w.heap.size w w' ∧ w.heap.size < w'.heap.size := by
  have HB : Hid (Below w.heap.size w (w.alloc (.cells (flatD pairsL).toArray 128))) := (Below.refl _ _).alloc (Nat.le_refl _) _
  have HA : Hid (ArgD (w.alloc (.cells (flatD pairsL).toArray 128)) (.slice (some ⟨w.heap.size, 0, none⟩) 12 12) pairsL) := ArgD.of_block (heap_alloc_new _ _) (by decide)
  have HL : Hid (w.heap.size < (w.alloc (.cells (flatD pairsL).toArray 128)).heap.size) := by simp [Hid]
  go_enter Try.func57, Try.ntmps57
  go_wp2
  go_ret
  exact ⟨rfl, HA.out, HB.out, HL.out⟩
set_option maxHeartbeats 1000000 in
theorem ref9_fixed (w : World) : Calls Try.prog 58 #[] w fun e w' => e = .returned (.slice (some ⟨w.heap.size, 0, none⟩) 4 4) ∧ ArgD w' (.slice (some ⟨w.heap.size, 0, none⟩) 4 4) fixedL ∧ Below w.heap.size w w' ∧ w.heap.size < w'.heap.size := by
  have HB : Hid (Below w.heap.size w (w.alloc (.cells (flatD fixedL).toArray 128))) := (Below.refl _ _).alloc (Nat.le_refl _) _
  have HA : Hid (ArgD (w.alloc (.cells (flatD fixedL).toArray 128)) (.slice (some ⟨w.heap.size, 0, none⟩) 4 4) fixedL) := ArgD.of_block (heap_alloc_new _ _) (by decide)
  have HL : Hid (w.heap.size < (w.alloc (.cells (flatD fixedL).toArray 128)).heap.size) := by simp [Hid]
  go_enter Try.func58, Try.ntmps58
  go_wp2
  go_ret
  exact ⟨rfl, HA.out, HB.out, HL.out⟩
end Go.Proofs.Ytdclofiifcpkkaa
namespace Go.Proofs.Ytdclofiifcpkkaa
open Go.RowKit Go.PlainAid Go.Sort
def uv (l : List Nat) : List Value := l.map fun (n : Nat) => Value.int .u64 n
/-- A row of numbers of the call's own. -/
def OwnU (w : World) (B : Nat) (v : Value) (l : List Nat) : Prop := w.ownsRow B 26 1 v l.length (uv l)
theorem OwnU.nil (w : World) (B : Nat) : OwnU w B (.slice none 0 0) [] := World.ownsRow_nil _ _ _ _
/-- A row of numbers that can be read. -/
def ArgU (w : World) (v : Value) (l : List Nat) : Prop :=
  l.length ≤ 65536 ∧ ((v = .slice none 0 0 ∧ l = []) ∨ ∃ g cap, v = .slice (some ⟨g, 0, none⟩) l.length cap ∧ l.length ≤ cap ∧ cap ≤ maxLen ∧ g < w.heap.size ∧
    ∀ j (hj : j < l.length), w.cell? ⟨g, j, none⟩ = some (.int .u64 (l[j] : Nat)))
theorem OwnU.arg {w : World} {B : Nat} {v : Value} {l : List Nat} (h : OwnU w B v l) (hl : l.length ≤ 65536) : ArgU w v l := by
  have hc := fun g hg => World.ownsRow.cells h (g := g) hg
  unfold OwnU at h
  refine ⟨hl, ?_⟩
  rcases h.2 with ⟨rfl, hn⟩ | ⟨g, cap, cur, rfl, hb, hg, hn, hm, _⟩
  · exact .inl ⟨rfl, List.length_eq_zero_iff.1 hn⟩
  · refine .inr ⟨g, cap, rfl, hn, hm, (Array.getElem?_eq_some_iff.1 hg).1, fun j hj => ?_⟩
    have := hc g rfl j (.int .u64 (l[j] : Nat)) (by unfold uv; rw [List.getElem?_map, List.getElem?_eq_getElem hj]; rfl)
    rwa [add_at, Nat.zero_add] at this
theorem ArgU.below {w w' : World} {v : Value} {l : List Nat} (h : ArgU w v l) (hb : Below w.heap.size w w') : ArgU w' v l := by
  refine ⟨h.1, ?_⟩
  rcases h.2 with hn | ⟨g, cap, rfl, h1, h2, h3, h4⟩
  · exact .inl hn
  · exact .inr ⟨g, cap, rfl, h1, h2, Nat.lt_of_lt_of_le h3 hb.size, fun j hj => by rw [hb.cell (p := ⟨g, j, none⟩) h3, h4 j hj]⟩
theorem ArgU.form {w : World} {v : Value} {l : List Nat} (h : ArgU w v l) : ∃ a cap, v = .slice a l.length cap := by
  rcases h.2 with ⟨rfl, rfl⟩ | ⟨g, cap, rfl, _⟩
  · exact ⟨_, _, rfl⟩
  · exact ⟨_, _, rfl⟩
theorem ArgU.at {w : World} {a : Option Addr} {n cap : Nat} {l : List Nat} (h : ArgU w (.slice a n cap) l) (j : Nat) (hj : j < l.length) :
    ∃ g, a = some ⟨g, 0, none⟩ ∧ l.length ≤ cap ∧ cap ≤ 9223372036854775807 ∧ g < w.heap.size ∧ w.cell? ⟨g, j, none⟩ = some (.int .u64 (l[j] : Nat)) := by
  rcases h.2 with ⟨_, rfl⟩ | ⟨g, cap', e, h1, h2, h3, h4⟩
  · simp at hj
  · injection e with e1 e2 e3
    subst e1 e3
    exact ⟨g, rfl, h1, by unfold maxLen at h2; omega, h3, h4 j hj⟩
theorem info_u : (Try.prog.info? 26).map (fun i => (i.zero, i.size, i.bytes)) = some (some (.int .u64 0), 1, 8) := by kernel_rfl
theorem uv_one (l : List Nat) : ∀ u ∈ uv l, u.oneCell' = true := fun u hu => by
  obtain ⟨n, _, rfl⟩ := List.mem_map.1 hu; rfl
theorem run_append_u (W : World) (ty : TypeId) (B : Nat) (v : Value) (l : List Nat) (hown : OwnU W B v l) (m : List Nat) (q c : Nat) (hq : ∀ j u, (uv m)[j]? = some u → W.cell? ⟨q, j, none⟩ = some u) (hlen : l.length + m.length ≤ 100000) (hB : B ≤ W.heap.size) :
    ∃ v' w', (Builtin.append_ #[124, 124] ty #[v, .slice (some ⟨q, 0, none⟩) m.length c]).run Try.prog W = .ok v' w' ∧ OwnU w' B v' (l ++ m) ∧ W.grownBy w' v.ownBlock ∧ (v'.ownBlock = v.ownBlock ∨ v'.ownBlock = some W.heap.size) := by
  obtain ⟨i, hi, hz0, hz1, hz2⟩ := info_parts info_u
  obtain ⟨v', w', hr, h2, h3, h4, h5⟩ := run_append_own_at (P := Try.prog) W B 124 ty 26 i _ 1 8 Try.underlying124 hi hz0 hz1 hz2 rfl (by decide) v l.length (uv l) hown ⟨q, 0, none⟩ m.length c (uv m) (by simp [uv])
    (fun j u hj => by rw [add_at, Nat.zero_add]; exact hq j u hj) (uv_one m) (by unfold maxLen; omega) (by omega) hB
  refine ⟨v', w', hr, ?_, h3, h5⟩
  unfold OwnU
  rw [List.length_append]
  simpa [uv] using h2
theorem new_u (W : World) (m : List Nat) : ∀ j u, (uv m)[j]? = some u → (W.alloc (.cells (uv m).toArray 26)).cell? ⟨W.heap.size, j, none⟩ = some u := fun j u h => by
  rw [World.cell?_alloc_at _ _ _ _ (by simp)]; simpa using h
/-- append of some numbers that lie in a new block. -/
theorem append_u {ops : Array Oper} {rest : List Oper} {o : Oper} {a : Act} {Q : Exit → Act → World → Prop} (hgd : o.guard = none) (s x : Operand)
    (ho : o.op = .call { callee := .builtin .append, args := #[s, x], argTypes := #[124, 124] })
    (B : Nat) (wr : World) (v : Value) (l m : List Nat) (hown : OwnU wr B v l) (hs : a.eval s = v)
    (hx : a.eval x = .slice (some ⟨wr.heap.size, 0, none⟩) m.length m.length) (hlen : l.length + m.length ≤ 100000) (hB : B ≤ wr.heap.size)
    (h : ∀ v' w', OwnU w' B v' (l ++ m) → wr.grownBy w' v.ownBlock → (v'.ownBlock = v.ownBlock ∨ ∃ k, v'.ownBlock = some k ∧ wr.heap.size ≤ k) → wpList Try.prog ops Q rest (a.put o.dst v') w') :
    wpList Try.prog ops Q (o :: rest) a (wr.alloc (.cells (uv m).toArray 26)) := by
  obtain ⟨v', w', hr, h2, h3, h4⟩ := run_append_u (wr.alloc (.cells (uv m).toArray 26)) o.type B v l (World.ownsRow.alloc hown _) m wr.heap.size m.length (new_u wr m) hlen (by simp; omega)
  refine wpList_plain hgd fun K hK => ?_
  unfold Oper.wp execOp
  simp only [ho, resolve, invoke, builtin, Sem.run_bind, Sem.run_pure, Result.andThen_ok, List.map_toArray, List.map_cons, List.map_nil, hs, hx, hr]
  refine hK _ _ (h v' w' h2 (grown_alloc h3) ?_)
  rcases h4 with e | e
  · exact .inl e
  · exact .inr ⟨_, e, by simp⟩
theorem step_append_u {ops : Array Oper} {o : Oper} {a : Act} {W : World} {K : Act → World → Prop} {Q : Exit → Act → World → Prop} {E : Prop} (hgd : o.guard = none) (s x : Operand)
    (ho : o.op = .call { callee := .builtin .append, args := #[s, x], argTypes := #[124, 124] })
    (B : Nat) (v : Value) (l m : List Nat) (hown : OwnU W B v l) (hs : a.eval s = v) (q c : Nat)
    (hx : a.eval x = .slice (some ⟨q, 0, none⟩) m.length c) (hq : ∀ j u, (uv m)[j]? = some u → W.cell? ⟨q, j, none⟩ = some u) (hlen : l.length + m.length ≤ 100000) (hB : B ≤ W.heap.size)
    (h : ∀ v' w', OwnU w' B v' (l ++ m) → W.grownBy w' v.ownBlock → (v'.ownBlock = v.ownBlock ∨ v'.ownBlock = some W.heap.size) → K (a.put o.dst v') w') :
    if Region.wanted o (yielded ops a.tmps) = true then Oper.wp Try.prog o a W K Q else E := by
  have hw : Region.wanted o (yielded ops a.tmps) = true := by simp [Region.wanted, hgd]
  rw [if_pos hw]
  obtain ⟨v', w', hr, h2, h3, h4⟩ := run_append_u W o.type B v l hown m q c hq hlen hB
  unfold Oper.wp execOp
  simp only [ho, resolve, invoke, builtin, Sem.run_bind, Sem.run_pure, Result.andThen_ok, List.map_toArray, List.map_cons, List.map_nil, hs, hx, hr]
  exact h v' w' h2 h3 h4
def single0 : List Nat := [14, 29, 6, 4, 1879047925, 16, 30, 1879048187, 1879048176]
def singleA (i : Nat) : List Nat := single0 ++ (pairsL.take i).flatMap fun e => [e.tag, e.val]
def singleB (i : Nat) : List Nat := singleA 11 ++ [20] ++ (fixedL.take i).map De.tag
/-- The tags that are looked at, but the first one. -/
def singlesL : List Nat := singleB 4
theorem singleA_next {i : Nat} (h : i < 12) : singleA (i + 1) = singleA i ++ [(pairsL[i]'h).tag, (pairsL[i]'h).val] := by
  unfold singleA
  rw [List.take_add_one, List.getElem?_eq_getElem (show i < pairsL.length from h), List.flatMap_append, List.append_assoc]
  rfl
theorem singleB_next {i : Nat} (h : i < 4) : singleB (i + 1) = singleB i ++ [(fixedL[i]'h).tag] := by
  unfold singleB
  rw [List.take_add_one, List.getElem?_eq_getElem (show i < fixedL.length from h), List.map_append, ← List.append_assoc]
  rfl
theorem singleA_len (i : Nat) : (singleA i).length ≤ 33 := by
  unfold singleA
  rw [List.length_append, List.length_flatMap]
  have : ((pairsL.take i).map fun e : De => ([e.tag, e.val] : List Nat).length).sum ≤ 24 := by
    have e : ((pairsL.take i).map fun e : De => ([e.tag, e.val] : List Nat).length) = List.replicate (pairsL.take i).length 2 := by
      rw [List.eq_replicate_iff]
      refine ⟨by simp, fun b hb => ?_⟩
      obtain ⟨x, _, rfl⟩ := List.mem_map.1 hb
      rfl
    rw [e, List.sum_replicate_nat, List.length_take]
    have : pairsL.length = 12 := rfl
    omega
  have h0 : single0.length = 9 := rfl
  omega
theorem singleB_len (i : Nat) : (singleB i).length ≤ 40 := by
  unfold singleB
  have h1 := singleA_len 11
  have h2 : ((fixedL.take i).map De.tag).length ≤ 4 := by rw [List.length_map, List.length_take]; have : fixedL.length = 4 := rfl; omega
  simp only [List.length_append, List.length_cons, List.length_nil]
  omega
theorem OwnU.of_new (w : World) (l : List Nat) (hl : l.length ≤ 1000) : OwnU (w.alloc (.cells (uv l).toArray 26)) w.heap.size (.slice (some ⟨w.heap.size, 0, none⟩) l.length l.length) l := by
  unfold OwnU
  refine ⟨by simp [uv], .inr ⟨w.heap.size, l.length, _, rfl, Nat.le_refl _, heap_alloc_new _ _, Nat.le_refl _, by unfold maxLen; omega, by simp [uv], ?_⟩⟩
  show (uv l).take (l.length * 1) = uv l
  rw [Nat.mul_one, show l.length = (uv l).length by simp [uv], List.take_length]
theorem OwnU.apart {w w' : World} {B : Nat} {b : Option Nat} {v : Value} {l : List Nat} (h : OwnU w B v l) (hb : w.grownBy w' b) (hR : ∀ k, v.ownBlock = some k → b ≠ some k) : OwnU w' B v l := by
  unfold OwnU at h ⊢
  refine ⟨h.1, ?_⟩
  rcases h.2 with hn | ⟨g, cap, cur, rfl, hB, hg, rest⟩
  · exact .inl hn
  · refine .inr ⟨g, cap, cur, rfl, hB, ?_, rest⟩
    rw [hb.block g (Array.getElem?_eq_some_iff.1 hg).1 (fun e => hR g rfl e.symm)]; exact hg
theorem OwnU.stay {w w' : World} {B : Nat} {v : Value} {l : List Nat} (h : OwnU w B v l) (hb : Below w.heap.size w w') : OwnU w' B v l := by
  unfold OwnU at h ⊢
  refine ⟨h.1, ?_⟩
  rcases h.2 with hn | ⟨g, cap, cur, rfl, hB, hg, rest⟩
  · exact .inl hn
  · refine .inr ⟨g, cap, cur, rfl, hB, ?_, rest⟩
    rw [hb.block g (Array.getElem?_eq_some_iff.1 hg).1]; exact hg
theorem ArgD.apart {w w' : World} {b : Option Nat} {g n cap : Nat} {ps : List De} (h : ArgD w (.slice (some ⟨g, 0, none⟩) n cap) ps) (hb : w.grownBy w' b) (hne : b ≠ some g) : ArgD w' (.slice (some ⟨g, 0, none⟩) n cap) ps := by
  refine ⟨h.1, ?_⟩
  rcases h.2 with hn | ⟨g', cap', e, h1, h2, h3, h4⟩
  · exact .inl hn
  · injection e with e1 e2 e3
    injection e1 with e1
    injection e1 with e1
    subst e1 e2 e3
    refine .inr ⟨g, cap, rfl, h1, h2, Nat.lt_of_lt_of_le h3 hb.size, fun j hj k hk => ?_⟩
    rw [World.cell?_of_block (a := ⟨g, j * 2 + k, none⟩) (hb.block g h3 (fun e => hne e.symm))]; exact h4 j hj k hk
/-- One row grows beside another one. -/
structure Uz (w wr : World) (g : Nat) (v : Value) (l : List Nat) (ps : List De) : Prop where
  bel : Below w.heap.size w wr
  own : OwnU wr w.heap.size v l
  arg : ArgD wr (.slice (some ⟨g, 0, none⟩) ps.length ps.length) ps
  lt : g < wr.heap.size
  far : v.ownBlock ≠ some g
theorem Uz.app {w wr w' : World} {g : Nat} {v v' : Value} {l l' : List Nat} {ps : List De} (h : Uz w wr g v l ps) (h1 : OwnU w' w.heap.size v' l') (h2 : wr.grownBy w' v.ownBlock) (h3 : v'.ownBlock = v.ownBlock ∨ ∃ k, v'.ownBlock = some k ∧ wr.heap.size ≤ k) : Uz w w' g v' l' ps :=
  ⟨h.bel.grown h2 h.bel.size (fun k hk => (World.ownsRow.lt h.own k hk).1), h1, h.arg.apart h2 h.far, Nat.lt_of_lt_of_le h.lt h2.size, by
    rcases h3 with e | ⟨k, e, hk⟩
    · rw [e]; exact h.far
    · rw [e]; intro e2; injection e2 with e2; have := h.lt; omega⟩
theorem Uz.below {w wr w' : World} {g : Nat} {v : Value} {l : List Nat} {ps : List De} (h : Uz w wr g v l ps) (hb : Below wr.heap.size wr w') : Uz w w' g v l ps :=
  ⟨h.bel.trans (hb.mono h.bel.size), h.own.stay hb, h.arg.below hb, Nat.lt_of_lt_of_le h.lt hb.size, h.far⟩
end Go.Proofs.Ytdclofiifcpkkaa
namespace Go.Proofs.Ytdclofiifcpkkaa
open Go.RowKit Go.PlainAid Go.Sort
set_option maxHeartbeats 4000000 in
set_option maxRecDepth 20000 in
theorem ref9_singles (w : World) : Calls Try.prog 56 #[] w fun e w' => ∃ v, e = .returned v ∧ OwnU w' w.heap.size v singlesL ∧ Below w.heap.size w w' := by
  have HB0 : Hid (Below w.heap.size w (w.alloc (.cells (uv single0).toArray 26))) := (Below.refl _ _).alloc (Nat.le_refl _) _
  have HO0 : Hid (OwnU (w.alloc (.cells (uv single0).toArray 26)) w.heap.size (.slice (some ⟨w.heap.size, 0, none⟩) 9 9) single0) := OwnU.of_new w single0 (by decide)
  have hP := ref9_pairs (w.alloc (.cells (uv single0).toArray 26))
  have hs0 : (w.alloc (.cells (uv single0).toArray 26)).heap.size = w.heap.size + 1 := by simp
  rw [hs0] at hP
  clear hs0
  go_enter Try.func56, Try.ntmps56
  go_wp2_with fail
  refine hP.mono ?_
  rintro e w1 ⟨rfl, hA, hb, hlt⟩
  have hs0 : (w.alloc (.cells (uv single0).toArray 26)).heap.size = w.heap.size + 1 := by simp
  have HU : Hid (Uz w w1 (w.heap.size + 1) (.slice (some ⟨w.heap.size, 0, none⟩) 9 9) (singleA 0) pairsL) :=
    ⟨HB0.out.trans (hb.mono (by omega)), HO0.out.stay (by rw [hs0]; exact hb), hA, hlt, by simp [Value.ownBlock]⟩
  clear hP hA hb hlt HB0 HO0 hs0
  go_wp2
  go_loopw [1, 3] (fun v1 v3 wr => ∃ i : Nat, i ≤ 11 ∧ v3 = .int .i64 i ∧ Hid (Uz w wr (w.heap.size + 1) v1 (singleA i) pairsL)) (fun _ v3 _ => 11 - (intOf v3).toNat)
  case atStart => exact ⟨0, by omega, rfl, HU⟩
  case round =>
    obtain ⟨i, hi, rfl, HZ⟩ := hrel
    by_cases hlt : i < 11
    · have hltI : (i : Int) < 11 := by omega
      have hltJ : (i : Int) < 12 := by omega
      have HNX := hide (singleA_next (show i < 12 by omega))
      have hAr := HZ.out.arg
      obtain ⟨g', e', p1, p2, _, y0, y1⟩ := hAr.at i (show i < pairsL.length by show i < 12; omega)
      cases e'
      have hle := singleA_len i
      generalize (pairsL[i]'(show i < pairsL.length by show i < 12; omega)) = e at *
      have z0 : wr.drew.cell? ⟨w.heap.size + 1, i * 2, none⟩ = some (.int .u64 e.tag) := y0
      have z1 : wr.drew.cell? ⟨w.heap.size + 1, i * 2 + 1, none⟩ = some (.int .u64 e.val) := y1
      have HZd := hide (HZ.out.below (Below.refl _ _).drew)
      have HZa := hide (fun o => HZd.out.below ((Below.refl _ _).alloc (Nat.le_refl _) o))
      have HNW := hide (new_u wr.drew [e.tag, e.val])
      clear hAr y0 y1 p1 p2
      simp only [uv, List.map_cons, List.map_nil] at HNW
      go_wp2_with fail
      go_region_law (refine step_append_u rfl (.tmp 15) (.tmp 26) rfl w.heap.size _ (singleA i) [e.tag, e.val] (HZa.out _).own rfl _ 2 rfl HNW.out (by simp; omega) (HZa.out _).bel.size ?_; intro v6 W6 r6 g6 n6; have HR6 := hide r6; have HG6 := hide g6; have HN6 := hide n6; clear r6 g6 n6)
      all_goals
        have HZN := hide (HZd.out.app (l' := singleA (i + 1)) (by rw [HNX.out]; exact HR6.out) (grown_alloc HG6.out) (by rcases HN6.out with q | q; exact .inl q; exact .inr ⟨_, q, by simp⟩))
        clear HZa HNW z0 z1 HG6 HR6 HN6 HZ HZd
        go_wp2
        go_roundw
        case rel => exact ⟨i + 1, by omega, by go_num, HZN⟩
        case measure => simp [intOf]; omega
    · have hltI : ¬ (i : Int) < 11 := by omega
      have he : i = 11 := by omega
      subst he
      have hle := singleA_len 11
      go_wp2_with (at_builtin; refine append_u rfl _ _ rfl w.heap.size wr _ (singleA 11) [20] HZ.out.own rfl rfl (by simp; omega) HZ.out.bel.size ?_)
      intro v2 w2 h1 h2 h3
      have HZ2 := hide (HZ.out.app h1 h2 h3)
      have hF := ref9_fixed w2
      clear h1 h2 h3 HZ
      go_wp2_with fail
      refine hF.mono ?_
      rintro e w3 ⟨rfl, hA, hb, hlt3⟩
      have HU : Hid (Uz w w3 w2.heap.size v2 (singleB 0) fixedL) := ⟨HZ2.out.bel.trans (hb.mono HZ2.out.bel.size), by unfold singleB; simpa using HZ2.out.own.stay hb, hA, hlt3, fun e => by have := (World.ownsRow.lt HZ2.out.own _ e).2; omega⟩
      clear hF hA hb hlt3 HZ2 hle
      go_wp2
      go_loopw [1, 5] (fun v1 v5 wr => ∃ i : Nat, i ≤ 4 ∧ v5 = .int .i64 i ∧ Hid (Uz w wr w2.heap.size v1 (singleB i) fixedL)) (fun _ v5 _ => 4 - (intOf v5).toNat)
      case atStart => exact ⟨0, by omega, rfl, HU⟩
      case round =>
        obtain ⟨i, hi, rfl, HZ⟩ := hrel
        by_cases hlt : i < 4
        · have hltI : (i : Int) < 4 := by omega
          have HNX := hide (singleB_next hlt)
          have hAr := HZ.out.arg
          obtain ⟨g', e', p1, p2, _, y0, y1⟩ := hAr.at i hlt
          cases e'
          have hle := singleB_len i
          generalize (fixedL[i]'hlt) = e at *
          clear hAr p1 p2 y1
          go_wp2_with (at_builtin; refine append_u rfl _ _ rfl w.heap.size wr _ (singleB i) [e.tag] HZ.out.own rfl rfl (by simp; omega) HZ.out.bel.size ?_)
          intro v4 w4 h1 h2 h3
          have HZN := hide (HZ.out.app (l' := singleB (i + 1)) (by rw [HNX.out]; exact h1) h2 h3)
          clear h1 h2 h3 HZ y0
          go_wp2
          go_roundw
          case rel => exact ⟨i + 1, by omega, by go_num, HZN⟩
          case measure => simp [intOf]; omega
        · have hltI : ¬ (i : Int) < 4 := by omega
          have he : i = 4 := by omega
          subst he
          go_wp2
          go_ret
          exact ⟨_, rfl, HZ.out.own, HZ.out.bel⟩
end Go.Proofs.Ytdclofiifcpkkaa
namespace Go.Proofs.Ytdclofiifcpkkaa
open Go.RowKit Go.PlainAid Go.Sort
def sP (E : List De) (t : Nat) : Bool := decide (cntT E t ≤ 1)
def pP (E : List De) (p : De) : Bool := decide (cntT E p.tag = cntT E p.val)
def fP (E : List De) (p : De) : Bool := !(decide (cntT E p.tag = 1) && decide (valT E p.tag ≠ p.val))
def mustB (E : List De) : Bool := decide (cntT E 5 ≠ 0) && (decide (cntT E 6 ≠ 0) && (decide (cntT E 4 + cntT E 1879047925 ≠ 0) && decide (cntT E 1610612751 + cntT E 1610612753 ≤ 1)))
def kindB (E : List De) : Bool := decide (cntT E 20 = 0) || (decide (valT E 20 = 7) || decide (valT E 20 = 17))
/-- Do the tags stand as they must? -/
def rightB (E : List De) : Bool := singlesL.all (sP E) && (pairsL.all (pP E) && (fixedL.all (fP E) && (mustB E && kindB E)))
theorem allT_snoc {α : Type} (P : α → Bool) (l : List α) (i : Nat) (h : i < l.length) : (l.take (i + 1)).all P = ((l.take i).all P && P l[i]) := by
  rw [List.take_add_one, List.getElem?_eq_getElem h, List.all_append]
  simp
theorem allT_bad {α : Type} (P : α → Bool) (l : List α) (i : Nat) (h : i < l.length) (hb : P l[i] = false) : l.all P = false := by
  rw [List.all_eq_false]
  exact ⟨l[i], List.getElem_mem h, by rw [hb]; simp⟩
set_option maxHeartbeats 2000000 in
set_option maxRecDepth 20000 in
theorem ref9_right (w : World) (v : Value) (E : List De) (h : ArgD w v E) :
    Calls Try.prog 27 #[v] w fun e w' => e = .returned (.bool (rightB E)) ∧ Below w.heap.size w w' := by
  have HA := hide h
  obtain ⟨O, hO⟩ : ∃ O, rightB E = O := ⟨_, rfl⟩
  rw [hO]
  unfold rightB at hO
  have HO := hide hO
  have hS := ref9_singles w
  obtain ⟨a, cap, rfl⟩ := h.form
  have hcl : E.length ≤ 65536 := h.1
  have HCL := hide (fun t => Nat.le_trans (cnt_le E t) hcl)
  clear h hO
  go_enter Try.func27, Try.ntmps27
  go_wp2_with fail
  refine hS.mono ?_
  rintro e w1 ⟨vs, rfl, own1, hb1⟩
  have HB1 := hide hb1
  have HA1 := hide (HA.out.below hb1)
  have hsl : singlesL.length ≤ 40 := singleB_len 4
  have HU1 := hide (own1.arg (by omega))
  obtain ⟨sa, sc, rfl⟩ := HU1.out.form
  obtain ⟨NS, hNS⟩ : ∃ NS, singlesL.length = NS := ⟨_, rfl⟩
  rw [hNS] at HU1 hsl ⊢
  have HNS := hide hNS
  clear hS own1 hb1 HA hNS
  go_wp2
  go_loopw [4] (fun v4 wr => wr = w1 ∧ ∃ i : Nat, i ≤ NS ∧ v4 = .int .i64 i ∧ Hid ((singlesL.take i).all (sP E) = true)) (fun v4 _ => NS - (intOf v4).toNat)
  case atStart => exact ⟨rfl, 0, by omega, rfl, by simp [Hid]⟩
  case round =>
    obtain ⟨rfl, i, hi, rfl, HP⟩ := hrel
    by_cases hlt : i < NS
    · have hltI : (i : Int) < (NS : Int) := by omega
      have hltL : i < singlesL.length := by rw [HNS.out]; exact hlt
      obtain ⟨g, rfl, p1, p2, _, y0⟩ := HU1.out.at i hltL
      have hC := ref9_count wr _ E HA1.out (singlesL[i]'hltL)
      have hcc := HCL.out (singlesL[i]'hltL)
      have HSN := hide (allT_snoc (sP E) singlesL i hltL)
      have HBD := hide (allT_bad (sP E) singlesL i hltL)
      have HPT : Hid (sP E (singlesL[i]'hltL) = decide (cntT E (singlesL[i]'hltL) ≤ 1)) := rfl
      generalize (singlesL[i]'hltL) = t at *
      generalize cntT E t = c at *
      rw [HNS.out] at p1
      by_cases c1 : c ≤ 1
      · have HP2 : Hid ((singlesL.take (i + 1)).all (sP E) = true) := by rw [Hid, HSN.out, HP.out, HPT.out, decide_eq_true c1]; rfl
        have cI : ¬ (1 : Int) < (c : Int) := by omega
        clear HSN HBD HPT c1
        go_wp2_with fail
        refine hC.mono ?_
        rintro e w2 ⟨rfl, rfl⟩
        clear hC
        go_wp2
        go_roundw
        case rel => exact ⟨trivial, i + 1, by omega, by go_num, HP2⟩
        case measure => simp [intOf]; omega
      · have HF : Hid (false = O) := by
          have := HO.out
          rw [HBD.out (by rw [HPT.out, decide_eq_false c1])] at this
          exact this
        have cI : (1 : Int) < (c : Int) := by omega
        clear HSN HBD HPT c1
        go_wp2_with fail
        refine hC.mono ?_
        rintro e w2 ⟨rfl, rfl⟩
        clear hC
        go_wp2
        go_ret
        exact ⟨by rw [← HF.out]; rfl, HB1.out⟩
    · have hltI : ¬ (i : Int) < (NS : Int) := by omega
      have he : i = NS := by omega
      subst he
      have hO := HO.out
      have hP := HP.out
      rw [← HNS.out, List.take_length] at hP
      rw [hP, Bool.true_and] at hO
      have HO2 := hide hO
      have hPr := ref9_pairs wr
      clear hO hP HP HO
      go_wp2_with fail
      refine hPr.mono ?_
      rintro e w2 ⟨rfl, hA2, hb2, hl2⟩
      have HB2 : Hid (Below w.heap.size w w2) := HB1.out.trans (hb2.mono HB1.out.size)
      have HA2 := hide (HA1.out.below hb2)
      have HP2 := hide hA2
      clear hPr hA2 hb2
      generalize wr.heap.size = gp at *
      clear HA1 HU1 HNS hsl
      go_wp2
      go_loopw [6] (fun v6 wr => ∃ i : Nat, i ≤ 12 ∧ v6 = .int .i64 i ∧ Hid (Below w2.heap.size w2 wr) ∧ Hid ((pairsL.take i).all (pP E) = true)) (fun v6 _ => 12 - (intOf v6).toNat)
      case atStart => exact ⟨0, by omega, rfl, Below.refl _ _, by simp [Hid]⟩
      case round =>
        obtain ⟨i, hi, rfl, HBx, HP⟩ := hrel
        by_cases hlt : i < 12
        · have hltI : (i : Int) < 12 := by omega
          have hltL : i < pairsL.length := hlt
          obtain ⟨g, e', p1, p2, _, y0, y1⟩ := (HP2.out.below HBx.out).at i hltL
          cases e'
          have HC := hide (fun d os t => q_same (ref9_count (grow (redrawn wr d) os) _ E ((HA2.out.below HBx.out).below (below_regrown wr d os)) t))
          have HSN := hide (allT_snoc (pP E) pairsL i hltL)
          have HBD := hide (allT_bad (pP E) pairsL i hltL)
          have HPT : Hid (pP E (pairsL[i]'hltL) = decide (cntT E (pairsL[i]'hltL).tag = cntT E (pairsL[i]'hltL).val)) := rfl
          generalize (pairsL[i]'hltL) = e at *
          obtain ⟨t, u⟩ := e
          simp only at y0 y1 HPT
          have hc1 := HCL.out t
          have hc2 := HCL.out u
          clear p1 p2
          go_wp2_with fail
          try simp only [List.append_eq, List.cons_append, List.nil_append]
          refine wp_region_quiet_below (by kernel_rfl) (by kernel_rfl) ?_
          have e0 := cell_regrown y0
          have e1 := cell_regrown y1
          repeat (go_big_quiet_step (exact HC.out _ _ _))
          refine wpQuiet_nil ?_
          intro _ hwq
          obtain ⟨⟨dq, osq⟩, hwq2⟩ := hwq
          subst hwq2
          have HBy : Hid (Below w2.heap.size w2 (grow (redrawn wr dq) osq)) := HBx.out.trans ((below_regrown _ dq osq).mono HBx.out.size)
          clear e0 e1 y0 y1 HC HBx
          generalize grow _ _ = w3 at *
          generalize cntT E t = c at *
          generalize cntT E u = c' at *
          by_cases cc : c = c'
          · subst cc
            have HP3 : Hid ((pairsL.take (i + 1)).all (pP E) = true) := by rw [Hid, HSN.out, HP.out, HPT.out, decide_eq_true rfl]; rfl
            have cI : ((c : Int) != (c : Int)) = false := by simp
            clear HSN HBD HPT
            go_wp2
            go_roundw
            case rel => exact ⟨i + 1, by omega, by go_num, HBy, HP3⟩
            case measure => simp [intOf]; omega
          · have HF : Hid (false = O) := by
              have := HO2.out
              rw [HBD.out (by rw [HPT.out, decide_eq_false cc])] at this
              exact this
            have cI : ((c : Int) != (c' : Int)) = true := by simp; omega
            clear HSN HBD HPT cc
            go_wp2
            go_ret
            exact ⟨by rw [← HF.out]; rfl, HB2.out.trans (HBy.out.mono HB2.out.size)⟩
        · have hltI : ¬ (i : Int) < 12 := by omega
          have he : i = 12 := by omega
          subst he
          have hO := HO2.out
          have hP := HP.out
          rw [show pairsL.take 12 = pairsL from rfl] at hP
          rw [hP, Bool.true_and] at hO
          have HO3 := hide hO
          have hFx := ref9_fixed wr
          have HA3 := hide (HA2.out.below HBx.out)
          have HB3 : Hid (Below w.heap.size w wr) := HB2.out.trans (HBx.out.mono HB2.out.size)
          clear hO hP HP HO2 HP2 HA2 HB2 HBx
          go_wp2_with fail
          refine hFx.mono ?_
          rintro e w4 ⟨rfl, hA4, hb4, hl4⟩
          have HB4 : Hid (Below w.heap.size w w4) := HB3.out.trans (hb4.mono HB3.out.size)
          have HA4 := hide (HA3.out.below hb4)
          have HF4 := hide hA4
          clear hFx hA4 hb4 HA3 HB3
          generalize wr.heap.size = gf at *
          go_wp2
          go_loopw [8] (fun v8 wr => ∃ i : Nat, i ≤ 4 ∧ v8 = .int .i64 i ∧ Hid (Below w4.heap.size w4 wr) ∧ Hid ((fixedL.take i).all (fP E) = true)) (fun v8 _ => 4 - (intOf v8).toNat)
          case atStart => exact ⟨0, by omega, rfl, Below.refl _ _, by simp [Hid]⟩
          case round =>
            obtain ⟨i, hi, rfl, HBx, HP⟩ := hrel
            by_cases hlt : i < 4
            · have hltI : (i : Int) < 4 := by omega
              have hltL : i < fixedL.length := hlt
              obtain ⟨g, e', p1, p2, _, y0, y1⟩ := (HF4.out.below HBx.out).at i hltL
              cases e'
              have HC := hide (fun d os t => q_same (ref9_count (grow (redrawn wr d) os) _ E ((HA4.out.below HBx.out).below (below_regrown wr d os)) t))
              have HV := hide (fun d os t => q_same (ref9_value (grow (redrawn wr d) os) _ E ((HA4.out.below HBx.out).below (below_regrown wr d os)) t))
              have HSN := hide (allT_snoc (fP E) fixedL i hltL)
              have HBD := hide (allT_bad (fP E) fixedL i hltL)
              have HPT : Hid (fP E (fixedL[i]'hltL) = !(decide (cntT E (fixedL[i]'hltL).tag = 1) && decide (valT E (fixedL[i]'hltL).tag ≠ (fixedL[i]'hltL).val))) := rfl
              generalize (fixedL[i]'hltL) = e at *
              obtain ⟨t, u⟩ := e
              simp only at y0 y1 HPT
              have hc1 := HCL.out t
              clear p1 p2
              by_cases c1 : cntT E t = 1
              · have c1a : ((cntT E t : Int) == 1) = true := by rw [c1]; rfl
                have c1b : (cntT E t == 1) = true := by rw [c1]; rfl
                by_cases c2 : valT E t = u
                · have HP3 : Hid ((fixedL.take (i + 1)).all (fP E) = true) := by rw [Hid, HSN.out, HP.out, HPT.out, c2]; simp
                  have cI : ((valT E t : Int) != (u : Int)) = false := by rw [c2]; simp
                  have cN : (valT E t != u) = false := by rw [c2]; simp
                  have cM : (valT E t == u) = true := by rw [c2]; simp
                  have HC1 := hide c1
                  clear c1 c2
                  clear HSN HBD HPT
                  go_wp2_with fail
                  try simp only [List.append_eq, List.cons_append, List.nil_append]
                  refine wp_region_quiet_below (by kernel_rfl) (by kernel_rfl) ?_
                  have e0 := cell_regrown y0
                  have e1 := cell_regrown y1
                  repeat (go_big_quiet_step (first | (go_at_call 29; exact HC.out _ _ _) | (go_at_call 30; exact HV.out _ _ _)))
                  refine wpQuiet_nil ?_
                  intro _ hwq
                  obtain ⟨⟨dq, osq⟩, hwq2⟩ := hwq
                  subst hwq2
                  have HBy : Hid (Below w4.heap.size w4 (grow (redrawn wr dq) osq)) := HBx.out.trans ((below_regrown _ dq osq).mono HBx.out.size)
                  clear e0 e1 y0 y1 HC HV HBx
                  generalize grow _ _ = w5 at *
                  go_wp2
                  go_roundw
                  case rel => exact ⟨i + 1, by omega, by go_num, HBy, HP3⟩
                  case measure => simp [intOf]; omega
                · have HF : Hid (false = O) := by
                    have := HO3.out
                    rw [HBD.out (by rw [HPT.out]; simp [c1, c2])] at this
                    exact this
                  have cI : ((valT E t : Int) != (u : Int)) = true := by simp; omega
                  have cN : (valT E t != u) = true := by simpa using c2
                  have cM : (valT E t == u) = false := by simpa using c2
                  have HC1 := hide c1
                  clear c1 c2
                  clear HSN HBD HPT
                  go_wp2_with fail
                  try simp only [List.append_eq, List.cons_append, List.nil_append]
                  refine wp_region_quiet_below (by kernel_rfl) (by kernel_rfl) ?_
                  have e0 := cell_regrown y0
                  have e1 := cell_regrown y1
                  repeat (go_big_quiet_step (first | (go_at_call 29; exact HC.out _ _ _) | (go_at_call 30; exact HV.out _ _ _)))
                  refine wpQuiet_nil ?_
                  intro _ hwq
                  obtain ⟨⟨dq, osq⟩, hwq2⟩ := hwq
                  subst hwq2
                  have HBy : Hid (Below w4.heap.size w4 (grow (redrawn wr dq) osq)) := HBx.out.trans ((below_regrown _ dq osq).mono HBx.out.size)
                  clear e0 e1 y0 y1 HC HV HBx
                  generalize grow _ _ = w5 at *
                  go_wp2
                  go_ret
                  exact ⟨by rw [← HF.out]; rfl, HB4.out.trans (HBy.out.mono HB4.out.size)⟩
              · have HP3 : Hid ((fixedL.take (i + 1)).all (fP E) = true) := by rw [Hid, HSN.out, HP.out, HPT.out, decide_eq_false c1]; rfl
                have cI : ((cntT E t : Int) == 1) = false := by simp; omega
                have cN : (cntT E t == 1) = false := by simpa using c1
                clear HSN HBD HPT c1
                go_wp2_with fail
                try simp only [List.append_eq, List.cons_append, List.nil_append]
                refine wp_region_quiet_below (by kernel_rfl) (by kernel_rfl) ?_
                have e0 := cell_regrown y0
                have e1 := cell_regrown y1
                repeat (go_big_quiet_step (first | (go_at_call 29; exact HC.out _ _ _) | (go_at_call 30; exact HV.out _ _ _)))
                refine wpQuiet_nil ?_
                intro _ hwq
                obtain ⟨⟨dq, osq⟩, hwq2⟩ := hwq
                subst hwq2
                have HBy : Hid (Below w4.heap.size w4 (grow (redrawn wr dq) osq)) := HBx.out.trans ((below_regrown _ dq osq).mono HBx.out.size)
                clear e0 e1 y0 y1 HC HV HBx
                generalize grow _ _ = w5 at *
                go_wp2
                go_roundw
                case rel => exact ⟨i + 1, by omega, by go_num, HBy, HP3⟩
                case measure => simp [intOf]; omega
            · have hltI : ¬ (i : Int) < 4 := by omega
              have he : i = 4 := by omega
              subst he
              have hO := HO3.out
              have hP := HP.out
              rw [show fixedL.take 4 = fixedL from rfl] at hP
              rw [hP, Bool.true_and] at hO
              unfold mustB kindB at hO
              have hA := HA4.out.below HBx.out
              have HB5 : Hid (Below w.heap.size w wr) := HB4.out.trans (HBx.out.mono HB4.out.size)
              have k5 := ref9_count wr _ E hA 5
              have k6 := ref9_count wr _ E hA 6
              have k4 := ref9_count wr _ E hA 4
              have kg := ref9_count wr _ E hA 1879047925
              have kp := ref9_count wr _ E hA 1610612751
              have kq := ref9_count wr _ E hA 1610612753
              have kk := ref9_count wr _ E hA 20
              have kv := ref9_value wr _ E hA 20
              have l4 := HCL.out 4
              have lg := HCL.out 1879047925
              have lp := HCL.out 1610612751
              have lq := HCL.out 1610612753
              generalize cntT E 5 = c5 at *
              generalize cntT E 6 = c6 at *
              generalize cntT E 4 = c4 at *
              generalize cntT E 1879047925 = cg at *
              generalize cntT E 1610612751 = cp at *
              generalize cntT E 1610612753 = cq at *
              generalize cntT E 20 = ck at *
              generalize valT E 20 = vk at *
              clear hP HP HO3 HA4 HF4 HB4 HBx hA HCL
              by_cases a5 : c5 = 0
              · have HF : Hid (false = O) := by rw [Hid, ← hO]; simp [a5]
                have b5 : ((c5 : Int) == 0) = true := by simp; omega
                clear hO a5
                go_wp2_with fail
                refine k5.mono ?_
                rintro e w9 ⟨rfl, rfl⟩
                clear k5 k6 k4 kg kp kq kk kv
                go_wp2
                go_ret
                exact ⟨by rw [← HF.out]; rfl, HB5.out⟩
              have b5 : ((c5 : Int) == 0) = false := by simp; omega
              by_cases a6 : c6 = 0
              · have HF : Hid (false = O) := by rw [Hid, ← hO]; simp [a6]
                have b6 : ((c6 : Int) == 0) = true := by simp; omega
                clear hO a5 a6
                go_wp2_with fail
                refine k5.mono ?_
                rintro e w9 ⟨rfl, rfl⟩
                go_wp2_with fail
                refine k6.mono ?_
                rintro e w9 ⟨rfl, rfl⟩
                clear k5 k6 k4 kg kp kq kk kv
                go_wp2
                go_ret
                exact ⟨by rw [← HF.out]; rfl, HB5.out⟩
              have b6 : ((c6 : Int) == 0) = false := by simp; omega
              by_cases a4 : c4 + cg = 0
              · have HF : Hid (false = O) := by rw [Hid, ← hO]; simp [a4]
                have b4 : ((c4 : Int) + (cg : Int) == 0) = true := by simp; omega
                clear hO a5 a6 a4
                go_wp2_with fail
                refine k5.mono ?_
                rintro e w9 ⟨rfl, rfl⟩
                go_wp2_with fail
                refine k6.mono ?_
                rintro e w9 ⟨rfl, rfl⟩
                go_wp2_with fail
                refine k4.mono ?_
                rintro e w9 ⟨rfl, rfl⟩
                go_wp2_with fail
                refine kg.mono ?_
                rintro e w9 ⟨rfl, rfl⟩
                clear k5 k6 k4 kg kp kq kk kv
                go_wp2
                go_ret
                exact ⟨by rw [← HF.out]; rfl, HB5.out⟩
              have b4 : ((c4 : Int) + (cg : Int) == 0) = false := by simp; omega
              by_cases ap : cp + cq ≤ 1
              rotate_left
              · have HF : Hid (false = O) := by rw [Hid, ← hO]; simp [ap]
                have bp : (1 : Int) < (cp : Int) + (cq : Int) := by omega
                clear hO a5 a6 a4 ap
                go_wp2_with fail
                refine k5.mono ?_
                rintro e w9 ⟨rfl, rfl⟩
                go_wp2_with fail
                refine k6.mono ?_
                rintro e w9 ⟨rfl, rfl⟩
                go_wp2_with fail
                refine k4.mono ?_
                rintro e w9 ⟨rfl, rfl⟩
                go_wp2_with fail
                refine kg.mono ?_
                rintro e w9 ⟨rfl, rfl⟩
                go_wp2_with fail
                refine kp.mono ?_
                rintro e w9 ⟨rfl, rfl⟩
                go_wp2_with fail
                refine kq.mono ?_
                rintro e w9 ⟨rfl, rfl⟩
                clear k5 k6 k4 kg kp kq kk kv
                go_wp2
                go_ret
                exact ⟨by rw [← HF.out]; rfl, HB5.out⟩
              have bp : ¬ (1 : Int) < (cp : Int) + (cq : Int) := by omega
              rw [decide_eq_true a5, decide_eq_true a6, decide_eq_true a4, decide_eq_true ap] at hO
              simp only [Bool.true_and] at hO
              clear a5 a6 a4 ap
              by_cases ak : ck = 0
              · have HF : Hid (true = O) := by rw [Hid, ← hO]; simp [ak]
                have bk : ((ck : Int) == 0) = true := by simp; omega
                clear hO ak
                go_wp2_with fail
                refine k5.mono ?_
                rintro e w9 ⟨rfl, rfl⟩
                go_wp2_with fail
                refine k6.mono ?_
                rintro e w9 ⟨rfl, rfl⟩
                go_wp2_with fail
                refine k4.mono ?_
                rintro e w9 ⟨rfl, rfl⟩
                go_wp2_with fail
                refine kg.mono ?_
                rintro e w9 ⟨rfl, rfl⟩
                go_wp2_with fail
                refine kp.mono ?_
                rintro e w9 ⟨rfl, rfl⟩
                go_wp2_with fail
                refine kq.mono ?_
                rintro e w9 ⟨rfl, rfl⟩
                go_wp2_with fail
                refine kk.mono ?_
                rintro e w9 ⟨rfl, rfl⟩
                clear k5 k6 k4 kg kp kq kk kv
                go_wp2
                go_ret
                exact ⟨by rw [← HF.out]; rfl, HB5.out⟩
              have bk : ((ck : Int) == 0) = false := by simp; omega
              rw [decide_eq_false ak] at hO
              by_cases a7 : vk = 7
              · have HF : Hid (true = O) := by rw [Hid, ← hO]; simp [a7]
                have b7 : ((vk : Int) == 7) = true := by simp; omega
                clear hO ak a7
                go_wp2_with fail
                refine k5.mono ?_
                rintro e w9 ⟨rfl, rfl⟩
                go_wp2_with fail
                refine k6.mono ?_
                rintro e w9 ⟨rfl, rfl⟩
                go_wp2_with fail
                refine k4.mono ?_
                rintro e w9 ⟨rfl, rfl⟩
                go_wp2_with fail
                refine kg.mono ?_
                rintro e w9 ⟨rfl, rfl⟩
                go_wp2_with fail
                refine kp.mono ?_
                rintro e w9 ⟨rfl, rfl⟩
                go_wp2_with fail
                refine kq.mono ?_
                rintro e w9 ⟨rfl, rfl⟩
                go_wp2_with fail
                refine kk.mono ?_
                rintro e w9 ⟨rfl, rfl⟩
                go_wp2_with fail
                refine kv.mono ?_
                rintro e w9 ⟨rfl, rfl⟩
                clear k5 k6 k4 kg kp kq kk kv
                go_wp2
                go_ret
                exact ⟨by rw [← HF.out]; rfl, HB5.out⟩
              have b7 : ((vk : Int) == 7) = false := by simp; omega
              have HF : Hid (decide (vk = 17) = O) := by rw [Hid, ← hO]; simp [a7]
              have b17 : ((vk : Int) == 17) = decide (vk = 17) := by
                by_cases c : vk = 17
                · rw [decide_eq_true c]; simp; omega
                · rw [decide_eq_false c]; simp; omega
              clear hO ak a7
              go_wp2_with fail
              refine k5.mono ?_
              rintro e w9 ⟨rfl, rfl⟩
              go_wp2_with fail
              refine k6.mono ?_
              rintro e w9 ⟨rfl, rfl⟩
              go_wp2_with fail
              refine k4.mono ?_
              rintro e w9 ⟨rfl, rfl⟩
              go_wp2_with fail
              refine kg.mono ?_
              rintro e w9 ⟨rfl, rfl⟩
              go_wp2_with fail
              refine kp.mono ?_
              rintro e w9 ⟨rfl, rfl⟩
              go_wp2_with fail
              refine kq.mono ?_
              rintro e w9 ⟨rfl, rfl⟩
              go_wp2_with fail
              refine kk.mono ?_
              rintro e w9 ⟨rfl, rfl⟩
              go_wp2_with fail
              refine kv.mono ?_
              rintro e w9 ⟨rfl, rfl⟩
              go_wp2_with fail
              refine kv.mono ?_
              rintro e w9 ⟨rfl, rfl⟩
              clear k5 k6 k4 kg kp kq kk kv
              go_wp2
              go_ret
              exact ⟨by rw [← HF.out]; rfl, HB5.out⟩
end Go.Proofs.Ytdclofiifcpkkaa
namespace Go.Proofs.Ytdclofiifcpkkaa
open Go.RowKit Go.PlainAid Go.Sort
def areaC (E : List De) (t u : Nat) : List Value := [.bool (decide (cntT E t = 1)), .int .u64 (valT E t : Nat), .int .u64 (valT E u : Nat)]
/-- Anything is stored in a part of a known row. -/
theorem store_any {ops : Array Oper} {rest : List Oper} {o : Oper} {a : Act} {Q : Exit → Act → World → Prop} {w : World} (hgd : o.guard = none) (T : TypeId) (x y : Operand) (ho : o.op = .store T x y)
    (g k : Nat) (U : TypeId) (cur : Array Value) (v : Value) (cs : List Value) (new : Array Value) (hg : w.heap[g]? = some (.cells cur U (0, 0))) (hx : a.eval x = .pointer (some ⟨g, k, none⟩)) (hy : a.eval y = v)
    (hcs : v.cells = cs.toArray) (hsz : ∀ w, (Go.sizeOf T).run Try.prog w = .ok cs.length w) (hone : ∀ v ∈ cs, v.oneCell' = true) (hfit : k + cs.length ≤ cur.size) (hnew : (cur.toList.take k ++ cs ++ cur.toList.drop (k + cs.length)).toArray = new)
    (h : ∀ w', w'.heap[g]? = some (.cells new U (0, 0)) → w.grownBy w' (some g) → wpList Try.prog ops Q rest (a.put o.dst undef) w') : wpList Try.prog ops Q (o :: rest) a w := by
  subst hnew
  have hst := run_storeCells_at Try.prog g k U cs 0 cur w hg (by simpa using hfit) hone
  have hr : (Instr.storeAt T (.pointer (some ⟨g, k, none⟩)) v).run Try.prog w = .ok () (w.setRow g (cur.toList.take k ++ cs ++ cur.toList.drop (k + cs.length)).toArray) := by
    simp only [Nat.add_zero] at hst
    simp only [Instr.storeAt, Instr.sureAddr, Sem.run_bind, Sem.run_pure, Result.andThen_ok, storeVar, hsz, hcs, List.size_toArray]
    simpa using hst
  refine wpList_plain hgd fun _ hK => ?_
  unfold Oper.wp execOp
  simp only [ho, hx, hy, Sem.run_bind, Sem.run_pure, Result.andThen_ok, hr]
  exact hK _ _ (h _ (setRow_heap w g _ _ _ _ hg) ⟨rfl, rfl, rfl, by simp, fun k _ hk => setRow_other w g k _ (fun e => hk (by rw [e]))⟩)
set_option maxHeartbeats 1000000 in
theorem ref9_area (w : World) (v : Value) (E : List De) (h : ArgD w v E) (t u : Nat) :
    Calls Try.prog 28 #[v, .int .u64 t, .int .u64 u] w fun e w' => e = .returned (.agg (areaC E t u).toArray) ∧ Below w.heap.size w w' := by
  have HB : Hid (Below w.heap.size w (w.alloc (.cells (areaC E t u).toArray 33))) := (Below.refl _ w).alloc (Nat.le_refl _) _
  have hA := h.below ((Below.refl _ w).alloc (Nat.le_refl _) (.cells #[.bool false, .int .u64 0, .int .u64 0] 33))
  obtain ⟨a, cap, rfl⟩ := h.form
  have k1 := ref9_count _ _ E hA t
  have k2 := ref9_value _ _ E hA t
  have k3 := ref9_value _ _ E hA u
  have cb : ((cntT E t : Int) == 1) = decide (cntT E t = 1) := by
    by_cases c : cntT E t = 1
    · rw [decide_eq_true c]; simp; omega
    · rw [decide_eq_false c]; simp; omega
  unfold areaC at HB ⊢
  generalize decide (cntT E t = 1) = b at *
  generalize cntT E t = c at *
  generalize valT E t = x at *
  generalize valT E u = y at *
  clear h hA
  go_enter Try.func28, Try.ntmps28
  go_wp2_with fail
  refine k1.mono ?_
  rintro e w1 ⟨rfl, rfl⟩
  go_wp2_with fail
  refine k2.mono ?_
  rintro e w1 ⟨rfl, rfl⟩
  go_wp2_with fail
  refine k3.mono ?_
  rintro e w1 ⟨rfl, rfl⟩
  clear k1 k2 k3
  go_wp2
  refine bodyPost_ret (results_cell1 rfl _ _ w.heap.size _ _ _ _ rfl (heap_alloc_new _ _) Try.underlying33 rfl (by kernel_rfl)) rfl ?_
  exact ⟨rfl, HB.out⟩
/-- What a section says. -/
structure Dd where
  ents : List De
  so : List UInt8
  ru : List UInt8
  need : List (List UInt8)
def txb (l : List UInt8) : ByteArray := ⟨l.toArray⟩
def bitB (n k : Nat) : Bool := decide (n / k % 2 = 1)
def packB (E : List De) : Bool := decide (cntT E 1610612753 = 1)
/-- The cells of what a section says, without the names. -/
def dyTail (E : List De) : List Value :=
  [.bool (decide (cntT E 16 = 1) || bitB (valT E 30) 2), .bool (bitB (valT E 1879048187) 2), .bool (bitB (valT E 1879048187) 8)] ++ areaC E 5 10 ++
  [.int .u64 (valT E 6 : Nat), .int .u64 (valT E 4 : Nat), .int .u64 (valT E 1879047925 : Nat), .int .u64 (valT E 1879048176 : Nat), .int .u64 (valT E 1879048188 : Nat), .int .u64 (valT E 1879048190 : Nat), .int .u64 (valT E 1879048189 : Nat), .int .u64 (valT E 1879048191 : Nat)] ++
  areaC E 17 18 ++ areaC E 7 8 ++ areaC E 23 2 ++ areaC E 36 35 ++ (if packB E then areaC E 1610612753 1610612754 else areaC E 1610612751 1610612752) ++
  [.bool (decide (valT E 20 = 7)), .bool (packB E)] ++ areaC E 25 27 ++ areaC E 26 28
def dyCells (so ru : List UInt8) (vn : Value) (E : List De) : List Value := [.string (txb so), .string (txb ru), vn] ++ dyTail E
/-- The text of a tag, if it is there. -/
def nameT (s : List UInt8) (E : List De) (t : Nat) : Option (List UInt8) := if cntT E t = 1 then (if (textAt s (valT E t)).2 = 0 then some (textAt s (valT E t)).1 else none) else some []
/-- The names of what is needed. -/
def needL (s : List UInt8) : List De → Except Nat (List (List UInt8))
  | [] => .ok []
  | e :: r => if e.tag = 1 then (if (textAt s e.val).2 ≠ 0 then .error 91 else if (textAt s e.val).1 = [] then .error 92 else (needL s r).map ((textAt s e.val).1 :: ·)) else needL s r
def dynZ (l : List UInt8) (h : Hd) : Except Nat Dd :=
  if (partZ l h.loads h.dynamic.vaddr h.dynamic.filesz).2 = false then .error 86 else
  match entsZ (partZ l h.loads h.dynamic.vaddr h.dynamic.filesz).1 with
  | none => .error 90
  | some E => if rightB E = false then .error 90 else
    if (partZ l h.loads (valT E 5) (valT E 10)).2 = false then .error 91 else
    match nameT (partZ l h.loads (valT E 5) (valT E 10)).1 E 14 with
    | none => .error 91
    | some so => match nameT (partZ l h.loads (valT E 5) (valT E 10)).1 E 29 with
      | none => .error 91
      | some ru => if 16 < cntT E 1 then .error 92 else
        match needL (partZ l h.loads (valT E 5) (valT E 10)).1 E with
        | .error n => .error n
        | .ok ns => .ok ⟨E, so, ru, ns⟩
end Go.Proofs.Ytdclofiifcpkkaa
namespace Go.Proofs.Ytdclofiifcpkkaa
open Go.RowKit Go.PlainAid Go.Sort
set_option maxHeartbeats 2000000 in
set_option maxRecDepth 20000 in
theorem ref9_Strings (w : World) (b : Value) (l : List UInt8) (hb : Arg w b l) (m : Nat) (v : Value) (d r : Ph) (ps : List Ph) (h : ArgH w v ps) (ok : ∀ p ∈ ps, p.ok) (sm : ∀ p ∈ ps, p.off + p.filesz ≤ 1000000)
    (cs : Array Value) (hz : cs.size = 40) (x s : Nat) (h7 : cs[7]? = some (.int .u64 x)) (h8 : cs[8]? = some (.int .u64 s)) (hx : x < 18446744073709551616) (hs : s < 18446744073709551616) :
    Calls Try.prog 31 #[b, .agg (hdCells m v d r).toArray, .agg cs] w fun e w' => (∃ v', e = .returned (.tuple #[v', .bool (partZ l ps x s).2]) ∧ Own w' w.heap.size v' (partZ l ps x s).1) ∧ Below w.heap.size w w' := by
  have HB : Hid (Below w.heap.size w ((w.alloc (.cells (hdCells m v d r).toArray 30)).alloc (.cells cs 35))) := ((Below.refl _ w).alloc (Nat.le_refl _) _).alloc (by simp) _
  have HG : Hid (((w.alloc (.cells (hdCells m v d r).toArray 30)).alloc (.cells cs 35)).heap[w.heap.size]? = some (.cells (hdCells m v d r).toArray 30 (0, 0))) := by
    rw [Hid, heap_alloc_old _ _ (by simp)]; exact heap_alloc_new _ _
  have hs1 : (w.alloc (.cells (hdCells m v d r).toArray 30)).heap.size = w.heap.size + 1 := by simp
  have HD : Hid (((w.alloc (.cells (hdCells m v d r).toArray 30)).alloc (.cells cs 35)).heap[w.heap.size + 1]? = some (.cells cs 35 (0, 0))) := by
    rw [Hid, ← hs1]; exact heap_alloc_new _ _
  have z7 := cells_of_block HD.out 7 _ h7
  have z8 := cells_of_block HD.out 8 _ h8
  have HP := hide (fun W (hB : Below w.heap.size w W) => ref8_Part W b l (hb.below' hB) m v d r ps (h.below hB) ok sm x s hx hs)
  have hP := HP.out _ HB.out
  have HOW := hide (fun (W W' : World) (v' : Value) (hB : Below w.heap.size w W) (ho : Own W' W.heap.size v' (partZ l ps x s).1) => ho.low hB.size)
  generalize partZ l ps x s = P at *
  obtain ⟨a, cap, rfl, _⟩ := hb.isSlice
  clear hb h ok sm HP h7 h8 hs1
  simp only [hdCells] at *
  go_enter Try.func31, Try.ntmps31
  go_wp2_with ((with_reducible refine at_load ?_); refine load_row rfl _ _ rfl w.heap.size _ (load_hd HG.out rfl) rfl ?_)
  refine hP.mono ?_
  rintro e w1 ⟨⟨v1, rfl, own1⟩, hb1⟩
  have HB1 : Hid (Below w.heap.size w w1) := HB.out.trans (hb1.mono HB.out.size)
  have HO1 := hide (HOW.out _ _ _ HB.out own1)
  clear hP hb1 own1 z7 z8
  go_wp2
  go_ret2
  exact ⟨⟨_, rfl, HO1.out⟩, HB1.out⟩
set_option maxHeartbeats 2000000 in
set_option maxRecDepth 20000 in
theorem dyn_Strings (w : World) (b : Value) (l : List UInt8) (hb : Arg w b l) (m : Nat) (v : Value) (d r : Ph) (ps : List Ph) (h : ArgH w v ps) (ok : ∀ p ∈ ps, p.ok) (sm : ∀ p ∈ ps, p.off + p.filesz ≤ 1000000)
    (cs : Array Value) (hz : cs.size = 40) (x s : Nat) (h7 : cs[7]? = some (.int .u64 x)) (h8 : cs[8]? = some (.int .u64 s)) (hx : x < 18446744073709551616) (hs : s < 18446744073709551616) :
    Calls Try.prog 41 #[b, .agg (hdCells m v d r).toArray, .agg cs] w fun e w' => (∃ v', e = .returned (.tuple #[v', .bool (partZ l ps x s).2]) ∧ Own w' w.heap.size v' (partZ l ps x s).1) ∧ Below w.heap.size w w' := by
  have HB : Hid (Below w.heap.size w ((w.alloc (.cells (hdCells m v d r).toArray 30)).alloc (.cells cs 35))) := ((Below.refl _ w).alloc (Nat.le_refl _) _).alloc (by simp) _
  have HG : Hid (((w.alloc (.cells (hdCells m v d r).toArray 30)).alloc (.cells cs 35)).heap[w.heap.size]? = some (.cells (hdCells m v d r).toArray 30 (0, 0))) := by
    rw [Hid, heap_alloc_old _ _ (by simp)]; exact heap_alloc_new _ _
  have hs1 : (w.alloc (.cells (hdCells m v d r).toArray 30)).heap.size = w.heap.size + 1 := by simp
  have HD : Hid (((w.alloc (.cells (hdCells m v d r).toArray 30)).alloc (.cells cs 35)).heap[w.heap.size + 1]? = some (.cells cs 35 (0, 0))) := by
    rw [Hid, ← hs1]; exact heap_alloc_new _ _
  have z7 := cells_of_block HD.out 7 _ h7
  have z8 := cells_of_block HD.out 8 _ h8
  have HP := hide (fun W (hB : Below w.heap.size w W) => head_Part W b l (hb.below' hB) m v d r ps (h.below hB) ok  x s hx hs)
  have hP := HP.out _ HB.out
  have HOW := hide (fun (W W' : World) (v' : Value) (hB : Below w.heap.size w W) (ho : Own W' W.heap.size v' (partZ l ps x s).1) => ho.low hB.size)
  generalize partZ l ps x s = P at *
  obtain ⟨a, cap, rfl, _⟩ := hb.isSlice
  clear hb h ok sm HP h7 h8 hs1
  simp only [hdCells] at *
  go_enter Try.func41, Try.ntmps41
  go_wp2_with ((with_reducible refine at_load ?_); refine load_row rfl _ _ rfl w.heap.size _ (load_hd HG.out rfl) rfl ?_)
  refine hP.mono ?_
  rintro e w1 ⟨⟨v1, rfl, own1⟩, hb1⟩
  have HB1 : Hid (Below w.heap.size w w1) := HB.out.trans (hb1.mono HB.out.size)
  have HO1 := hide (HOW.out _ _ _ HB.out own1)
  clear hP hb1 own1 z7 z8
  go_wp2
  go_ret2
  exact ⟨⟨_, rfl, HO1.out⟩, HB1.out⟩
end Go.Proofs.Ytdclofiifcpkkaa
namespace Go.Proofs.Ytdclofiifcpkkaa
open Go.RowKit Go.PlainAid Go.Sort
def tv (l : List (List UInt8)) : List Value := l.map fun s => Value.string (txb s)
/-- A row of texts of the call's own. -/
def OwnT (w : World) (B : Nat) (v : Value) (l : List (List UInt8)) : Prop := w.ownsRow B 9 1 v l.length (tv l)
theorem OwnT.nil (w : World) (B : Nat) : OwnT w B (.slice none 0 0) [] := World.ownsRow_nil _ _ _ _
theorem OwnT.form {w : World} {B : Nat} {v : Value} {l : List (List UInt8)} (h : OwnT w B v l) : ∃ a cap, v = .slice a l.length cap := by
  unfold OwnT at h
  rcases h.2 with ⟨rfl, hn⟩ | ⟨g, cap, cur, rfl, _⟩
  · exact ⟨none, 0, by rw [hn]⟩
  · exact ⟨_, _, rfl⟩
theorem OwnT.stay {w w' : World} {B : Nat} {v : Value} {l : List (List UInt8)} (h : OwnT w B v l) (hb : Below w.heap.size w w') : OwnT w' B v l := by
  unfold OwnT at h ⊢
  refine ⟨h.1, ?_⟩
  rcases h.2 with hn | ⟨g, cap, cur, rfl, hB, hg, rest⟩
  · exact .inl hn
  · refine .inr ⟨g, cap, cur, rfl, hB, ?_, rest⟩
    rw [hb.block g (Array.getElem?_eq_some_iff.1 hg).1]; exact hg
theorem OwnT.low {w : World} {B C : Nat} {v : Value} {l : List (List UInt8)} (h : OwnT w B v l) (hb : C ≤ B) : OwnT w C v l := by
  unfold OwnT at h ⊢
  refine ⟨h.1, ?_⟩
  rcases h.2 with hn | ⟨g, cap, cur, rfl, hB, rest⟩
  · exact .inl hn
  · exact .inr ⟨g, cap, cur, rfl, Nat.le_trans hb hB, rest⟩
theorem OwnT.apart {w w' : World} {B : Nat} {b : Option Nat} {v : Value} {l : List (List UInt8)} (h : OwnT w B v l) (hb : w.grownBy w' b) (hR : ∀ k, v.ownBlock = some k → b ≠ some k) : OwnT w' B v l := by
  unfold OwnT at h ⊢
  refine ⟨h.1, ?_⟩
  rcases h.2 with hn | ⟨g, cap, cur, rfl, hB, hg, rest⟩
  · exact .inl hn
  · refine .inr ⟨g, cap, cur, rfl, hB, ?_, rest⟩
    rw [hb.block g (Array.getElem?_eq_some_iff.1 hg).1 (fun e => hR g rfl e.symm)]; exact hg
theorem Own.apart {w w' : World} {B : Nat} {b : Option Nat} {v : Value} {l : List UInt8} (h : Own w B v l) (hb : w.grownBy w' b) (hR : ∀ k, v.ownBlock = some k → b ≠ some k) : Own w' B v l := by
  unfold Own at h ⊢
  refine ⟨h.1, ?_⟩
  rcases h.2 with hn | ⟨g, cap, cur, rfl, hB, hg, rest⟩
  · exact .inl hn
  · refine .inr ⟨g, cap, cur, rfl, hB, ?_, rest⟩
    rw [hb.block g (Array.getElem?_eq_some_iff.1 hg).1 (fun e => hR g rfl e.symm)]; exact hg
theorem info_t : (Try.prog.info? 9).map (fun i => (i.zero, i.size, i.bytes)) = some (some (.string ByteArray.empty), 1, 16) := by kernel_rfl
theorem tv_one (l : List (List UInt8)) : ∀ u ∈ tv l, u.oneCell' = true := fun u hu => by
  obtain ⟨n, _, rfl⟩ := List.mem_map.1 hu; rfl
/-- append of a text that lies in a new block. -/
theorem append_t {ops : Array Oper} {rest : List Oper} {o : Oper} {a : Act} {Q : Exit → Act → World → Prop} (hgd : o.guard = none) (s x : Operand)
    (ho : o.op = .call { callee := .builtin .append, args := #[s, x], argTypes := #[31, 31] })
    (B : Nat) (wr : World) (v : Value) (l : List (List UInt8)) (c : List UInt8) (hown : OwnT wr B v l) (hs : a.eval s = v)
    (hx : a.eval x = .slice (some ⟨wr.heap.size, 0, none⟩) 1 1) (hlen : l.length ≤ 100000) (hB : B ≤ wr.heap.size)
    (h : ∀ v' w', OwnT w' B v' (l ++ [c]) → Below B wr w' → wpList Try.prog ops Q rest (a.put o.dst v') w') :
    wpList Try.prog ops Q (o :: rest) a (wr.alloc (.cells #[.string (txb c)] 9)) := by
  obtain ⟨i, hi, hz0, hz1, hz2⟩ := info_parts info_t
  have hb : ∀ k, v.ownBlock = some k → B ≤ k := fun k hk => (World.ownsRow.lt hown k hk).1
  refine wpList_append_own (P := Try.prog) (wr.alloc (.cells #[.string (txb c)] 9)) hgd s x 31 ho B 9 i (.string ByteArray.empty) 1 16 Try.underlying31 hi hz0 hz1 hz2 rfl (by decide) v l.length (tv l) hs (World.ownsRow.alloc hown _)
    ⟨wr.heap.size, 0, none⟩ 1 1 [.string (txb c)] hx rfl ?_ ?_ ?_ ?_ ?_ ?_
  · intro j u hj
    match j, hj with
    | 0, hj => simp at hj; subst hj; simp [Addr.add]
  · intro u hu; simp at hu; subst hu; rfl
  · unfold maxLen; omega
  · omega
  · simp; omega
  · intro v' w' h1 h2 _
    refine h v' w' ?_ ?_
    · unfold OwnT
      simpa [tv] using h1
    · exact ((Below.refl B wr).alloc hB _).grown h2 (by simp; omega) hb
def zeroAr : List Value := [.bool false, .int .u64 0, .int .u64 0]
def zeroDy : List Value := [.string ⟨#[]⟩, .string ⟨#[]⟩, .slice none 0 0, .bool false, .bool false, .bool false] ++ zeroAr ++ List.replicate 8 (.int .u64 0) ++ zeroAr ++ zeroAr ++ zeroAr ++ zeroAr ++ zeroAr ++ [.bool false, .bool false] ++ zeroAr ++ zeroAr
theorem zero_len : zeroDy.length = 40 := rfl
/-- What Parse answers. -/
def DynIs (w' : World) (B : Nat) (o : Except Nat Dd) (e : Ending) : Prop :=
  match o with
  | .error n => e = .returned (.tuple #[.agg zeroDy.toArray, .int .i64 n])
  | .ok D => ∃ vn, e = .returned (.tuple #[.agg (dyCells D.so D.ru vn D.ents).toArray, .int .i64 0]) ∧ OwnT w' B vn D.need
theorem zeroDy_one : ∀ u ∈ zeroDy, u.oneCell' = true := by
  intro u hu
  simp only [zeroDy, zeroAr, List.mem_append, List.mem_cons, List.not_mem_nil, or_false, List.mem_replicate] at hu
  rcases hu with ((((((((((rfl | rfl | rfl | rfl | rfl | rfl) | rfl | rfl | rfl) | ⟨_, rfl⟩) | rfl | rfl | rfl) | rfl | rfl | rfl) | rfl | rfl | rfl) | rfl | rfl | rfl) | rfl | rfl | rfl) | rfl | rfl) | rfl | rfl | rfl) | rfl | rfl | rfl <;> rfl
theorem dy_size : ∀ w, (Go.sizeOf 35).run Try.prog w = .ok 40 w := Try.sizeOf35
theorem load_dy {w : World} {g : Nat} {cs : Array Value} (h : w.heap[g]? = some (.cells cs 35 (0, 0))) (hs : cs.size = 40) : (loadVar 35 ⟨g, 0, none⟩).run Try.prog w = .ok (.agg cs) w :=
  run_loadVar_row (P := Try.prog) w g _ _ cs (0, 0) _ h Try.underlying35 rfl (by rw [hs]; kernel_rfl)
theorem at_loadD {ops : Array Oper} {rest : List Oper} {a : Act} {Q : Exit → Act → World → Prop} {w : World} {ty : TypeId} {x : Operand} {d : Option Tmp} {ps : String} {af : Array Edge}
    (h : wpList Try.prog ops Q ({ dst := d, op := .load 35 x, type := ty, pos := ps, after := af, guard := none } :: rest) a w) : wpList Try.prog ops Q ({ dst := d, op := .load 35 x, type := ty, pos := ps, after := af, guard := none } :: rest) a w := h
/-- Here one of the great structs is built. -/
theorem at_build {ops : Array Oper} {rest : List Oper} {a : Act} {Q : Exit → Act → World → Prop} {w : World} {ty : TypeId} {x : Array (Nat × Operand)} {d : Option Tmp} {ps : String} {af : Array Edge}
    (h : wpList Try.prog ops Q ({ dst := d, op := .build 35 x, type := ty, pos := ps, after := af, guard := none } :: rest) a w) : wpList Try.prog ops Q ({ dst := d, op := .build 35 x, type := ty, pos := ps, after := af, guard := none } :: rest) a w := h
end Go.Proofs.Ytdclofiifcpkkaa
namespace Go.Proofs.Ytdclofiifcpkkaa
open Go.RowKit Go.PlainAid Go.Sort
theorem ArgD.form3 {w : World} {v : Value} {l : List De} (h : ArgD w v l) : ∃ a n cap, v = .slice a n cap ∧ l.length = n := by
  obtain ⟨a, cap, rfl⟩ := h.form
  exact ⟨a, _, cap, rfl, rfl⟩
theorem part_len (l : List UInt8) (ps : List Ph) (x s : Nat) : (partZ l ps x s).1.length ≤ l.length := by
  unfold partZ
  split
  · unfold win; rw [List.length_take, List.length_drop]; omega
  · simp
end Go.Proofs.Ytdclofiifcpkkaa
