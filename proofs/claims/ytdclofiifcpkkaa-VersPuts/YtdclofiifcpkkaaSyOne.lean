
/-
  SyA SyB SyC SyR VeN
-/
import Derived.Test.YtdclofiifcpkkaaSyM
import Derived.Test.YtdclofiifcpkkaaDyOne
import Derived.Deep.MidRow
import Derived.Deep.Slices
import Derived.ChangeSlices
import Derived.ProofKit
import Derived.BigQuiet
import Derived.Test.YtdclofiifcpkkaaVeOne
set_option linter.unusedVariables false
namespace Go.Proofs.Ytdclofiifcpkkaa
open Go.RowKit Go.PlainAid
/-- One symbol, from p on in block y. -/
structure IsSy (w : World) (y p : Nat) (s : Sy) : Prop where
  c0 : w.cell? ⟨y, p, none⟩ = some (.string ⟨s.name.toArray⟩)
  c1 : w.cell? ⟨y, p + 1, none⟩ = some (.string ⟨s.ver.toArray⟩)
  c2 : w.cell? ⟨y, p + 2, none⟩ = some (.bool s.hidden)
  c3 : w.cell? ⟨y, p + 3, none⟩ = some (.int .i64 s.bind)
  c4 : w.cell? ⟨y, p + 4, none⟩ = some (.bool s.defined)
  c5 : w.cell? ⟨y, p + 5, none⟩ = some (.int .u64 s.value)
  c6 : w.cell? ⟨y, p + 6, none⟩ = some (.int .u64 s.size)
structure OkSy (s : Sy) : Prop where
  n : s.name.length ≤ maxLen
  v : s.ver.length ≤ maxLen
  b0 : -9223372036854775808 ≤ s.bind
  b1 : s.bind ≤ 9223372036854775807
  val : (s.value : Int) ≤ 18446744073709551615
  size : (s.size : Int) ≤ 18446744073709551615
/-- The slice from a on holds the symbols l. -/
def SymsAt (w : World) (a : Option Addr) (l : List Sy) : Prop :=
  (∀ s ∈ l, OkSy s) ∧ (l = [] ∨ ∃ y o, a = some ⟨y, o, none⟩ ∧ ∀ i (h : i < l.length), IsSy w y (o + i * 7) l[i])
theorem IsSy.below {w w' : World} {y p : Nat} {s : Sy} {B : Nat} (h : IsSy w y p s) (hb : Below B w w') (hy : y < B) : IsSy w' y p s := by
  have k : ∀ q v, w.cell? ⟨y, q, none⟩ = some v → w'.cell? ⟨y, q, none⟩ = some v := fun q v e => by rw [hb.cell (p := ⟨y, q, none⟩) hy]; exact e
  exact ⟨k _ _ h.c0, k _ _ h.c1, k _ _ h.c2, k _ _ h.c3, k _ _ h.c4, k _ _ h.c5, k _ _ h.c6⟩
theorem IsSy.lt {w : World} {y p : Nat} {s : Sy} (h : IsSy w y p s) : y < w.heap.size := World.block_lt_of_cell? _ _ h.c0
theorem SymsAt.below {w w' : World} {a : Option Addr} {l : List Sy} (h : SymsAt w a l) (hb : Below w.heap.size w w') : SymsAt w' a l := by
  obtain ⟨h1, h2⟩ := h
  refine ⟨h1, ?_⟩
  rcases h2 with h2 | ⟨y, o, e, h2⟩
  · exact .inl h2
  · exact .inr ⟨y, o, e, fun i hi => (h2 i hi).below hb (h2 i hi).lt⟩
theorem SymsAt.at {w : World} {a : Option Addr} {l : List Sy} (h : SymsAt w a l) (i : Nat) (hi : i < l.length) : ∃ y o, a = some ⟨y, o, none⟩ ∧ IsSy w y (o + i * 7) l[i] ∧ OkSy l[i] := by
  obtain ⟨h1, h2⟩ := h
  rcases h2 with rfl | ⟨y, o, e, h2⟩
  · simp at hi
  · exact ⟨y, o, e, h2 i hi, h1 _ (List.getElem_mem hi)⟩
theorem seven {l : List Value} (h : l.length = 7) : ∃ a b c d e f g, l = [a, b, c, d, e, f, g] := by
  match l, h with
  | [a, b, c, d, e, f, g], _ => exact ⟨a, b, c, d, e, f, g, rfl⟩
theorem cells7 : Try.prog.cellsOf 48 = 7 := by kernel_rfl
theorem cellsS : Try.prog.cellsOf 9 = 1 := by kernel_rfl
theorem cellsO : Try.prog.cellsOf 4 = 1 := by kernel_rfl
theorem cellsI : Try.prog.cellsOf 3 = 1 := by kernel_rfl
theorem cellsU : Try.prog.cellsOf 26 = 1 := by kernel_rfl
theorem wf_i64 {n : Int} (h : (Lit.int .i64 n).wf = true) : -9223372036854775808 ≤ n ∧ n ≤ 9223372036854775807 := by
  have a : IntKind.i64.min = -9223372036854775808 := rfl
  have b : IntKind.i64.max = 9223372036854775807 := rfl
  simp [Lit.wf] at h
  omega
theorem ba_list (s : ByteArray) : s = ⟨s.data.toList.toArray⟩ := by cases s; simp
theorem ba_len (s : ByteArray) : s.data.toList.length = s.size := by cases s; simp [ByteArray.size]
section
variable {H : Type} {enc : TypeId × Value → H}
theorem sy_of {W : World} {cs : List Value} {x : DataW H × List MemPlace} {fuel : Nat} (h2 : DataW.trod enc Try.prog W 0 (fun _ => true) true fuel 48 cs = some x) :
    ∃ s : Sy, cs = s.cells ∧ OkSy s := by
  obtain ⟨xs, n, _, rfl, hlen, hl4, hf⟩ := DataW.trod_struct Try.underlying48 h2
  rw [cells7] at hlen
  obtain ⟨v0, v1, v2, v3, v4, v5, v6, rfl⟩ := seven hlen
  match xs, hl4 with
  | [y0, y1, y2, y3, y4, y5, y6], _ =>
    have g0 : DataW.trod enc Try.prog W 0 (fun _ => true) true n 9 [v0] = some y0 := by have := hf 0 _ rfl; simpa [cellsS] using this
    have g1 : DataW.trod enc Try.prog W 0 (fun _ => true) true n 9 [v1] = some y1 := by have := hf 1 _ rfl; simpa [cellsS] using this
    have g2 : DataW.trod enc Try.prog W 0 (fun _ => true) true n 4 [v2] = some y2 := by have := hf 2 _ rfl; simpa [cellsO] using this
    have g3 : DataW.trod enc Try.prog W 0 (fun _ => true) true n 3 [v3] = some y3 := by have := hf 3 _ rfl; simpa [cellsI] using this
    have g4 : DataW.trod enc Try.prog W 0 (fun _ => true) true n 4 [v4] = some y4 := by have := hf 4 _ rfl; simpa [cellsO] using this
    have g5 : DataW.trod enc Try.prog W 0 (fun _ => true) true n 26 [v5] = some y5 := by have := hf 5 _ rfl; simpa [cellsU] using this
    have g6 : DataW.trod enc Try.prog W 0 (fun _ => true) true n 26 [v6] = some y6 := by have := hf 6 _ rfl; simpa [cellsU] using this
    obtain ⟨s0, q0, _, hs0⟩ := DataW.trod_string Try.underlying9 g0
    obtain ⟨s1, q1, _, hs1⟩ := DataW.trod_string Try.underlying9 g1
    obtain ⟨b2, q2, _⟩ := DataW.trod_bool Try.underlying4 g2
    obtain ⟨k3, q3, _, w3⟩ := DataW.trod_int Try.underlying3 g3
    obtain ⟨b4, q4, _⟩ := DataW.trod_bool Try.underlying4 g4
    obtain ⟨k5, q5, _, w5⟩ := DataW.trod_int Try.underlying26 g5
    obtain ⟨k6, q6, _, w6⟩ := DataW.trod_int Try.underlying26 g6
    simp only [List.cons.injEq, and_true] at q0 q1 q2 q3 q4 q5 q6
    subst q0 q1 q2 q3 q4 q5 q6
    have e3 := wf_i64 w3
    have e5 := wf_u64 w5
    have e6 := wf_u64 w6
    obtain ⟨n5, rfl⟩ := Int.eq_ofNat_of_zero_le e5.1
    obtain ⟨n6, rfl⟩ := Int.eq_ofNat_of_zero_le e6.1
    refine ⟨⟨s0.data.toList, s1.data.toList, b2, k3, b4, n5, n6⟩, ?_, ?_⟩
    · simp [Sy.cells]
    · exact ⟨by rw [ba_len]; exact hs0, by rw [ba_len]; exact hs1, e3.1, e3.2, e5.2, e6.2⟩
def IsSyms (w : World) (a : Option Addr) (len cap : Nat) : Prop :=
  len ≤ cap ∧ cap ≤ maxLen ∧ (a = none → cap = 0) ∧ ∃ l : List Sy, l.length = len ∧ SymsAt w a l
theorem list_of {P : Nat → Sy → Prop} : ∀ (n : Nat), (∀ i, i < n → ∃ s, P i s) → ∃ l : List Sy, l.length = n ∧ ∀ i (h : i < l.length), P i l[i]
  | 0, _ => ⟨[], rfl, fun i h => by simp at h⟩
  | n + 1, h => by
    obtain ⟨l, h1, h2⟩ := list_of n (fun i hi => h i (by omega))
    obtain ⟨s, hs⟩ := h n (by omega)
    refine ⟨l ++ [s], by simp [h1], fun i hi => ?_⟩
    by_cases e : i < l.length
    · rw [List.getElem_append_left e]; exact h2 i e
    · have : i = n := by simp at hi; omega
      subst this
      rw [List.getElem_append_right (by omega)]
      simpa [h1] using hs
theorem isOps_of {W : World} {s : Option Addr} {len cap : Nat} {d : DataW H} {p : List MemPlace}
    (h : DataW.Trod enc Try.prog W 0 (fun _ => true) true 36 (.slice s len cap) d p) : IsSyms W s len cap := by
  obtain ⟨fuel, hf⟩ := h
  rcases Go.Deep.open_slice Try.underlying36 hf with ⟨hcs, _⟩ | ⟨a, l, c, m, n, D, Pl, hcs, _, hl, hm, hmm, _, hx⟩
  · simp [Value.cells] at hcs
    obtain ⟨rfl, rfl, rfl⟩ := hcs
    exact ⟨by omega, by simp, fun _ => rfl, [], rfl, fun s hs => by simp at hs, .inl rfl⟩
  · simp [Value.cells] at hcs
    obtain ⟨rfl, rfl, rfl⟩ := hcs
    refine ⟨hl, hm, fun e => by simp at e, ?_⟩
    by_cases h0 : len = 0
    · exact ⟨[], h0.symm, fun s hs => by simp at hs, .inl rfl⟩
    · obtain ⟨y, o, spot⟩ := a
      have hread : ∀ i, i < len → ∃ (f : Sy) (cs' : List Value), cs' = f.cells ∧ OkSy f ∧ ∀ j, j < 7 → W.cell? (((⟨y, o, spot⟩ : Addr).add (i * 7)).add j) = cs'[j]? := by
        intro i hi
        obtain ⟨cs', h1, h2⟩ := hx i (by rw [hmm]; simp; omega)
        rw [cells7] at h1
        obtain ⟨_, hlen, hcell⟩ := World.cells?_some h1
        obtain ⟨f, e, h3⟩ := sy_of h2
        exact ⟨f, cs', e, h3, fun j hj => hcell j hj⟩
      have hspot : spot = none := by
        obtain ⟨f, cs', e, _, hc⟩ := hread 0 (by omega)
        have := hc 0 (by omega)
        rw [e] at this
        simpa [Addr.add] using World.cell?_spot this
      subst hspot
      obtain ⟨L, hL, hP⟩ := list_of (P := fun i f => IsSy W y (o + i * 7) f ∧ OkSy f) len (fun i hi => by
        obtain ⟨f, cs', e, h3, hc⟩ := hread i hi
        subst e
        have hc' : ∀ j, j < 7 → W.cell? ⟨y, o + i * 7 + j, none⟩ = f.cells[j]? := by
          intro j hj
          have := hc j hj
          rw [Addr.add_mid, Addr.add_mid] at this
          exact this
        exact ⟨f, ⟨hc' 0 (by omega), hc' 1 (by omega), hc' 2 (by omega), hc' 3 (by omega), hc' 4 (by omega), hc' 5 (by omega), hc' 6 (by omega)⟩, h3⟩)
      refine ⟨L, hL, fun s hs => ?_, .inr ⟨y, o, rfl, fun i hi => (hP i hi).1⟩⟩
      obtain ⟨j, hj, rfl⟩ := List.mem_iff_getElem.1 hs
      exact (hP j hj).2
end
end Go.Proofs.Ytdclofiifcpkkaa
namespace Go.Proofs.Ytdclofiifcpkkaa
open Go.RowKit Go.PlainAid
theorem step_p (h : Nat) (c : UInt8) : bits .xor .u32 (bits .andNot .u32 (((h : Int) * 16 + (c.toNat : Int)) % 4294967296) (bits .and .u32 (((h : Int) * 16 + (c.toNat : Int)) % 4294967296) 4026531840)) (bits .and .u32 (((h : Int) * 16 + (c.toNat : Int)) % 4294967296) 4026531840 / 16777216) = ((sysvS h c : Nat) : Int) := by
  obtain ⟨x, hx⟩ : ∃ x, (h * 16 + c.toNat) % 4294967296 = x := ⟨_, rfl⟩
  have hl : x < 4294967296 := by rw [← hx]; exact Nat.mod_lt _ (by decide)
  have e : ((h : Int) * 16 + (c.toNat : Int)) % 4294967296 = (x : Int) := by rw [← hx]; omega
  rw [e, top_bits x hl, low_bits x hl]
  have e2 : ((x / 268435456 * 268435456 : Nat) : Int) / 16777216 = ((x / 268435456 * 16 : Nat) : Int) := by omega
  rw [e2, u32_xor_nat _ _ (by omega) (by omega)]
  unfold sysvS
  rw [hx]
theorem step_r (h : Nat) (c : UInt8) : bits .xor .u64 (((h : Int) * 16 + (c.toNat : Int)) % 268435456) (((h : Int) * 16 + (c.toNat : Int)) % 4294967296 / 268435456 * 16) = ((sysvS h c : Nat) : Int) := by
  obtain ⟨x, hx⟩ : ∃ x, (h * 16 + c.toNat) % 4294967296 = x := ⟨_, rfl⟩
  have hl : x < 4294967296 := by rw [← hx]; exact Nat.mod_lt _ (by decide)
  have e : ((h : Int) * 16 + (c.toNat : Int)) % 4294967296 = (x : Int) := by rw [← hx]; omega
  have e4 : ((h : Int) * 16 + (c.toNat : Int)) % 268435456 = ((x % 268435456 : Nat) : Int) := by omega
  rw [e, e4]
  have e2 : (x : Int) / 268435456 * 16 = ((x / 268435456 * 16 : Nat) : Int) := by omega
  rw [e2, u64_xor_nat _ _ (by omega) (by omega)]
  unfold sysvS
  rw [hx]
theorem at_text (l : List UInt8) (i : Nat) (h : i < l.length) : (({ data := l.toArray } : ByteArray)[i]'(by simpa [ByteArray.size] using h)) = l.getD i 0 := by
  show l.toArray[i] = _
  simp [List.getD, List.getElem?_eq_getElem h]
set_option maxHeartbeats 1000000 in
theorem ref10_Sysv (l : List UInt8) (w : World) (hl : l.length ≤ 140737488351232) :
    Calls Try.prog 61 #[.string ⟨l.toArray⟩] w fun e w' => e = .returned (.int .u32 (sysv l : Nat)) ∧ w = w' := by
  go_enter Try.func61, Try.ntmps61
  go_wp2
  go_loop [3, 4] (fun vs vi => ∃ (i h : Nat), vi = .int .i64 i ∧ vs = .int .u64 h ∧ i ≤ l.length ∧ h < 268435456 ∧ Hid (h = (l.take i).foldl sysvS 0))
    (fun _ vi => l.length - (intOf vi).toNat)
  case atStart => exact ⟨0, 0, rfl, rfl, by omega, by omega, by simp [Hid]⟩
  case round =>
    obtain ⟨i, h, rfl, rfl, hi, hh, HH⟩ := hrel
    by_cases hlt : i < l.length
    · have hltI : (i : Int) < (l.length : Int) := by omega
      have hc : ((({ data := l.toArray } : ByteArray)[i]'(by simpa [ByteArray.size] using hlt)).toNat : Int) ≤ 255 := by
        have := (({ data := l.toArray } : ByteArray)[i]'(by simpa [ByteArray.size] using hlt)).toNat_lt
        omega
      go_wp2_with fail
      refine ⟨⟨i + 1, sysvS h (l.getD i 0), by go_num, ?_, by omega, sysvS_lt _ _, ?_⟩, ?_⟩
      · rw [step_r, at_text l i hlt]
      · rw [Hid, foldl_snoc _ _ _ _ hlt, ← HH.out]
      · simp [intOf]; omega
    · have hltI : ¬ (i : Int) < (l.length : Int) := by omega
      have he : i = l.length := by omega
      go_wp2
      go_ret
      have := HH.out
      rw [he, List.take_length] at this
      rw [this]
      exact ⟨rfl, rfl⟩
set_option maxHeartbeats 1000000 in
theorem gnu_u64 (l : List UInt8) (w : World) (hl : l.length ≤ 140737488351232) :
    Calls Try.prog 62 #[.string ⟨l.toArray⟩] w fun e w' => e = .returned (.int .u32 (gnu l : Nat)) ∧ w = w' := by
  go_enter Try.func62, Try.ntmps62
  go_wp2
  go_loop [3, 4] (fun vs vi => ∃ (i h : Nat), vi = .int .i64 i ∧ vs = .int .u64 h ∧ i ≤ l.length ∧ h < 4294967296 ∧ Hid (h = (l.take i).foldl gnuS 5381))
    (fun _ vi => l.length - (intOf vi).toNat)
  case atStart => exact ⟨0, 5381, rfl, rfl, by omega, by omega, by simp [Hid]⟩
  case round =>
    obtain ⟨i, h, rfl, rfl, hi, hh, HH⟩ := hrel
    by_cases hlt : i < l.length
    · have hltI : (i : Int) < (l.length : Int) := by omega
      have hc : ((({ data := l.toArray } : ByteArray)[i]'(by simpa [ByteArray.size] using hlt)).toNat : Int) ≤ 255 := by
        have := (({ data := l.toArray } : ByteArray)[i]'(by simpa [ByteArray.size] using hlt)).toNat_lt
        omega
      go_wp2_with fail
      refine ⟨⟨i + 1, gnuS h (l.getD i 0), by go_num, ?_, by omega, gnuS_lt _ _, ?_⟩, ?_⟩
      · rw [at_text l i hlt]; congr 1 <;> (unfold gnuS; omega)
      · rw [Hid, foldl_snoc _ _ _ _ hlt, ← HH.out]
      · simp [intOf]; omega
    · have hltI : ¬ (i : Int) < (l.length : Int) := by omega
      have he : i = l.length := by omega
      go_wp2
      go_ret
      have := HH.out
      rw [he, List.take_length] at this
      rw [this]
      exact ⟨rfl, rfl⟩
end Go.Proofs.Ytdclofiifcpkkaa
namespace Go.Proofs.Ytdclofiifcpkkaa
open Go.RowKit Go.PlainAid
theorem bel1 (w : World) (o : Obj) : Below w.heap.size w (w.alloc o) := Below.alloc (Below.refl _ _) (Nat.le_refl _) o
theorem bel2 (w : World) (o o' : Obj) : Below w.heap.size w ((w.alloc o).alloc o') := Below.alloc (bel1 w o) (by simp) o'
set_option maxHeartbeats 1000000 in
theorem ref10_Had (s : Sy) (w : World) :
    Calls Try.prog 38 #[.agg #[.string ⟨s.name.toArray⟩, .string ⟨s.ver.toArray⟩, .bool s.hidden, .int .i64 s.bind, .bool s.defined, .int .u64 s.value, .int .u64 s.size]] w fun e w' => e = .returned (.bool (had s)) ∧ Below w.heap.size w w' := by
  obtain ⟨nm, vr, hd, bd, df, vl, sz⟩ := s
  simp only [had]
  cases df
  · go_enter Try.func38, Try.ntmps38
    go_wp2
    go_ret
    exact ⟨rfl, bel1 _ _⟩
  · go_enter Try.func38, Try.ntmps38
    go_wp2
    go_ret
    exact ⟨by simp, bel1 _ _⟩
end Go.Proofs.Ytdclofiifcpkkaa
namespace Go.Proofs.Ytdclofiifcpkkaa
open Go.RowKit Go.PlainAid Go.Sort
def flatY (l : List Sy) : List Value := l.flatMap Sy.cells
theorem flatY_app (l m : List Sy) : flatY (l ++ m) = flatY l ++ flatY m := by simp [flatY]
theorem flatY_len (l : List Sy) : (flatY l).length = l.length * 7 := by
  induction l with
  | nil => rfl
  | cons n l ih => show (n.cells ++ flatY l).length = _; rw [List.length_append, ih]; simp [Sy.cells]; omega
theorem flatY_get (l : List Sy) : ∀ (j : Nat) (hj : j < l.length) (k : Nat) (hk : k < 7), (flatY l)[j * 7 + k]? = l[j].cells[k]? := by
  induction l with
  | nil => intro j hj; simp at hj
  | cons e l ih =>
    intro j hj k hk
    have e1 : flatY (e :: l) = e.cells ++ flatY l := rfl
    have e2 : e.cells.length = 7 := rfl
    cases j with
    | zero => rw [e1, Nat.zero_mul, Nat.zero_add, List.getElem?_append_left (by omega)]; rfl
    | succ j =>
      rw [e1, List.getElem?_append_right (by omega), e2, show (j + 1) * 7 + k - 7 = j * 7 + k by omega]
      exact ih j (by simpa using hj) k hk
theorem Sy.one (e : Sy) : ∀ u ∈ e.cells, u.oneCell' = true := by
  intro u hu
  simp only [Sy.cells, List.mem_cons, List.not_mem_nil, or_false] at hu
  rcases hu with rfl | rfl | rfl | rfl | rfl | rfl | rfl <;> rfl
theorem flatY_one (l : List Sy) : ∀ u ∈ flatY l, u.oneCell' = true := fun u hu => by
  obtain ⟨s, _, h⟩ := List.mem_flatMap.1 hu
  exact s.one u h
/-- A row of symbols of the call's own. -/
def OwnSy (w : World) (B : Nat) (v : Value) (l : List Sy) : Prop := w.ownsRow B 48 7 v l.length (flatY l)
theorem OwnSy.nil (w : World) (B : Nat) : OwnSy w B (.slice none 0 0) [] := World.ownsRow_nil _ _ _ _
theorem OwnSy.stay {w w' : World} {B : Nat} {v : Value} {l : List Sy} (h : OwnSy w B v l) (hb : Below w.heap.size w w') : OwnSy w' B v l := by
  unfold OwnSy at h ⊢
  refine ⟨h.1, ?_⟩
  rcases h.2 with hn | ⟨g, cap, cur, rfl, hB, hg, rest⟩
  · exact .inl hn
  · refine .inr ⟨g, cap, cur, rfl, hB, ?_, rest⟩
    rw [hb.block g (Array.getElem?_eq_some_iff.1 hg).1]; exact hg
theorem OwnSy.low {w : World} {B C : Nat} {v : Value} {l : List Sy} (h : OwnSy w B v l) (hb : C ≤ B) : OwnSy w C v l := by
  unfold OwnSy at h ⊢
  refine ⟨h.1, ?_⟩
  rcases h.2 with hn | ⟨g, cap, cur, rfl, hB, rest⟩
  · exact .inl hn
  · exact .inr ⟨g, cap, cur, rfl, Nat.le_trans hb hB, rest⟩
theorem OwnSy.form {w : World} {B : Nat} {v : Value} {l : List Sy} (h : OwnSy w B v l) : ∃ a cap, v = .slice a l.length cap := by
  unfold OwnSy at h
  rcases h.2 with ⟨rfl, hn⟩ | ⟨g, cap, cur, rfl, _⟩
  · exact ⟨none, 0, by rw [hn]⟩
  · exact ⟨_, _, rfl⟩
/-- A row of symbols that can be read. -/
def ArgSy (w : World) (v : Value) (ps : List Sy) : Prop :=
  ps.length ≤ 65536 ∧ ((v = .slice none 0 0 ∧ ps = []) ∨ ∃ g cap, v = .slice (some ⟨g, 0, none⟩) ps.length cap ∧ ps.length ≤ cap ∧ cap ≤ maxLen ∧ g < w.heap.size ∧
    ∀ j (hj : j < ps.length) k, k < 7 → w.cell? ⟨g, j * 7 + k, none⟩ = ps[j].cells[k]?)
theorem OwnSy.arg {w : World} {B : Nat} {v : Value} {l : List Sy} (h : OwnSy w B v l) (hl : l.length ≤ 65536) : ArgSy w v l := by
  have hc := fun g hg => World.ownsRow.cells h (g := g) hg
  unfold OwnSy at h
  refine ⟨hl, ?_⟩
  rcases h.2 with ⟨rfl, hn⟩ | ⟨g, cap, cur, rfl, hb, hg, hn, hm, _⟩
  · exact .inl ⟨rfl, List.length_eq_zero_iff.1 hn⟩
  · refine .inr ⟨g, cap, rfl, hn, hm, (Array.getElem?_eq_some_iff.1 hg).1, fun j hj k hk => ?_⟩
    have hlen : k < l[j].cells.length := hk
    have := hc g rfl (j * 7 + k) (l[j].cells[k]) (by rw [flatY_get l j hj k hk, List.getElem?_eq_getElem hlen])
    rw [add_at, Nat.zero_add] at this
    rw [this, List.getElem?_eq_getElem hlen]
theorem ArgSy.below {w w' : World} {v : Value} {ps : List Sy} (h : ArgSy w v ps) (hb : Below w.heap.size w w') : ArgSy w' v ps := by
  refine ⟨h.1, ?_⟩
  rcases h.2 with hn | ⟨g, cap, rfl, h1, h2, h3, h4⟩
  · exact .inl hn
  · refine .inr ⟨g, cap, rfl, h1, h2, Nat.lt_of_lt_of_le h3 hb.size, fun j hj k hk => ?_⟩
    rw [hb.cell (p := ⟨g, j * 7 + k, none⟩) h3, h4 j hj k hk]
theorem ArgSy.nil (w : World) : ArgSy w (.slice none 0 0) [] := ⟨by simp, .inl ⟨rfl, rfl⟩⟩
theorem ArgSy.form {w : World} {v : Value} {ps : List Sy} (h : ArgSy w v ps) : ∃ a cap, v = .slice a ps.length cap := by
  rcases h.2 with ⟨rfl, rfl⟩ | ⟨g, cap, rfl, _⟩
  · exact ⟨_, _, rfl⟩
  · exact ⟨_, _, rfl⟩
theorem ArgSy.at {w : World} {a : Option Addr} {n cap : Nat} {ps : List Sy} (h : ArgSy w (.slice a n cap) ps) (j : Nat) (hj : j < ps.length) :
    ∃ g, a = some ⟨g, 0, none⟩ ∧ ps.length ≤ cap ∧ cap ≤ 9223372036854775807 ∧ g < w.heap.size ∧
      w.cell? ⟨g, j * 7, none⟩ = some (.string ⟨ps[j].name.toArray⟩) ∧ w.cell? ⟨g, j * 7 + 1, none⟩ = some (.string ⟨ps[j].ver.toArray⟩) ∧ w.cell? ⟨g, j * 7 + 2, none⟩ = some (.bool ps[j].hidden) ∧
      w.cell? ⟨g, j * 7 + 3, none⟩ = some (.int .i64 ps[j].bind) ∧ w.cell? ⟨g, j * 7 + 4, none⟩ = some (.bool ps[j].defined) ∧ w.cell? ⟨g, j * 7 + 5, none⟩ = some (.int .u64 ps[j].value) ∧ w.cell? ⟨g, j * 7 + 6, none⟩ = some (.int .u64 ps[j].size) := by
  rcases h.2 with ⟨_, rfl⟩ | ⟨g, cap', e, h1, h2, h3, h4⟩
  · simp at hj
  · injection e with e1 e2 e3
    subst e1 e3
    have k := fun k hk => h4 j hj k hk
    exact ⟨g, rfl, h1, by unfold maxLen at h2; omega, h3, k 0 (by omega), k 1 (by omega), k 2 (by omega), k 3 (by omega), k 4 (by omega), k 5 (by omega), k 6 (by omega)⟩
theorem info_sy : (Try.prog.info? 48).map (fun i => (i.zero, i.size, i.bytes)) = some (some (.agg #[.string ByteArray.empty, .string ByteArray.empty, .bool false, .int .i64 0, .bool false, .int .u64 0, .int .u64 0]), 7, 72) := by kernel_rfl
theorem append_sy {ops : Array Oper} {rest : List Oper} {o : Oper} {a : Act} {Q : Exit → Act → World → Prop} (hgd : o.guard = none) (s x : Operand)
    (ho : o.op = .call { callee := .builtin .append, args := #[s, x], argTypes := #[36, 36] })
    (B : Nat) (wr : World) (v : Value) (l : List Sy) (hown : OwnSy wr B v l) (e : Sy) (hs : a.eval s = v)
    (q : Nat) (hq : q = wr.heap.size) (hx : a.eval x = .slice (some ⟨q, 0, none⟩) 1 1) (hlen : l.length ≤ 1000000) (hB : B ≤ wr.heap.size)
    (h : ∀ v' w', OwnSy w' B v' (l ++ [e]) → Below B wr w' → wpList Try.prog ops Q rest (a.put o.dst v') w') :
    wpList Try.prog ops Q (o :: rest) a (wr.alloc (.cells e.cells.toArray 48)) := by
  subst hq
  obtain ⟨i, hi, hz0, hz1, hz2⟩ := info_parts info_sy
  have hb : ∀ k, v.ownBlock = some k → B ≤ k := fun k hk => (World.ownsRow.lt hown k hk).1
  refine wpList_append_own (P := Try.prog) (wr.alloc (.cells e.cells.toArray 48)) hgd s x 36 ho B 48 i _ 7 72 Try.underlying36 hi hz0 hz1 hz2 rfl (by decide) v l.length (flatY l) hs (World.ownsRow.alloc hown _)
    ⟨wr.heap.size, 0, none⟩ 1 1 e.cells hx rfl ?_ e.one ?_ ?_ ?_ ?_
  · intro j u hj
    have hj5 : j < 7 := (List.getElem?_eq_some_iff.1 hj).1
    rw [add_at, Nat.zero_add, World.cell?_alloc_at _ _ _ _ (by simp)]
    simpa using hj
  · unfold maxLen; omega
  · omega
  · simp; omega
  · intro v' w' h1 h2 _
    refine h v' w' ?_ ?_
    · unfold OwnSy
      rw [List.length_append, flatY_app]
      simpa [flatY] using h1
    · exact ((Below.refl B wr).alloc hB _).grown h2 (by simp; omega) hb
/-- Many symbols behind a row (out of one that can be read). -/
theorem append_sys {ops : Array Oper} {rest : List Oper} {o : Oper} {a : Act} {Q : Exit → Act → World → Prop} {wr : World} (hgd : o.guard = none) (s x : Operand)
    (ho : o.op = .call { callee := .builtin .append, args := #[s, x], argTypes := #[36, 36] })
    (B : Nat) (v : Value) (l : List Sy) (hown : OwnSy wr B v l) (u : Value) (E : List Sy) (hE : ArgSy wr u E) (hs : a.eval s = v) (hx : a.eval x = u) (hne : E ≠ []) (hlen : l.length ≤ 1000000) (hB : B ≤ wr.heap.size)
    (h : ∀ v' w', OwnSy w' B v' (l ++ E) → Below B wr w' → wpList Try.prog ops Q rest (a.put o.dst v') w') :
    wpList Try.prog ops Q (o :: rest) a wr := by
  obtain ⟨i, hi, hz0, hz1, hz2⟩ := info_parts info_sy
  have hb : ∀ k, v.ownBlock = some k → B ≤ k := fun k hk => (World.ownsRow.lt hown k hk).1
  obtain ⟨hE0, hE1⟩ := hE
  rcases hE1 with ⟨_, rfl⟩ | ⟨g, cap, rfl, h1, h2, h3, h4⟩
  · exact absurd rfl hne
  · refine wpList_append_own (P := Try.prog) wr hgd s x 36 ho B 48 i _ 7 72 Try.underlying36 hi hz0 hz1 hz2 rfl (by decide) v l.length (flatY l) hs hown
      ⟨g, 0, none⟩ E.length cap (flatY E) hx (flatY_len E) ?_ (flatY_one E) ?_ ?_ ?_ ?_
    · intro j u hj
      have hj5 : j < E.length * 7 := by rw [← flatY_len]; exact (List.getElem?_eq_some_iff.1 hj).1
      have e := h4 (j / 7) (by omega) (j % 7) (Nat.mod_lt _ (by decide))
      have e2 := flatY_get E (j / 7) (by omega) (j % 7) (Nat.mod_lt _ (by decide))
      rw [show j / 7 * 7 + j % 7 = j by omega] at e e2
      rw [add_at, Nat.zero_add, e, ← e2, hj]
    · unfold maxLen; omega
    · omega
    · omega
    · intro v' w' q1 q2 _
      refine h v' w' ?_ ?_
      · unfold OwnSy
        rw [List.length_append, flatY_app]
        simpa using q1
      · exact (Below.refl B wr).grown q2 hB hb
theorem flatY_set (L : List Sy) : ∀ (i : Nat) (hi : i < L.length) (y : Sy), flatY (L.set i y) = (flatY L).take (i * 7) ++ (y.cells ++ (flatY L).drop (i * 7 + 7)) := by
  induction L with
  | nil => intro i hi; simp at hi
  | cons e l ih =>
    intro i hi y
    have e1 : flatY (e :: l) = e.cells ++ flatY l := rfl
    have e2 : e.cells.length = 7 := rfl
    cases i with
    | zero =>
      show y.cells ++ flatY l = _
      rw [e1, Nat.zero_mul, List.take_zero, List.nil_append, Nat.zero_add, List.drop_append_of_le_length (by omega), List.drop_of_length_le (by omega), List.nil_append]
    | succ i =>
      show e.cells ++ flatY (l.set i y) = _
      rw [ih i (by simpa using hi) y, e1, show (i + 1) * 7 = e.cells.length + i * 7 by omega, List.take_length_add_append, show e.cells.length + i * 7 + 7 = e.cells.length + (i * 7 + 7) by omega, List.drop_length_add_append, List.append_assoc]
/-- One of them is laid anew. -/
theorem OwnSy.put {w : World} {B g n cap : Nat} {L : List Sy} (h : OwnSy w B (.slice (some ⟨g, 0, none⟩) n cap) L) (i : Nat) (hi : i < L.length) (y : Sy) :
    ∃ cur, w.heap[g]? = some (.cells cur 48 (0, 0)) ∧ i * 7 + y.cells.length ≤ cur.size ∧ ∀ w', w'.heap[g]? = some (.cells (cur.toList.take (i * 7) ++ y.cells ++ cur.toList.drop (i * 7 + y.cells.length)).toArray 48 (0, 0)) →
      OwnSy w' B (.slice (some ⟨g, 0, none⟩) n cap) (L.set i y) := by
  unfold OwnSy at h
  have hy : y.cells.length = 7 := rfl
  rcases h.2 with ⟨hn, _⟩ | ⟨g', cap', cur, hv, hb, hg, hn, hm, hc, ht⟩
  · cases hn
  · simp only [Value.slice.injEq, Option.some.injEq, Addr.mk.injEq] at hv
    obtain ⟨⟨rfl, _⟩, hnl, rfl⟩ := hv
    have hcl : cur.toList.length = cap * 7 := by rw [Array.length_toList, hc]
    have hfl := flatY_len L
    refine ⟨cur, hg, by rw [hy, hc]; omega, fun w' hg' => ?_⟩
    unfold OwnSy
    rw [List.length_set]
    refine ⟨by rw [flatY_len, List.length_set], .inr ⟨g, cap, _, by rw [hnl], hb, hg', hn, hm, ?_, ?_⟩⟩
    · simp only [List.size_toArray, List.length_append, List.length_take, List.length_drop, hcl, hy]; omega
    · rw [flatY_set L i hi y, ← ht]
      show List.take (L.length * 7) (cur.toList.take (i * 7) ++ y.cells ++ cur.toList.drop (i * 7 + y.cells.length)) = _
      have ha : (cur.toList.take (i * 7)).length = i * 7 := by rw [List.length_take, hcl]; omega
      rw [List.append_assoc, hy, show L.length * 7 = (cur.toList.take (i * 7)).length + (y.cells.length + (L.length * 7 - (i * 7 + 7))) by rw [ha, hy]; omega, List.take_length_add_append, List.take_length_add_append]
      congr 1
      · rw [List.take_take, Nat.min_eq_left (by rw [ha, hy]; omega)]
      · congr 1
        rw [ha, hy, List.drop_take]
        congr 1
        omega
end Go.Proofs.Ytdclofiifcpkkaa
namespace Go.Proofs.Ytdclofiifcpkkaa
open Go.RowKit Go.PlainAid
/-- Is it the version of a number that a symbol has, or asks for? -/
def meant (n : Nat) (d : Bool) (v : Vv) : Bool := decide (v.num = n) && (v.frm.isEmpty == d)
/-- A symbol with what the number of its version says. -/
def withV (vs : List Vv) (s : Sy) (n : Nat) : Option Sy :=
  if n % 32768 = 0 then some ⟨s.name, s.ver, s.hidden, if s.defined then 0 else s.bind, s.defined, s.value, s.size⟩
  else if n % 32768 = 1 then some ⟨s.name, [], s.hidden || (decide (32768 ≤ n) && s.defined), s.bind, s.defined, s.value, s.size⟩
  else match vs.find? (meant (n % 32768) s.defined) with
    | none => none
    | some v => some ⟨s.name, v.name, s.hidden || (decide (32768 ≤ n) && s.defined), s.bind, s.defined, s.value, s.size⟩
def pv (vs : List Vv) (x : List UInt8) (j : Nat) (s : Sy) : Option Sy := if j = 0 then some s else withV vs s (rd x (2 * j) 2)
def putL (f : Nat → Sy → Option Sy) : Nat → List Sy → Option (List Sy)
  | _, [] => some []
  | j, s :: t => match f j s with
    | none => none
    | some y => (putL f (j + 1) t).map (y :: ·)
/-- The first i of them turned. -/
def mixS (f : Nat → Sy → Option Sy) : Nat → Nat → List Sy → List Sy
  | _, _, [] => []
  | _, 0, S => S
  | j, i + 1, s :: t => (f j s).getD s :: mixS f (j + 1) i t
theorem mixS_zero (f : Nat → Sy → Option Sy) (j : Nat) (S : List Sy) : mixS f j 0 S = S := by cases S <;> rfl
theorem mixS_len (f : Nat → Sy → Option Sy) : ∀ (S : List Sy) (j i : Nat), (mixS f j i S).length = S.length
  | [], _, i => by cases i <;> rfl
  | s :: t, j, 0 => rfl
  | s :: t, j, i + 1 => by simp [mixS, mixS_len f t]
theorem mixS_get (f : Nat → Sy → Option Sy) : ∀ (S : List Sy) (j i k : Nat) (h : k < S.length), (mixS f j i S)[k]'(by rw [mixS_len]; exact h) = if k < i then (f (j + k) S[k]).getD S[k] else S[k]
  | [], _, _, k, h => by simp at h
  | s :: t, j, 0, k, h => rfl
  | s :: t, j, i + 1, 0, h => by simp [mixS]
  | s :: t, j, i + 1, k + 1, h => by
    have ih := mixS_get f t (j + 1) i k (by simpa using h)
    simp only [mixS, List.getElem_cons_succ, ih, Nat.add_lt_add_iff_right, show j + 1 + k = j + (k + 1) by omega]
theorem putL_none (f : Nat → Sy → Option Sy) : ∀ (S : List Sy) (j k : Nat) (h : k < S.length), f (j + k) S[k] = none → putL f j S = none
  | [], _, k, h, _ => by simp at h
  | s :: t, j, 0, h, e => by simp only [Nat.add_zero, List.getElem_cons_zero] at e; simp [putL, e]
  | s :: t, j, k + 1, h, e => by
    have ih := putL_none f t (j + 1) k (by simpa using h) (by rw [show j + 1 + k = j + (k + 1) by omega]; simpa using e)
    rw [putL]
    split
    · rfl
    · rw [ih]; rfl
theorem putL_some (f : Nat → Sy → Option Sy) : ∀ (S : List Sy) (j : Nat), (∀ k (h : k < S.length), (f (j + k) S[k]).isSome = true) → putL f j S = some (mixS f j S.length S)
  | [], _, _ => rfl
  | s :: t, j, h => by
    have h0 := h 0 (by simp)
    simp only [Nat.add_zero, List.getElem_cons_zero] at h0
    obtain ⟨y, hy⟩ := Option.isSome_iff_exists.1 h0
    have ih := putL_some f t (j + 1) (fun k hk => by rw [show j + 1 + k = j + (k + 1) by omega]; exact h (k + 1) (by simpa using hk))
    simp [putL, mixS, hy, ih]
theorem mixS_snoc (f : Nat → Sy → Option Sy) (S : List Sy) (i : Nat) (h : i < S.length) : (mixS f 0 (i + 1) S).take (i + 1) = (mixS f 0 i S).take i ++ [(f i S[i]).getD S[i]] := by
  rw [List.take_succ_eq_append_getElem (by rw [mixS_len]; exact h), mixS_get f S 0 (i + 1) i h, if_pos (by omega), Nat.zero_add]
  congr 1
  apply List.ext_getElem
  · simp [mixS_len]
  · intro k h1 h2
    simp only [List.length_take, mixS_len] at h1
    rw [List.getElem_take, List.getElem_take, mixS_get f S 0 _ k (by omega), mixS_get f S 0 _ k (by omega), if_pos (by omega), if_pos (by omega)]
theorem mixS_all (f : Nat → Sy → Option Sy) (S : List Sy) : (mixS f 0 S.length S).take S.length = mixS f 0 S.length S := List.take_of_length_le (by rw [mixS_len]; exact Nat.le_refl _)
/-- One turned behind those that are. -/
theorem mixS_set (f : Nat → Sy → Option Sy) (S : List Sy) (i : Nat) (h : i < S.length) (y : Sy) (e : f i S[i] = some y) : (mixS f 0 i S).set i y = mixS f 0 (i + 1) S := by
  apply List.ext_getElem
  · simp [mixS_len]
  · intro k h1 h2
    rw [List.length_set, mixS_len] at h1
    rw [List.getElem_set, mixS_get f S 0 (i + 1) k h1]
    by_cases c : i = k
    · subst c
      rw [if_pos rfl, if_pos (by omega), Nat.zero_add, e]; rfl
    · rw [if_neg c, mixS_get f S 0 i k h1]
      by_cases d : k < i
      · rw [if_pos d, if_pos (by omega)]
      · rw [if_neg d, if_neg (by omega)]
def vputZ (l : List UInt8) (ps : List Ph) (S : List UInt8) (sb : Bool) (q : Vq) (sym : Nat) (L : List Sy) : Option (List Sy) :=
  match verZ l ps S sb q with
  | none => none
  | some vs => if sym = 0 then some L else if rcB l ps sym (2 * L.length) = false then none else putL (pv vs (rc l ps sym (2 * L.length))) 0 L
theorem ver_is_good {l : List UInt8} {ps : List Ph} {S : List UInt8} {sb : Bool} {q : Vq} {L : List Vv} (e : verZ l ps S sb q = some L) : goodB L = true := by
  unfold verZ at e
  split at e
  · cases e
  · unfold partO at e
    split at e
    · cases e
    · split at e
      · cases e
      · split at e
        · rename_i h
          injection e with e; subst e; exact h
        · cases e
theorem good_len {L : List Vv} (h : goodB L = true) : L.length ≤ 32 := by
  unfold goodB at h
  simp only [Bool.and_eq_true, decide_eq_true_eq] at h
  exact h.1.1
theorem good_apart {L : List Vv} (h : goodB L = true) : apartB L = true := by
  unfold goodB at h
  simp only [Bool.and_eq_true] at h
  exact h.2
def vputO (l : List UInt8) (ps : List Ph) (sym : Nat) (L : List Sy) : Option (List Vv) → Option (List Sy)
  | none => none
  | some vs => if sym = 0 then some L else if rcB l ps sym (2 * L.length) = false then none else putL (pv vs (rc l ps sym (2 * L.length))) 0 L
theorem vput_of (l : List UInt8) (ps : List Ph) (S : List UInt8) (sb : Bool) (q : Vq) (sym : Nat) (L : List Sy) : vputZ l ps S sb q sym L = vputO l ps sym L (verZ l ps S sb q) := by
  unfold vputZ vputO
  cases verZ l ps S sb q <;> rfl
/-- Plain symbols: without versions. -/
def bareS (s : Sy) : Prop := s.ver = [] ∧ s.hidden = false
/-- At most one version is meant. -/
theorem apart_one : ∀ (vs : List Vv), apartB vs = true → ∀ i j (hi : i < vs.length) (hj : j < vs.length), vs[i].num = vs[j].num → i = j
  | [], _, i, _, hi, _, _ => by simp at hi
  | v :: t, h, i, j, hi, hj, e => by
    simp only [apartB, Bool.and_eq_true, Bool.not_eq_true', List.any_eq_false, decide_eq_true_eq] at h
    cases i with
    | zero =>
      cases j with
      | zero => rfl
      | succ j => exact absurd e.symm (h.1 _ (List.getElem_mem (by simpa using hj)))
    | succ i =>
      cases j with
      | zero => exact absurd e (h.1 _ (List.getElem_mem (by simpa using hi)))
      | succ j => rw [apart_one t h.2 i j (by simpa using hi) (by simpa using hj) (by simpa using e)]
theorem find_at {vs : List Vv} (h : apartB vs = true) {n : Nat} {d : Bool} (i : Nat) (hi : i < vs.length) (hm : meant n d vs[i] = true) : vs.find? (meant n d) = some vs[i] := by
  rw [List.find?_eq_some_iff_getElem]
  refine ⟨hm, i, hi, rfl, fun j hj => ?_⟩
  cases c : meant n d vs[j] with
  | false => rfl
  | true =>
    unfold meant at hm c
    rw [Bool.and_eq_true, decide_eq_true_eq] at hm c
    have := apart_one vs h i j hi (by omega) (hm.1.trans c.1.symm)
    omega
end Go.Proofs.Ytdclofiifcpkkaa
