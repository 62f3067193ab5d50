
/-
  What turns in memory; nodes that came in; a map of numbers by paths.
-/
import Derived.Test.YthkpcafbfgfjpaaDoorPathK
import Derived.Test.YthkpcafbfgfjpaaDoorDoorK
import Derived.Deep.MidRow
import Derived.Deep.Slices
import Derived.Lib.SmallJoins
import Derived.ChangeSlices
import Derived.ProofKit
import Derived.OpenShut
import Derived.Maps.OwnSet
import Derived.StringKeys
set_option linter.unusedVariables false
namespace Go.Proofs.YthkpcafbfgfjpaaDoor
open Go.RowKit Go.PlainAid Go.ChangeShapes Go.WideShapes Go.WideMaps
theorem hide {p : Prop} (h : p) : Hid p := h
/-- Of what was there, nothing but the blocks F has turned. -/
structure Turn (F : Nat → Prop) (w w' : World) : Prop where
  os : w'.os = w.os
  tape : w'.tape = w.tape
  output : w'.output = w.output
  size : w.heap.size ≤ w'.heap.size
  block : ∀ k, k < w.heap.size → ¬ F k → w'.heap[k]? = w.heap[k]?
theorem Turn.trans {F : Nat → Prop} {a b c : World} (h : Turn F a b) (k : Turn F b c) : Turn F a c :=
  ⟨k.os.trans h.os, k.tape.trans h.tape, k.output.trans h.output, Nat.le_trans h.size k.size, fun i hi hf => (k.block i (Nat.lt_of_lt_of_le hi h.size) hf).trans (h.block i hi hf)⟩
theorem Turn.of_below {F : Nat → Prop} {w w' : World} (h : Below w.heap.size w w') : Turn F w w' := ⟨h.os, h.tape, h.output, h.size, fun k hk _ => h.block k hk⟩
theorem Turn.of_grown {F : Nat → Prop} {w w' : World} {g : Option Nat} (h : w.grownBy w' g) (hg : ∀ k, g = some k → F k) : Turn F w w' :=
  ⟨h.os, h.tape, h.output, h.size, fun k hk hf => h.block k hk (fun e => hf (hg k e.symm))⟩
theorem Turn.mono {F G : Nat → Prop} {w w' : World} (h : Turn F w w') (hs : ∀ k, k < w.heap.size → F k → G k) : Turn G w w' :=
  ⟨h.os, h.tape, h.output, h.size, fun k hk hf => h.block k hk (fun e => hf (hs k hk e))⟩
theorem Turn.below {F : Nat → Prop} {w w' : World} {B : Nat} (h : Turn F w w') (hB : B ≤ w.heap.size) (hf : ∀ k, F k → B ≤ k) : Below B w w' :=
  ⟨h.os, h.tape, h.output, h.size, fun k hk => h.block k (Nat.lt_of_lt_of_le hk hB) (fun e => Nat.lt_irrefl _ (Nat.lt_of_lt_of_le hk (hf k e)))⟩
theorem Turn.cell {F : Nat → Prop} {w w' : World} (h : Turn F w w') {p : Addr} {v : Value} (hp : ¬ F p.block) (hv : w.cell? p = some v) : w'.cell? p = some v := by
  rw [World.cell?_of_block (w := w) (h.block p.block (World.block_lt_of_cell? _ _ hv) hp)]; exact hv
theorem Turn.setCell (w : World) (p : Addr) (v : Value) : Turn (· = p.block) w (w.setCell p v) :=
  ⟨rfl, rfl, rfl, by simp, fun k _ hk => Below.heap_setCell _ _ _ _ hk⟩
def b8 (k : Nat) : UInt8 := UInt8.ofNat k
theorem b8_toNat {k : Nat} (h : k < 256) : ((b8 k).toNat : Int) = (k : Int) := by
  unfold b8
  rw [UInt8.toNat_ofNat']
  omega
/-- v is a slice of bytes that reads as l and lies outside the blocks F. -/
def Src (w : World) (F : Nat → Prop) (v : Value) (l : List UInt8) : Prop :=
  ∃ a cap, v = .slice a l.length cap ∧ l.length ≤ cap ∧ cap ≤ maxLen ∧
    ((a = none ∧ l = [] ∧ cap = 0) ∨ ∃ x : Addr, a = some x ∧ (l = [] ∨ ¬ F x.block) ∧ ∀ j (hj : j < l.length), w.cell? (x.add j) = some (.int .u8 (l[j].toNat : Int)))
theorem add_block (x : Addr) (j : Nat) : (x.add j).block = x.block := by unfold Addr.add; split <;> rfl
theorem Src.turn {F : Nat → Prop} {w w' : World} {v : Value} {l : List UInt8} (h : Src w F v l) (ht : Turn F w w') : Src w' F v l := by
  obtain ⟨a, cap, rfl, h1, h2, h3⟩ := h
  refine ⟨a, cap, rfl, h1, h2, ?_⟩
  rcases h3 with h3 | ⟨x, rfl, hx, hc⟩
  · exact .inl h3
  · exact .inr ⟨x, rfl, hx, fun j hj => ht.cell (by
      rw [add_block]
      rcases hx with e | e
      · rw [e] at hj; simp at hj
      · exact e) (hc j hj)⟩
theorem Src.sub {F G : Nat → Prop} {w : World} {v : Value} {l : List UInt8} (h : Src w F v l) (hs : ∀ k, G k → F k) : Src w G v l := by
  obtain ⟨a, cap, rfl, h1, h2, h3⟩ := h
  refine ⟨a, cap, rfl, h1, h2, ?_⟩
  rcases h3 with h3 | ⟨x, rfl, hx, hc⟩
  · exact .inl h3
  · exact .inr ⟨x, rfl, hx.imp id (fun e g => e (hs _ g)), hc⟩
theorem Src.sub' {F G : Nat → Prop} {w : World} {v : Value} {l : List UInt8} (h : Src w F v l) (hs : ∀ k, k < w.heap.size → G k → F k) : Src w G v l := by
  obtain ⟨a, cap, rfl, h1, h2, h3⟩ := h
  refine ⟨a, cap, rfl, h1, h2, ?_⟩
  rcases h3 with h3 | ⟨x, rfl, hx, hc⟩
  · exact .inl h3
  · refine .inr ⟨x, rfl, ?_, hc⟩
    by_cases e : l = []
    · exact .inl e
    · have hl : 0 < l.length := List.length_pos_iff.2 e
      have := World.block_lt_of_cell? _ _ (hc 0 hl)
      rw [add_block] at this
      rcases hx with e2 | e2
      · exact absurd e2 e
      · exact .inr (fun g => e2 (hs _ this g))
/-- What was there is outside of what is new. -/
theorem Src.old {w : World} {v : Value} {l : List UInt8} (h : Src w (fun _ => False) v l) : Src w (fun k => w.heap.size ≤ k) v l := by
  obtain ⟨a, cap, rfl, h1, h2, h3⟩ := h
  refine ⟨a, cap, rfl, h1, h2, ?_⟩
  rcases h3 with h3 | ⟨x, rfl, hx, hc⟩
  · exact .inl h3
  · refine .inr ⟨x, rfl, ?_, hc⟩
    by_cases e : l = []
    · exact .inl e
    · right
      have hl : 0 < l.length := List.length_pos_iff.2 e
      have := World.block_lt_of_cell? _ _ (hc 0 hl)
      rw [add_block] at this
      omega
/-- A node. -/
structure Nd where
  path : ByteArray
  kind : Int
  vd : Value
  data : List UInt8
  to : ByteArray
def Nd.cells (n : Nd) : List Value := [.string n.path, .int .i64 n.kind, n.vd, .string n.to]
/-- One node that came in, from p on in block y. -/
structure IsNd (w : World) (y p : Nat) (n : Nd) : Prop where
  c0 : w.cell? ⟨y, p, none⟩ = some (.string n.path)
  c1 : w.cell? ⟨y, p + 1, none⟩ = some (.int .i64 n.kind)
  c2 : w.cell? ⟨y, p + 2, none⟩ = some n.vd
  c3 : w.cell? ⟨y, p + 3, none⟩ = some (.string n.to)
  k0 : -9223372036854775808 ≤ n.kind
  k1 : n.kind ≤ 9223372036854775807
  src : Src w (fun _ => False) n.vd n.data
def IsNds (w : World) (a : Option Addr) (len cap : Nat) : Prop :=
  len ≤ cap ∧ cap ≤ maxLen ∧ (len = 0 ∨ ∃ y o, a = some ⟨y, o, none⟩ ∧ ∀ i, i < len → ∃ n, IsNd w y (o + i * 4) n)
theorem four {l : List Value} (h : l.length = 4) : ∃ a b c d, l = [a, b, c, d] := by
  match l, h with
  | [a, b, c, d], _ => exact ⟨a, b, c, d, rfl⟩
theorem cells4 : Tryd.prog.cellsOf 40 = 4 := by kernel_rfl
theorem cellsS : Tryd.prog.cellsOf 9 = 1 := by kernel_rfl
theorem cellsK : Tryd.prog.cellsOf 38 = 1 := by kernel_rfl
theorem cellsB : Tryd.prog.cellsOf 35 = 1 := by kernel_rfl
theorem wf_u8 {n : Int} (h : (Lit.int .u8 n).wf = true) : 0 ≤ n ∧ n ≤ 255 := by
  have a : IntKind.u8.min = 0 := rfl
  have b : IntKind.u8.max = 255 := rfl
  simp [Lit.wf] at h
  omega
theorem wf_i64 {n : Int} (h : (Lit.int .i64 n).wf = true) : -9223372036854775808 ≤ n ∧ n ≤ 9223372036854775807 := by
  have a : IntKind.i64.min = -9223372036854775808 := rfl
  have b : IntKind.i64.max = 9223372036854775807 := rfl
  simp [Lit.wf] at h
  omega
theorem src_row {w : World} {x : Addr} {len cap : Nat} {zs : List Int} (h1 : len ≤ cap) (h2 : cap ≤ maxLen) (h3 : zs.length = cap) (hc : ∀ i, i < zs.length → w.cell? (x.add i) = some (.int .u8 (zs.getD i 0))) (hw : ∀ n ∈ zs, (Lit.int .u8 n).wf = true) :
    ∃ d : List UInt8, d.length = len ∧ Src w (fun _ => False) (.slice (some x) len cap) d := by
  have hll : ((zs.take len).map fun z => b8 z.toNat).length = len := by simp; omega
  refine ⟨(zs.take len).map fun z => b8 z.toNat, hll, some x, cap, by rw [hll], by omega, h2, .inr ⟨x, rfl, .inr id, fun j hj => ?_⟩⟩
  rw [hll] at hj
  have hjz : j < zs.length := by omega
  have hb := wf_u8 (hw (zs.getD j 0) (by rw [List.getD, List.getElem?_eq_getElem hjz]; simp))
  rw [hc j hjz]
  have e2 : (((zs.take len).map fun z => b8 z.toNat)[j]'(by omega)) = b8 (zs.getD j 0).toNat := by
    simp [List.getD, List.getElem?_eq_getElem hjz]
  rw [e2, b8_toNat (by omega)]
  congr 2
  omega
section
variable {H : Type} {enc : TypeId × Value → H}
theorem nd_of {W : World} {cs : List Value} {x : DataW H × List MemPlace} {fuel : Nat} (h2 : DataW.trod enc Tryd.prog W 0 (fun _ => true) true fuel 40 cs = some x) :
    ∃ n : Nd, cs = n.cells ∧ -9223372036854775808 ≤ n.kind ∧ n.kind ≤ 9223372036854775807 ∧ Src W (fun _ => False) n.vd n.data := by
  obtain ⟨xs, n, _, rfl, hlen, hl4, hf⟩ := DataW.trod_struct Tryd.underlying40 h2
  rw [cells4] at hlen
  obtain ⟨v0, v1, v2, v3, rfl⟩ := four hlen
  match xs, hl4 with
  | [y0, y1, y2, y3], _ =>
    have g0 : DataW.trod enc Tryd.prog W 0 (fun _ => true) true n 9 [v0] = some y0 := by have := hf 0 _ rfl; simpa [cellsS] using this
    have g1 : DataW.trod enc Tryd.prog W 0 (fun _ => true) true n 38 [v1] = some y1 := by have := hf 1 _ rfl; simpa [cellsK] using this
    have g2 : DataW.trod enc Tryd.prog W 0 (fun _ => true) true n 35 [v2] = some y2 := by have := hf 2 _ rfl; simpa [cellsB] using this
    have g3 : DataW.trod enc Tryd.prog W 0 (fun _ => true) true n 9 [v3] = some y3 := by have := hf 3 _ rfl; simpa [cellsS] using this
    obtain ⟨s0, q0, _, _⟩ := DataW.trod_string Tryd.underlying9 g0
    obtain ⟨k1, q1, _, w1⟩ := DataW.trod_int Tryd.underlying38 g1
    obtain ⟨s3, q3, _, _⟩ := DataW.trod_string Tryd.underlying9 g3
    simp only [List.cons.injEq, and_true] at q0 q1 q3
    subst q0 q1 q3
    have e1 := wf_i64 w1
    have hd : ∃ d : List UInt8, Src W (fun _ => False) v2 d := by
      rcases Go.ChangeShapes.open_ints Tryd.underlying35 Tryd.underlying5 (by kernel_rfl) g2 with ⟨q6, _⟩ | ⟨x6, l6, c6, zs, q6, _, hl6, hm6, hz6, _, hcell6, hw6⟩
      · simp only [List.cons.injEq, and_true] at q6
        exact ⟨[], none, 0, q6, by simp, by simp, .inl ⟨rfl, rfl, rfl⟩⟩
      · simp only [List.cons.injEq, and_true] at q6
        obtain ⟨d, _, hd⟩ := src_row hl6 hm6 (by simpa using hz6) hcell6 hw6
        exact ⟨d, by rw [q6]; exact hd⟩
    obtain ⟨d, hd⟩ := hd
    exact ⟨⟨s0, k1, v2, d, s3⟩, rfl, e1.1, e1.2, hd⟩
theorem isOps_of {W : World} {s : Option Addr} {len cap : Nat} {d : DataW H} {p : List MemPlace}
    (h : DataW.Trod enc Tryd.prog W 0 (fun _ => true) true 22 (.slice s len cap) d p) : IsNds W s len cap := by
  obtain ⟨fuel, hf⟩ := h
  rcases Go.Deep.open_slice Tryd.underlying22 hf with ⟨hcs, _⟩ | ⟨a, l, c, m, n, D, Pl, hcs, _, hl, hm, hmm, _, hx⟩
  · simp [Value.cells] at hcs
    obtain ⟨rfl, rfl, rfl⟩ := hcs
    exact ⟨by omega, by simp, .inl rfl⟩
  · simp [Value.cells] at hcs
    obtain ⟨rfl, rfl, rfl⟩ := hcs
    refine ⟨hl, hm, ?_⟩
    by_cases h0 : len = 0
    · exact .inl h0
    · obtain ⟨y, o, spot⟩ := a
      have hread : ∀ i, i < len → ∃ (n : Nd) (cs' : List Value), cs' = n.cells ∧ -9223372036854775808 ≤ n.kind ∧ n.kind ≤ 9223372036854775807 ∧ Src W (fun _ => False) n.vd n.data ∧ ∀ j, j < 4 → W.cell? (((⟨y, o, spot⟩ : Addr).add (i * 4)).add j) = cs'[j]? := by
        intro i hi
        obtain ⟨cs', h1, h2⟩ := hx i (by rw [hmm]; simp; omega)
        rw [cells4] at h1
        obtain ⟨_, hlen, hcell⟩ := World.cells?_some h1
        obtain ⟨n, e, h3, h4, h5⟩ := nd_of h2
        exact ⟨n, cs', e, h3, h4, h5, fun j hj => hcell j hj⟩
      have hspot : spot = none := by
        obtain ⟨n, cs', e, _, _, _, hc⟩ := hread 0 (by omega)
        have := hc 0 (by omega)
        rw [e] at this
        simpa [Addr.add] using World.cell?_spot this
      subst hspot
      refine .inr ⟨y, o, rfl, fun i hi => ?_⟩
      obtain ⟨n, cs', e, h3, h4, h5, hc⟩ := hread i hi
      subst e
      have hc' : ∀ j, j < 4 → W.cell? ⟨y, o + i * 4 + j, none⟩ = n.cells[j]? := by
        intro j hj
        have := hc j hj
        rw [Addr.add_mid, Addr.add_mid] at this
        exact this
      exact ⟨n, hc' 0 (by omega), hc' 1 (by omega), hc' 2 (by omega), hc' 3 (by omega), h3, h4, h5⟩
end
/-- The number of a path; is it there? -/
def numOf (ps : List (List UInt8)) (s : List UInt8) : Nat := (ps.idxOf? s).getD 0
def isIn (ps : List (List UInt8)) (s : List UInt8) : Bool := (ps.idxOf? s).isSome
theorem idx_snoc (ps : List (List UInt8)) (s t : List UInt8) (hs : isIn ps s = false) : (ps ++ [s]).idxOf? t = if s = t then some ps.length else ps.idxOf? t := by
  have hn : s ∉ ps := by
    unfold isIn at hs
    rw [Option.isSome_eq_false_iff, Option.isNone_iff_eq_none] at hs
    exact List.idxOf?_eq_none_iff.1 hs
  by_cases h : s = t
  · rw [if_pos h]
    subst h
    rw [List.idxOf?_eq_some_iff]
    refine ⟨by simp, by simp, fun j hj => ?_⟩
    rw [List.getElem_append_left hj]
    intro e
    exact hn (by rw [← e]; exact List.getElem_mem _)
  · rw [if_neg h]
    cases hp : ps.idxOf? t with
    | none =>
      have := List.idxOf?_eq_none_iff.1 hp
      rw [List.idxOf?_eq_none_iff]
      simp [this, Ne.symm h]
    | some k =>
      rw [List.idxOf?_eq_some_iff] at hp ⊢
      obtain ⟨h1, h2, h3⟩ := hp
      refine ⟨by simp; omega, by rw [List.getElem_append_left h1]; exact h2, fun j hj => by rw [List.getElem_append_left (by omega)]; exact h3 j hj⟩
theorem isIn_snoc (ps : List (List UInt8)) (s t : List UInt8) (hs : isIn ps s = false) : isIn (ps ++ [s]) t = (decide (s = t) || isIn ps t) := by
  unfold isIn
  rw [idx_snoc ps s t hs]
  by_cases h : s = t <;> simp [h]
theorem numOf_snoc (ps : List (List UInt8)) (s t : List UInt8) (hs : isIn ps s = false) : numOf (ps ++ [s]) t = if s = t then ps.length else numOf ps t := by
  unfold numOf
  rw [idx_snoc ps s t hs]
  by_cases h : s = t <;> simp [h]
theorem isIn_get {ps : List (List UInt8)} {s : List UInt8} (h : isIn ps s = true) : ∃ hl : numOf ps s < ps.length, ps[numOf ps s] = s := by
  unfold isIn at h
  obtain ⟨k, hk⟩ := Option.isSome_iff_exists.1 h
  have e : numOf ps s = k := by unfold numOf; rw [hk]; rfl
  rw [List.idxOf?_eq_some_iff] at hk
  obtain ⟨h1, h2, _⟩ := hk
  exact ⟨by rw [e]; exact h1, by simp only [e]; exact h2⟩
theorem law : Maps.Keyed Tryd.prog 9 := Maps.string_keyed Tryd.underlying9
theorem zeroI (w : World) : (zeroValue 3).run Tryd.prog w = .ok (.int .i64 0) w := by kernel_rfl
/-- Block M is a map of numbers by paths. -/
def MapAt (w : World) (M : Nat) (ps : List (List UInt8)) : Prop :=
  ∃ D : DataW Unit, w.ownsMap Tryd.prog 9 (plainElem Tryd.prog 3) M ps.length D ∧ ∀ s : List UInt8, Maps.has D (.string s) = isIn ps s ∧ D.atKey (.string s) (.lit (.int .i64 0)) = .lit (.int .i64 (numOf ps s : Nat))
theorem MapAt.lt {w : World} {M : Nat} {ps : List (List UInt8)} (h : MapAt w M ps) : M < w.heap.size := h.choose_spec.1.lt
theorem MapAt.turn {w w' : World} {M : Nat} {ps : List (List UInt8)} {F : Nat → Prop} (h : MapAt w M ps) (ht : Turn F w w') (hF : ¬ F M) : MapAt w' M ps := by
  have hlt := h.lt
  obtain ⟨D, ⟨es, clock, hb, r⟩, h2⟩ := h
  exact ⟨D, ⟨es, clock, (ht.block M hlt hF).trans hb, r⟩, h2⟩
theorem MapAt.ok {w : World} {M : Nat} {ps : List (List UInt8)} (h : MapAt w M ps) (s : ByteArray) (hs : s.size ≤ maxLen) : (Instr.lookup 49 (.map (some M)) (.string s) true).run Tryd.prog w = .ok (.tuple #[.int .i64 (numOf ps s.data.toList : Nat), .bool (isIn ps s.data.toList)]) w := by
  obtain ⟨D, hD, h2⟩ := h
  obtain ⟨v, q, hr, hv⟩ := hD.look_ok law Tryd.underlying49 (zeroI w) (plainElem_int Tryd.underlying3 (by decide)) (keyOf_string_mk Tryd.underlying9 hs)
  rw [(h2 _).2] at hv
  obtain ⟨c, rfl, hc, _⟩ := plainElem_int_inv Tryd.underlying3 hv
  simp only [Prod.mk.injEq, DataW.lit.injEq, Lit.int.injEq, true_and] at hc
  rw [hr, (h2 _).1, hc.1]
theorem MapAt.get {w : World} {M : Nat} {ps : List (List UInt8)} (h : MapAt w M ps) (s : ByteArray) (hs : s.size ≤ maxLen) : (Instr.lookup 49 (.map (some M)) (.string s) false).run Tryd.prog w = .ok (.int .i64 (numOf ps s.data.toList : Nat)) w := by
  obtain ⟨D, hD, h2⟩ := h
  obtain ⟨c, hr, hc, _⟩ := hD.lookup_int law Tryd.underlying49 Tryd.underlying3 (zeroI w) (keyOf_string_mk Tryd.underlying9 hs)
  rw [(h2 _).2] at hc
  simp only [DataW.lit.injEq, Lit.int.injEq, true_and] at hc
  rw [hr, hc]
/-- A path more. -/
theorem MapAt.put {w : World} {M : Nat} {ps : List (List UInt8)} (h : MapAt w M ps) (s : ByteArray) (hs : s.size ≤ maxLen) (hn : isIn ps s.data.toList = false) (hl : ps.length < 100000) : ∃ w', (Instr.mapUpdate 49 (.map (some M)) (.string s) (.int .i64 (ps.length : Nat))).run Tryd.prog w = .ok () w' ∧ MapAt w' M (ps ++ [s.data.toList]) ∧ w.grownBy w' (some M) := by
  obtain ⟨D, hD, h2⟩ := h
  obtain ⟨w', hr, ho, hg⟩ := hD.update law Tryd.underlying49 (by unfold maxLen; omega) (keyOf_string_mk Tryd.underlying9 hs) (plainElem_int Tryd.underlying3 (a := (ps.length : Nat)) (by
    have a : IntKind.i64.min = -9223372036854775808 := rfl
    have b : IntKind.i64.max = 9223372036854775807 := rfl
    simp [Lit.wf]
    omega))
  refine ⟨w', hr, ⟨_, by rw [List.length_append]; exact ho, fun t => ?_⟩, hg⟩
  rw [isIn_snoc _ _ _ hn, numOf_snoc _ _ _ hn]
  by_cases e : s.data.toList = t
  · subst e
    rw [Maps.has_put_same hD.isMap (k := .string s.data.toList) trivial, Maps.atKey_put_same hD.isMap (k := .string s.data.toList) trivial]
    simp
  · rw [Maps.has_put_other (by intro h; injection h with h; exact e h.symm), Maps.atKey_put_other (by intro h; injection h with h; exact e h.symm), (h2 t).1, (h2 t).2]
    simp [e]
end Go.Proofs.YthkpcafbfgfjpaaDoor
