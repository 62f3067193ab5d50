
/-
  A text behind an owned row, with where it lies then; two owned rows beside a variable; the reference's pieces.
-/
import Derived.Test.YtegcdddfccmljaaZpV
import Derived.Lib.AppendStr
set_option linter.unusedVariables false
namespace Go.Proofs.Ytegcdddfccmljaa
open Go.RowKit Go.PlainAid
theorem strCells_bv (nm : List UInt8) : Lib.strCells (⟨nm.toArray⟩ : ByteArray) = bv nm := by simp [Lib.strCells, bv]
theorem append_text {ops : Array Oper} {rest : List Oper} {o : Oper} {a : Act} {Q : Exit → Act → World → Prop} (hgd : o.guard = none) (s x : Operand)
    (ho : o.op = .call { callee := .builtin .append, args := #[s, x], argTypes := #[22, 9] })
    (B : Nat) (wr : World) (v : Value) (acc nm : List UInt8) (hown : Own wr B v acc) (hne : acc ≠ []) (hs : a.eval s = v) (hx : a.eval x = .string ⟨nm.toArray⟩) (hlen : acc.length + nm.length ≤ 1000000000) (hB : B ≤ wr.heap.size)
    (h : ∀ v' w', Own w' B v' (acc ++ nm) → Gx wr w' v v' → wpList Try.prog ops Q rest (a.put o.dst v') w') :
    wpList Try.prog ops Q (o :: rest) a wr := by
  obtain ⟨i, hi, hz0, hz1, hz2⟩ := info_parts Try.info8
  have hsz : (⟨nm.toArray⟩ : ByteArray).size = nm.length := by simp [ByteArray.size]
  have hu := Try.underlying9
  have ht := Try.underlying22
  obtain ⟨v', w', hr, h2, h3, _⟩ := Lib.run_append_own_string (P := Try.prog) wr B 22 9 o.type 5 i ht hu hi hz0 hz1 hz2 v acc.length (bv acc) hown ⟨nm.toArray⟩ (by rw [hsz]; unfold maxLen; omega) (by rw [hsz]; omega) hB
  have hblk : v'.ownBlock = v.ownBlock ∨ v'.ownBlock = some wr.heap.size := by
    have hown2 := hown
    unfold Own at hown2
    rcases hown2.2 with ⟨rfl, hn⟩ | ⟨g, cap, cur, rfl, hb, hg, hn, hm, hc, ht2⟩
    · exact absurd (List.length_eq_zero_iff.mp hn) hne
    · by_cases hroom : acc.length + (⟨nm.toArray⟩ : ByteArray).size ≤ cap
      · have hr2 := Lib.run_append_room_string (P := Try.prog) wr 22 9 o.type 5 i ht hu hi hz1 g acc.length cap cur hg ⟨nm.toArray⟩ hroom (by simp at hc; omega)
        rw [hr2] at hr
        injection hr with e1 _
        left; rw [← e1]; rfl
      · have holds := World.ownsRow.cells hown2 (g := g) rfl
        have hr2 := Lib.run_append_grow_string (P := Try.prog) wr 22 9 o.type 5 i (.int .u8 0) ht hu hi hz0 ⟨g, 0, none⟩ acc.length cap (bv acc) (by rw [hz1]; simp [bv]) holds ⟨nm.toArray⟩ (by omega) (by rw [hsz]; omega) (by rw [hz2]; exact growslice_fits (by omega) (by rw [hsz]; omega))
        rw [hr2] at hr
        injection hr with e1 _
        right; rw [← e1]; rfl
  refine wpList_plain hgd fun K hK => ?_
  unfold Oper.wp execOp
  simp only [ho, resolve, invoke, builtin, Sem.run_bind, Sem.run_pure, Result.andThen_ok, List.map_toArray, List.map_cons, List.map_nil, hs, hx, hr]
  refine hK _ _ (h v' w' ?_ ⟨h3, hblk.imp id fun e => ⟨_, e, Nat.le_refl _⟩⟩)
  unfold Own
  rw [bv_append, List.length_append]
  rw [hsz, strCells_bv] at h2
  exact h2
theorem Own.grownBy {w w' : World} {B : Nat} {v : Value} {o : Option Nat} {l : List UInt8} (h : Own w B v l) (g : w.grownBy w' o) (hne : v.ownBlock = none ∨ v.ownBlock ≠ o) : Own w' B v l := by
  unfold Own at h ⊢
  refine ⟨h.1, ?_⟩
  rcases h.2 with hn | ⟨k, cap, cur, rfl, hB, hg, rest⟩
  · exact .inl hn
  · refine .inr ⟨k, cap, cur, rfl, hB, ?_, rest⟩
    rw [g.block k (Array.getElem?_eq_some_iff.1 hg).1 (by simpa [Value.ownBlock] using hne)]; exact hg
/-- Two rows and a file's variable, no two of them in one block. -/
structure Rz (w : World) (B Z : Nat) (v4 v5 : Value) (x c nm : List UInt8) (va : Option Addr) (D vc : Nat) : Prop where
  o4 : Own w B v4 x
  o5 : Own w B v5 c
  ne : v4.ownBlock = none ∨ v4.ownBlock ≠ v5.ownBlock
  z4 : v4.ownBlock ≠ some Z
  z5 : v5.ownBlock ≠ some Z
  c0 : w.cell? ⟨Z, 0, none⟩ = some (.string ⟨nm.toArray⟩)
  c1 : w.cell? ⟨Z, 1, none⟩ = some (.slice va D vc)
theorem ne_symm {a b : Option Nat} (h : a = none ∨ a ≠ b) : b = none ∨ b ≠ a := by
  rcases h with e | e
  · cases b with
    | none => exact .inl rfl
    | some k => exact .inr (by rw [e]; simp)
  · exact .inr (Ne.symm e)
theorem ne_next {w : World} {o o' p : Option Nat} (hn : Nx w o o') (h : o = none ∨ o ≠ p) (hp : ∀ k, p = some k → k < w.heap.size) : o' = none ∨ o' ≠ p := by
  rcases hn with e | ⟨k, e, hk⟩
  · rw [e]; exact h
  · right; rw [e]; intro e2; have := hp k e2.symm; omega
theorem Rz.left {w w' : World} {B Z : Nat} {v4 v5 v' : Value} {x c nm x' : List UInt8} {va : Option Addr} {D vc : Nat} (h : Rz w B Z v4 v5 x c nm va D vc) (ho : Own w' B v' x') (g : Gx w w' v4 v') : Rz w' B Z v' v5 x' c nm va D vc :=
  ⟨ho, h.o5.grownBy g.1 (ne_symm h.ne), ne_next g.2 h.ne (fun k e => (h.o5.base k e).2), g.2.far (World.block_lt_of_cell? _ _ h.c0) h.z4, h.z5,
    by rw [World.cell?_of_block (a := ⟨Z, 0, none⟩) (g.1.block Z (World.block_lt_of_cell? _ _ h.c0) (Ne.symm h.z4))]; exact h.c0,
    by rw [World.cell?_of_block (a := ⟨Z, 1, none⟩) (g.1.block Z (World.block_lt_of_cell? _ _ h.c0) (Ne.symm h.z4))]; exact h.c1⟩
theorem Rz.right {w w' : World} {B Z : Nat} {v4 v5 v' : Value} {x c nm c' : List UInt8} {va : Option Addr} {D vc : Nat} (h : Rz w B Z v4 v5 x c nm va D vc) (ho : Own w' B v' c') (g : Gx w w' v5 v') : Rz w' B Z v4 v' x c' nm va D vc :=
  ⟨h.o4.grownBy g.1 h.ne, ho, ne_symm (ne_next g.2 (ne_symm h.ne) (fun k e => (h.o4.base k e).2)), h.z4, g.2.far (World.block_lt_of_cell? _ _ h.c0) h.z5,
    by rw [World.cell?_of_block (a := ⟨Z, 0, none⟩) (g.1.block Z (World.block_lt_of_cell? _ _ h.c0) (Ne.symm h.z5))]; exact h.c0,
    by rw [World.cell?_of_block (a := ⟨Z, 1, none⟩) (g.1.block Z (World.block_lt_of_cell? _ _ h.c0) (Ne.symm h.z5))]; exact h.c1⟩
theorem Rz.below {w w' : World} {B Z : Nat} {v4 v5 : Value} {x c nm : List UInt8} {va : Option Addr} {D vc : Nat} (h : Rz w B Z v4 v5 x c nm va D vc) (hb : Below w.heap.size w w') : Rz w' B Z v4 v5 x c nm va D vc :=
  ⟨h.o4.stay hb, h.o5.stay hb, h.ne, h.z4, h.z5, by rw [hb.cell (p := ⟨Z, 0, none⟩) (World.block_lt_of_cell? _ _ h.c0)]; exact h.c0, by rw [hb.cell (p := ⟨Z, 1, none⟩) (World.block_lt_of_cell? _ _ h.c1)]; exact h.c1⟩
theorem Gx.belowB {w w' : World} {B : Nat} {v v' : Value} {l : List UInt8} (g : Gx w w' v v') (ho : Own w B v l) (hB : B ≤ w.heap.size) : Below B w w' := (Below.refl B w).grown g.1 hB (fun k hk => (ho.base k hk).1)
/-- Numbers that are built on the spot. -/
def nsObj (ns : List Nat) : Obj := .cells (ns.map fun (n : Nat) => Value.int .u64 (n : Int)).toArray 28
theorem nsObj_cell (w : World) (ns : List Nat) (hn : ∀ n ∈ ns, n ≤ 18446744073709551615) : ∀ i (h : i < ns.length), (w.alloc (nsObj ns)).cell? ⟨w.heap.size, i, none⟩ = some (.int .u64 (ns[i] : Nat)) ∧ ns[i] ≤ 18446744073709551615 := fun i h => by
  refine ⟨?_, hn _ (List.getElem_mem h)⟩
  unfold nsObj
  rw [World.cell?_alloc_at _ _ _ _ (by simp)]
  simp [h]
theorem rz_putL {w : World} {B Z : Nat} {v4 v5 : Value} {x c nm : List UInt8} {va : Option Addr} {D vc : Nat} (h : Rz w B Z v4 v5 x c nm va D vc) (hB : B ≤ w.heap.size) (hl : x.length ≤ 900000000) (ns : List Nat) (hns : ns.length ≤ 10) (hn : ∀ n ∈ ns, n ≤ 18446744073709551615) :
    Calls Try.prog 31 #[v4, .slice (some ⟨w.heap.size, 0, none⟩) ns.length ns.length] (w.alloc (nsObj ns)) fun e w' => ∃ v', e = .returned v' ∧ Rz w' B Z v' v5 (x ++ ns.flatMap (leN 2)) c nm va D vc ∧ Below B w w' := by
  have hb : Below w.heap.size w (w.alloc (nsObj ns)) := (Below.refl _ w).alloc (Nat.le_refl _) _
  have h' := h.below hb
  have hB' := Nat.le_trans hB hb.size
  refine (ref_put (w.alloc (nsObj ns)) B v4 x ns w.heap.size ns.length h'.o4 hB' hl (by omega) (Nat.le_refl _) (by omega) (nsObj_cell w ns hn) (fun e => by have := (h.o4.base _ e).2; omega)).mono ?_
  rintro e w' ⟨v', rfl, o', g'⟩
  exact ⟨v', rfl, h'.left o' g', (hb.mono hB).trans (g'.belowB h'.o4 hB')⟩
theorem rz_putR {w : World} {B Z : Nat} {v4 v5 : Value} {x c nm : List UInt8} {va : Option Addr} {D vc : Nat} (h : Rz w B Z v4 v5 x c nm va D vc) (hB : B ≤ w.heap.size) (hl : c.length ≤ 900000000) (ns : List Nat) (hns : ns.length ≤ 10) (hn : ∀ n ∈ ns, n ≤ 18446744073709551615) :
    Calls Try.prog 31 #[v5, .slice (some ⟨w.heap.size, 0, none⟩) ns.length ns.length] (w.alloc (nsObj ns)) fun e w' => ∃ v', e = .returned v' ∧ Rz w' B Z v4 v' x (c ++ ns.flatMap (leN 2)) nm va D vc ∧ Below B w w' := by
  have hb : Below w.heap.size w (w.alloc (nsObj ns)) := (Below.refl _ w).alloc (Nat.le_refl _) _
  have h' := h.below hb
  have hB' := Nat.le_trans hB hb.size
  refine (ref_put (w.alloc (nsObj ns)) B v5 c ns w.heap.size ns.length h'.o5 hB' hl (by omega) (Nat.le_refl _) (by omega) (nsObj_cell w ns hn) (fun e => by have := (h.o5.base _ e).2; omega)).mono ?_
  rintro e w' ⟨v', rfl, o', g'⟩
  exact ⟨v', rfl, h'.right o' g', (hb.mono hB).trans (g'.belowB h'.o5 hB')⟩
theorem rz_put4L {w : World} {B Z : Nat} {v4 v5 : Value} {x c nm : List UInt8} {va : Option Addr} {D vc : Nat} (h : Rz w B Z v4 v5 x c nm va D vc) (hB : B ≤ w.heap.size) (hl : x.length ≤ 900000000) (ns : List Nat) (hns : ns.length ≤ 10) (hn : ∀ n ∈ ns, n ≤ 18446744073709551615) :
    Calls Try.prog 30 #[v4, .slice (some ⟨w.heap.size, 0, none⟩) ns.length ns.length] (w.alloc (nsObj ns)) fun e w' => ∃ v', e = .returned v' ∧ Rz w' B Z v' v5 (x ++ ns.flatMap (leN 4)) c nm va D vc ∧ Below B w w' := by
  have hb : Below w.heap.size w (w.alloc (nsObj ns)) := (Below.refl _ w).alloc (Nat.le_refl _) _
  have h' := h.below hb
  have hB' := Nat.le_trans hB hb.size
  refine (ref_put4 (w.alloc (nsObj ns)) B v4 x ns w.heap.size ns.length h'.o4 hB' hl (by omega) (Nat.le_refl _) (by omega) (nsObj_cell w ns hn) (fun e => by have := (h.o4.base _ e).2; omega)).mono ?_
  rintro e w' ⟨v', rfl, o', g'⟩
  exact ⟨v', rfl, h'.left o' g', (hb.mono hB).trans (g'.belowB h'.o4 hB')⟩
theorem rz_put4R {w : World} {B Z : Nat} {v4 v5 : Value} {x c nm : List UInt8} {va : Option Addr} {D vc : Nat} (h : Rz w B Z v4 v5 x c nm va D vc) (hB : B ≤ w.heap.size) (hl : c.length ≤ 900000000) (ns : List Nat) (hns : ns.length ≤ 10) (hn : ∀ n ∈ ns, n ≤ 18446744073709551615) :
    Calls Try.prog 30 #[v5, .slice (some ⟨w.heap.size, 0, none⟩) ns.length ns.length] (w.alloc (nsObj ns)) fun e w' => ∃ v', e = .returned v' ∧ Rz w' B Z v4 v' x (c ++ ns.flatMap (leN 4)) nm va D vc ∧ Below B w w' := by
  have hb : Below w.heap.size w (w.alloc (nsObj ns)) := (Below.refl _ w).alloc (Nat.le_refl _) _
  have h' := h.below hb
  have hB' := Nat.le_trans hB hb.size
  refine (ref_put4 (w.alloc (nsObj ns)) B v5 c ns w.heap.size ns.length h'.o5 hB' hl (by omega) (Nat.le_refl _) (by omega) (nsObj_cell w ns hn) (fun e => by have := (h.o5.base _ e).2; omega)).mono ?_
  rintro e w' ⟨v', rfl, o', g'⟩
  exact ⟨v', rfl, h'.right o' g', (hb.mono hB).trans (g'.belowB h'.o5 hB')⟩
/-- The pieces come to what the document's archive has. -/
theorem own_pieces (x nm d : List UInt8) (z : Nat) (hz : padN (x.length + 30 + nm.length) = z) :
    x ++ [67324752].flatMap (leN 4) ++ [10, 0, 0, 0, 0].flatMap (leN 2) ++ [0, d.length, d.length].flatMap (leN 4) ++ [nm.length, z].flatMap (leN 2) ++ nm ++ List.replicate z 0 ++ d = x ++ ownB x.length nm d := by
  have e2 : leN 2 0 = [0, 0] := by decide
  have e4 : leN 4 0 = [0, 0, 0, 0] := by decide
  unfold ownB sizesB
  rw [hz]
  simp [e2, e4, List.replicate]
theorem list_pieces (c nm d : List UInt8) (p : Nat) :
    c ++ [33639248].flatMap (leN 4) ++ [10, 10, 0, 0, 0, 0].flatMap (leN 2) ++ [0, d.length, d.length].flatMap (leN 4) ++ [nm.length, 0, 0, 0, 0].flatMap (leN 2) ++ [0, p].flatMap (leN 4) ++ nm = c ++ listB p nm d := by
  have e2 : leN 2 0 = [0, 0] := by decide
  have e4 : leN 4 0 = [0, 0, 0, 0] := by decide
  unfold listB sizesB
  simp [e2, e4, List.replicate]
theorem last_pieces (x : List UInt8) (m s a : Nat) : x ++ [101010256, 0].flatMap (leN 4) ++ [m, m].flatMap (leN 2) ++ [s, a].flatMap (leN 4) ++ [0].flatMap (leN 2) = x ++ lastB m s a := by
  have e4 : leN 4 0 = [0, 0, 0, 0] := by decide
  unfold lastB
  simp [e4, List.replicate]
end Go.Proofs.Ytegcdddfccmljaa
