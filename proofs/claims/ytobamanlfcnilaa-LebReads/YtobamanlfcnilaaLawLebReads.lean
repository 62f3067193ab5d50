/-
  LebReads returns true for every row of bytes and every row of bools, and both read afterwards as they read before: no condition.
-/
import Derived.Test.YtobamanlfcnilaaRows
import Derived.Test.YtobamanlfcnilaaRefL
import Derived.Deep.RegionHeldLaw
import Derived.Laws.AppendOwnNone
import Derived.Deep.Slices
import Derived.WalkKit
import Derived.ProofKit
import Derived.OpenShut
import Derived.ShutString
import Derived.ChangeOld
import Derived.Below
set_option linter.unusedVariables false
namespace Go.Proofs.Ytobamanlfcnilaa
namespace LLebReads
open Go.ChangeShapes Go.WideShapes Go.ChangeAt Go.RowKit
/-- What the walk is told of a slice of integers that came in. -/
def IsRow (k : IntKind) (w : World) (a : Option Addr) (len cap : Nat) (zs : List Int) : Prop :=
  (a = none ∧ len = 0 ∧ cap = 0 ∧ zs = []) ∨
  ∃ x, a = some x ∧ len ≤ cap ∧ cap ≤ maxLen ∧ zs.length = cap ∧ (∀ i, i < zs.length → w.cell? (x.add i) = some (.int k (zs.getD i 0))) ∧ ∀ n ∈ zs, (Lit.int k n).wf = true
/-- What it is told of a slice of bools. -/
def IsOps (w : World) (a : Option Addr) (len cap : Nat) : Prop :=
  (a = none ∧ len = 0 ∧ cap = 0) ∨ ∃ x, a = some x ∧ len ≤ cap ∧ cap ≤ maxLen ∧ ∀ i, i < len → ∃ b, w.cell? (x.add i) = some (.bool b)
theorem isOps_of {H : Type} {enc : TypeId × Value → H} {W : World} {s : Option Addr} {len cap : Nat} {d : DataW H} {p : List MemPlace}
    (h : DataW.Trod enc Try.prog W 0 (fun _ => true) true 29 (.slice s len cap) d p) : IsOps W s len cap := by
  obtain ⟨fuel, hf⟩ := h
  rcases Go.Deep.open_slice1 Try.underlying29 (by kernel_rfl) hf with ⟨hcs, _⟩ | ⟨a, l, c, m, n, V, D, Pl, hcs, _, hl, hm, hmm, _, hx⟩
  · simp [Value.cells] at hcs
    obtain ⟨rfl, rfl, rfl⟩ := hcs
    exact .inl ⟨rfl, rfl, rfl⟩
  · simp [Value.cells] at hcs
    obtain ⟨rfl, rfl, rfl⟩ := hcs
    refine .inr ⟨_, rfl, hl, hm, fun i hi => ?_⟩
    obtain ⟨h1, h2⟩ := hx i (by rw [hmm]; simp; omega)
    obtain ⟨b, q, _⟩ := DataW.trod_bool Try.underlying4 h2
    simp only [List.cons.injEq, and_true] at q
    exact ⟨b, by rw [h1, q]⟩
/-- v is a slice of bytes, wherever it lies, and reads as l. -/
def ArgX (w : World) (v : Value) (l : List UInt8) : Prop :=
  ∃ a cap, v = .slice a l.length cap ∧ ((a = none ∧ l = [] ∧ cap = 0) ∨ ∃ x : Addr, a = some x ∧ ∀ j, j < l.length → w.cell? (x.add j) = some (.int .u8 ((l.getD j 0).toNat : Int)))
theorem append_new {ops : Array Oper} {rest : List Oper} {o : Oper} {a : Act} {Q : Exit → Act → World → Prop} (hgd : o.guard = none) (s x : Operand)
    (ho : o.op = .call { callee := .builtin .append, args := #[s, x], argTypes := #[28, 28] })
    (w : World) (v : Value) (l : List UInt8) (h : ArgX w v l) (hlen : l.length ≤ 100000) (hs : a.eval s = .slice (some ⟨w.heap.size, 0, none⟩) 0 0) (hx : a.eval x = v)
    (k : ∀ v' w', Own w' w.heap.size v' l → Below w.heap.size w w' → wpList Try.prog ops Q rest (a.put o.dst v') w') :
    wpList Try.prog ops Q (o :: rest) a (w.alloc (.cells #[] 5)) := by
  obtain ⟨i, hi, hz0, hz1, hz2⟩ := info_parts Try.info8
  have hown : (w.alloc (.cells #[] 5)).ownsRow w.heap.size 5 1 (.slice (some ⟨w.heap.size, 0, none⟩) 0 0) 0 [] := World.ownsRow_made w #[] 0 (Nat.le_refl _) (by unfold maxLen; omega) (by simp)
  have hb : Below w.heap.size w (w.alloc (.cells #[] 5)) := (Below.refl _ _).alloc (Nat.le_refl _) _
  obtain ⟨a0, cap, rfl, h⟩ := h
  rcases h with ⟨rfl, rfl, rfl⟩ | ⟨y, rfl, hc⟩
  · refine wpList_append_own_none (P := Try.prog) hgd s x 28 ho w.heap.size 5 i 1 Try.underlying28 hi _ 0 [] hs hown hx ?_
    exact k _ _ (by unfold Own; simpa [bv] using hown) hb
  · refine wpList_append_own (P := Try.prog) _ hgd s x 28 ho w.heap.size 5 i (.int .u8 0) 1 1 Try.underlying28 hi hz0 hz1 hz2 rfl (by decide) _ 0 [] hs hown y l.length cap (bv l) hx (by simp [bv]) ?_ ?_ ?_ ?_ (by simp) ?_
    · intro j u hj
      obtain ⟨c, hc1, rfl⟩ := bv_get l j u hj
      have hlt := (List.getElem?_eq_some_iff.1 hc1).1
      have hg := hc j hlt
      rw [World.cell?_alloc_lt _ _ _ (World.block_lt_of_cell? _ _ hg), hg]
      simp [List.getD, hc1]
    · intro u hu; unfold bv at hu; obtain ⟨c, _, rfl⟩ := List.mem_map.mp hu; rfl
    · unfold maxLen; omega
    · omega
    · intro v' w' h1 h2 _
      refine k v' w' ?_ (hb.grown h2 (by simp) (fun q hq => by simp [Value.ownBlock] at hq; omega))
      unfold Own
      simpa using h1
/-- Both readers, the reference's in block X. -/
structure St (w w3 : World) (R X : Nat) (v0 : Value) (l0 : List UInt8) (wr : World) (sl : Value) (l : List UInt8) (e : Int) : Prop where
  rd : Rd wr R l e
  c0 : wr.cell? ⟨X, 0, none⟩ = some sl
  c1 : wr.cell? ⟨X, 1, none⟩ = some (.int .i64 e)
  f0 : wr.frozen? ⟨X, 0, none⟩ = false
  f1 : wr.frozen? ⟨X, 1, none⟩ = false
  x1 : w3.heap.size ≤ X
  x2 : X < wr.heap.size
  r0 : w.heap.size ≤ R
  r1 : R < w3.heap.size
  g : w3.grownBy wr (some R)
  b : Below w.heap.size w wr
  t : Twin v0 l0 sl l e
theorem gb_below {w w1 w2 : World} {R : Nat} (h : w.grownBy w1 (some R)) (hb : Below w1.heap.size w1 w2) : w.grownBy w2 (some R) :=
  ⟨hb.os.trans h.os, hb.tape.trans h.tape, hb.output.trans h.output, Nat.le_trans h.size hb.size, fun k hk hn => (hb.block k (Nat.lt_of_lt_of_le hk h.size)).trans (h.block k hk hn)⟩
theorem rd_below {w w' : World} {R : Nat} {l : List UInt8} {e : Int} (h : Rd w R l e) (hb : Below w.heap.size w w') : Rd w' R l e :=
  h.on ⟨hb.os, hb.tape, hb.output, hb.size, fun k hk _ => hb.block k hk⟩
theorem St.stay {w w3 : World} {R X : Nat} {v0 : Value} {l0 : List UInt8} {w1 w2 : World} {sl : Value} {l : List UInt8} {e : Int} (h : St w w3 R X v0 l0 w1 sl l e) (hb : Below w1.heap.size w1 w2) : St w w3 R X v0 l0 w2 sl l e := by
  obtain ⟨rd, c0, c1, f0, f1, x1, x2, r0, r1, g, b, t⟩ := h
  exact ⟨rd_below rd hb, (hb.cell (p := ⟨X, 0, none⟩) x2).trans c0, (hb.cell (p := ⟨X, 1, none⟩) x2).trans c1, (hb.frozen (p := ⟨X, 0, none⟩) x2).trans f0, (hb.frozen (p := ⟨X, 1, none⟩) x2).trans f1, x1, Nat.lt_of_lt_of_le x2 hb.size, r0, r1, gb_below g hb, b.trans (hb.mono b.size), t⟩
theorem St.drew {w w3 : World} {R X : Nat} {v0 : Value} {l0 : List UInt8} {w1 : World} {sl : Value} {l : List UInt8} {e : Int} (h : St w w3 R X v0 l0 w1 sl l e) : St w w3 R X v0 l0 w1.drew sl l e := h.stay (Below.refl _ _).drew
/-- Behind a step of both. -/
theorem St.next {w w3 : World} {R X : Nat} {v0 : Value} {l0 : List UInt8} {w1 w2 : World} {sl sl' : Value} {l l' : List UInt8} {e e' : Int} (h : St w w3 R X v0 l0 w1 sl l e)
    (hg : ((w1.setCell ⟨X, 0, none⟩ sl').setCell ⟨X, 1, none⟩ (.int .i64 e')).grownBy w2 (some R)) (hr : Rd w2 R l' e') (ht : Twin v0 l0 sl' l' e') : St w w3 R X v0 l0 w2 sl' l' e' := by
  obtain ⟨rd, c0, c1, f0, f1, x1, x2, r0, r1, g, b, t⟩ := h
  have hXR : (⟨X, 0, none⟩ : Addr).block ≠ R := by show X ≠ R; omega
  have k1 : (w1.setCell ⟨X, 0, none⟩ sl').cell? ⟨X, 1, none⟩ = some (.int .i64 e) := by rw [World.cell?_setCell_other _ _ _ _ (by simp)]; exact c1
  have j0 : ((w1.setCell ⟨X, 0, none⟩ sl').setCell ⟨X, 1, none⟩ (.int .i64 e')).cell? ⟨X, 0, none⟩ = some sl' := by
    rw [World.cell?_setCell_other _ _ _ _ (by simp)]; exact World.cell?_setCell_same _ _ _ c0
  have j1 : ((w1.setCell ⟨X, 0, none⟩ sl').setCell ⟨X, 1, none⟩ (.int .i64 e')).cell? ⟨X, 1, none⟩ = some (.int .i64 e') := World.cell?_setCell_same _ _ _ k1
  have hblk : w2.heap[X]? = ((w1.setCell ⟨X, 0, none⟩ sl').setCell ⟨X, 1, none⟩ (.int .i64 e')).heap[X]? := hg.block X (by simpa using x2) (by simp; omega)
  have hs := hg.size
  simp only [World.size_setCell] at hs
  refine ⟨hr, hg.cell j0 (by simp; omega), hg.cell j1 (by simp; omega), ?_, ?_, x1, by omega, r0, r1, ?_, ?_, ht⟩
  · rw [World.frozen?_of_block (a := ⟨X, 0, none⟩) hblk, World.frozen?_setCell, World.frozen?_setCell]; exact f0
  · rw [World.frozen?_of_block (a := ⟨X, 1, none⟩) hblk, World.frozen?_setCell, World.frozen?_setCell]; exact f1
  · exact (gb_setNew (gb_setNew g X 0 x1 _) X 1 x1 _).trans hg
  · have hX : w.heap.size ≤ X := by omega
    exact ((b.setCell hX _).setCell hX _).grown hg (by simp; exact b.size) (fun k hk => by simp at hk; omega)
theorem rd_off {w : World} {R X : Nat} {l : List UInt8} {e z : Int} {sl : Value} (h : Rd w R l e) (hs : IsSl sl) (c0 : w.cell? ⟨X, 0, none⟩ = some sl) (c1 : w.cell? ⟨X, 1, none⟩ = some (.int .i64 z)) (hX : X ≠ R) (y0 y1 : Value) :
    Rd ((w.setCell ⟨X, 0, none⟩ y0).setCell ⟨X, 1, none⟩ y1) R l e := by
  obtain ⟨h1, ⟨v, h2, ⟨a, cap, rfl, h7, h8, h9⟩⟩, h4, h5, h6⟩ := h
  obtain ⟨a1, n1, p1, rfl⟩ := hs
  have far : ∀ (q : Addr) (u : Value), w.cell? q = some u → q ≠ ⟨X, 0, none⟩ → q ≠ ⟨X, 1, none⟩ → ((w.setCell ⟨X, 0, none⟩ y0).setCell ⟨X, 1, none⟩ y1).cell? q = some u := by
    intro q u hq n0 n1
    rw [World.cell?_setCell_other _ _ _ _ (fun e => n1 e.symm), World.cell?_setCell_other _ _ _ _ (fun e => n0 e.symm)]; exact hq
  refine ⟨by simpa using h1, ⟨_, far _ _ h2 (by simp <;> omega) (by simp), ⟨a, cap, rfl, h7, h8, ?_⟩⟩, far _ _ h4 (by simp) (by simp <;> omega), ?_, ?_⟩
  · rcases h9 with h9 | ⟨g, o, h10, h11, h12, h13⟩
    · exact .inl h9
    · refine .inr ⟨g, o, h10, h11, by simpa using h12, fun j hj => far _ _ (h13 j hj) ?_ ?_⟩
      · intro e; have h := h13 j hj; rw [e, c0] at h; injection h with h; cases h
      · intro e; have h := h13 j hj; rw [e, c1] at h; injection h with h; injection h with h; cases h
  · rw [World.frozen?_setCell, World.frozen?_setCell]; exact h5
  · rw [World.frozen?_setCell, World.frozen?_setCell]; exact h6
set_option maxHeartbeats 8000000 in
set_option maxRecDepth 20000 in
theorem core (w : World) (v : Value) (l : List UInt8) (h : ArgX w v l) (hl : l.length ≤ 4096) (b : Option Addr) (len cap : Nat) (hs : IsOps w b len cap) (hlen : len ≤ 64) :
    Calls Try.prog 4 #[v, .slice b len cap] w fun e w' => e = .returned (.bool true) ∧ Below w.heap.size w w' := by
  have HA : Hid (ArgX w v l) := h
  have hlI : ¬ 4096 < (l.length : Int) := by omega
  have hlenI : ¬ 64 < (len : Int) := by omega
  obtain ⟨a0, cap0, hv, _⟩ := h
  have HSG : Hid (IsOps w b len cap) := hs
  clear hs
  subst hv
  go_enter Try.func4, Try.ntmps4
  go_wp2_with (at_builtin; refine append_new rfl _ _ rfl w _ l HA.out (by omega) rfl rfl ?_)
  intro v1 w1 o1 b1
  have hR := leb_Read l v1 w1 (o1.arg (by omega))
  go_wp2_with fail
  refine hR.mono ?_
  rintro x w2 ⟨R, rfl, hrd, hRR, b2⟩
  have bl2 := b1.trans (b2.mono b1.size)
  have hA2 : ArgX w2 (.slice a0 l.length cap0) l := by
    obtain ⟨a, c, e, h⟩ := HA.out
    refine ⟨a, c, e, ?_⟩
    rcases h with h | ⟨y, h1, h2⟩
    · exact .inl h
    · exact .inr ⟨y, h1, fun j hj => by have := h2 j hj; rw [bl2.cell (World.block_lt_of_cell? _ _ this)]; exact this⟩
  clear hR o1
  go_wp2_with (at_builtin; refine append_new rfl _ _ rfl w2 _ l hA2 (by omega) rfl rfl ?_)
  intro v3 w3 o3 b3
  have bl3 := bl2.trans (b3.mono bl2.size)
  obtain ⟨a3, cap3, hv3, hb3⟩ := o3.slice
  have hRlt : R < w3.heap.size := Nat.lt_of_lt_of_le hrd.lt b3.size
  have HV : Hid (∀ wx, w3.grownBy wx (some R) → Rs wx v3 l) := by
    intro wx hg
    refine ⟨a3, cap3, hv3, ?_⟩
    by_cases hne : l = []
    · subst hne
      refine ⟨by simp, ?_, .inl rfl⟩
      rw [hv3] at o3
      unfold Own at o3
      rcases o3.2 with ⟨e, _⟩ | ⟨g, c, cur, e, _, _, _, hm, _⟩
      · injection e with _ _ e; subst e; unfold maxLen; omega
      · injection e with _ _ e; subst e; exact hm
    · obtain ⟨g, c, e, k1, k2, k3, k4, k5, _⟩ := o3.form hne
      rw [hv3] at e
      injection e with e1 e2 e3
      subst e1 e3
      refine ⟨k3, k4, .inr ⟨g, 0, rfl, Nat.lt_of_lt_of_le k2 hg.size, fun j hj => ?_⟩⟩
      have := k5 j hj
      rw [Nat.zero_add]
      refine (hg.cell this (by simp; have := hrd.lt; omega)).trans ?_
      simp [List.getD, List.getElem?_eq_getElem hj]
  subst hv3
  have HST0 : Hid (St w w3 R w3.heap.size (.slice a3 l.length cap3) l (w3.alloc (.cells #[.slice a3 l.length cap3, .int .i64 0] 33)) (.slice a3 l.length cap3) l 0) := by
    have hrd3 := rd_below hrd b3
    refine ⟨hrd3.on (World.grownBy_alloc _ _ _), by go_simp, by go_simp, by go_simp, by go_simp, Nat.le_refl _, by simp, ?_, hRlt, World.grownBy_alloc _ _ _, bl3.alloc bl3.size _, .inl ⟨rfl, 0, by simp, Cut.refl l ⟨_, _, _, rfl⟩⟩⟩
    exact Nat.le_trans b1.size hRR
  have HBL : Hid (Below w.heap.size w w3) := bl3
  clear hrd hRR b2 bl2 b1 hA2 o3 b3 bl3 hb3 hRlt
  go_wp2
  go_loopw [7, 8, 9] (fun vi _ _ wr => ∃ (i : Nat) (sl : Value) (lp : List UInt8) (e : Int), i ≤ len ∧ vi = .int .i64 i ∧ Hid (St w w3 R w3.heap.size (.slice a3 l.length cap3) l wr sl lp e)) (fun vi _ _ _ => len - (intOf vi).toNat)
  case atStart => exact ⟨0, _, _, _, by omega, rfl, HST0⟩
  case round =>
    obtain ⟨i, sl, lp, e, hi, rfl, HST⟩ := hrel
    by_cases hlt : i < len
    · have hltI : (i : Int) < (len : Int) := by omega
      obtain ⟨a4, n4, cap4, hsl4⟩ := HST.out.t.isSl
      subst hsl4
      have c0 := HST.out.c0
      have c1 := HST.out.c1
      obtain ⟨y, o, rfl, hcl, hcm, sg, hsg0⟩ : ∃ y o, b = some ⟨y, o, none⟩ ∧ len ≤ cap ∧ cap ≤ maxLen ∧ ∃ sg, w.cell? ⟨y, o + i, none⟩ = some (.bool sg) := by
        rcases HSG.out with ⟨_, h, _⟩ | ⟨⟨y, o, spot⟩, h1, h2, h3, h4⟩
        · omega
        · obtain ⟨sg0, hsg0⟩ := h4 0 (by omega)
          have hspot : spot = none := by simpa [Addr.add] using World.cell?_spot hsg0
          subst hspot
          obtain ⟨sg, hsg⟩ := h4 i hlt
          rw [add_at] at hsg
          exact ⟨y, o, h1, h2, h3, sg, hsg⟩
      have hcapm : cap ≤ 9223372036854775807 := by unfold maxLen at hcm; omega
      have hsg : wr.cell? ⟨y, o + i, none⟩ = some (.bool sg) := by
        rw [HST.out.b.cell (p := ⟨y, o + i, none⟩) (World.block_lt_of_cell? _ _ hsg0)]; exact hsg0
      clear hsg0
      cases sg
      · go_wp2_with fail
        refine (ref_U_all _ (.slice a3 l.length cap3) l (HV.out _ HST.out.g) (by omega) _ lp e HST.out.t).mono ?_
        rintro x w5 ⟨sl', rfl, ht, b5⟩
        have HS5 : Hid (St w w3 R w3.heap.size (.slice a3 l.length cap3) l w5 (.slice a4 n4 cap4) lp e) := HST.out.stay b5
        obtain ⟨_, c05, c15, f05, f15, _, _, _, _, _, _, _⟩ := HS5.out
        have hrd5 := rd_off HS5.out.rd HS5.out.t.isSl c05 c15 (by have := HS5.out.x1; have := HS5.out.r1; omega) sl' (.int .i64 (stepU lp e).2.1)
        have hL5 := leb_U_all R _ _ _ hrd5
        obtain ⟨a5, n5, cap5, hsl5⟩ := ht.isSl
        subst hsl5
        generalize (stepU lp e).1 = l6 at *
        generalize (stepU lp e).2.1 = e6 at *
        generalize (stepU lp e).2.2 = z6 at *
        have HT5 : Hid (Twin (.slice a3 l.length cap3) l (.slice a5 n5 cap5) l6 e6) := ht
        clear ht hrd5 b5 c0 c1 hsg HST
        go_wp2_with fail
        refine hL5.mono ?_
        rintro x w6 ⟨rfl, hr6, hg6⟩
        have HS6 : Hid (St w w3 R w3.heap.size (.slice a3 l.length cap3) l w6 (.slice a5 n5 cap5) l6 e6) := HS5.out.next hg6 hr6 HT5.out
        clear hr6 hg6 hL5 c05 c15 f05 f15 HS5 HT5
        have HS6d : Hid (St w w3 R w3.heap.size (.slice a3 l.length cap3) l w6.drew (.slice a5 n5 cap5) l6 e6) := HS6.out.drew
        have c06 := HS6d.out.c0
        have c16 := HS6d.out.c1
        have hRF := leb_Fail R _ _ _ HS6d.out.rd
        have hRL := leb_Left R _ _ _ HS6d.out.rd
        have hXL := ref_Left_all _ (.slice a3 l.length cap3) l (HV.out _ HS6d.out.g) _ _ _ HS6d.out.t
        go_wp2_with fail
        go_region_held_law (fun w' => w'.cell? ⟨w3.heap.size, 0, none⟩ = some (.slice a5 n5 cap5) ∧ w'.cell? ⟨w3.heap.size, 1, none⟩ = some (.int .i64 e6))
          (first | assumption | exact ⟨by assumption, by assumption⟩ | go_keep)
          (first
            | (go_at_call 13; refine hRF.mono ?_; rintro x w7 ⟨rfl, rfl⟩)
            | (go_at_call 14; refine hRL.mono ?_; rintro x w7 ⟨rfl, rfl⟩)
            | (go_at_call 15; refine hXL.mono ?_; rintro x w8 ⟨rfl, b8⟩; have HS8 := HS6d.out.stay b8; have HS8b : Hid _ := HS8; have g0 := HS8.c0; have g1 := HS8.c1; clear HS8 b8))
        all_goals go_wp2
        go_roundw
        case rel => exact ⟨i + 1, _, _, _, by omega, by go_num, HS8b⟩
        case measure => (simp [intOf] <;> omega)
      · go_wp2_with fail
        refine (ref_S_all _ (.slice a3 l.length cap3) l (HV.out _ HST.out.g) (by omega) _ lp e HST.out.t).mono ?_
        rintro x w5 ⟨sl', rfl, ht, b5⟩
        have HS5 : Hid (St w w3 R w3.heap.size (.slice a3 l.length cap3) l w5 (.slice a4 n4 cap4) lp e) := HST.out.stay b5
        obtain ⟨_, c05, c15, f05, f15, _, _, _, _, _, _, _⟩ := HS5.out
        have hrd5 := rd_off HS5.out.rd HS5.out.t.isSl c05 c15 (by have := HS5.out.x1; have := HS5.out.r1; omega) sl' (.int .i64 (stepS lp e).2.1)
        have hL5 := leb_S_all R _ _ _ hrd5
        obtain ⟨a5, n5, cap5, hsl5⟩ := ht.isSl
        subst hsl5
        generalize (stepS lp e).1 = l6 at *
        generalize (stepS lp e).2.1 = e6 at *
        generalize (stepS lp e).2.2 = z6 at *
        have HT5 : Hid (Twin (.slice a3 l.length cap3) l (.slice a5 n5 cap5) l6 e6) := ht
        clear ht hrd5 b5 c0 c1 hsg HST
        go_wp2_with fail
        refine hL5.mono ?_
        rintro x w6 ⟨rfl, hr6, hg6⟩
        have HS6 : Hid (St w w3 R w3.heap.size (.slice a3 l.length cap3) l w6 (.slice a5 n5 cap5) l6 e6) := HS5.out.next hg6 hr6 HT5.out
        clear hr6 hg6 hL5 c05 c15 f05 f15 HS5 HT5
        have HS6d : Hid (St w w3 R w3.heap.size (.slice a3 l.length cap3) l w6.drew (.slice a5 n5 cap5) l6 e6) := HS6.out.drew
        have c06 := HS6d.out.c0
        have c16 := HS6d.out.c1
        have hRF := leb_Fail R _ _ _ HS6d.out.rd
        have hRL := leb_Left R _ _ _ HS6d.out.rd
        have hXL := ref_Left_all _ (.slice a3 l.length cap3) l (HV.out _ HS6d.out.g) _ _ _ HS6d.out.t
        go_wp2_with fail
        go_region_held_law (fun w' => w'.cell? ⟨w3.heap.size, 0, none⟩ = some (.slice a5 n5 cap5) ∧ w'.cell? ⟨w3.heap.size, 1, none⟩ = some (.int .i64 e6))
          (first | assumption | exact ⟨by assumption, by assumption⟩ | go_keep)
          (first
            | (go_at_call 13; refine hRF.mono ?_; rintro x w7 ⟨rfl, rfl⟩)
            | (go_at_call 14; refine hRL.mono ?_; rintro x w7 ⟨rfl, rfl⟩)
            | (go_at_call 15; refine hXL.mono ?_; rintro x w8 ⟨rfl, b8⟩; have HS8 := HS6d.out.stay b8; have HS8b : Hid _ := HS8; have g0 := HS8.c0; have g1 := HS8.c1; clear HS8 b8))
        all_goals go_wp2
        go_roundw
        case rel => exact ⟨i + 1, _, _, _, by omega, by go_num, HS8b⟩
        case measure => (simp [intOf] <;> omega)
    · have hltI : ¬ (i : Int) < (len : Int) := by omega
      go_wp2_with fail
      refine (alive03 _).mono ?_
      rintro x w9 ⟨rfl, b9⟩
      go_wp2
      go_ret
      exact ⟨rfl, HST.out.b.trans (b9.mono HST.out.b.size)⟩
theorem wf_u8 {n : Int} (h : (Lit.int .u8 n).wf = true) : 0 ≤ n ∧ n ≤ 255 := by
  have a : IntKind.u8.min = 0 := rfl
  have b : IntKind.u8.max = 255 := rfl
  simp [Lit.wf] at h
  omega
theorem row_arg {w : World} {a : Option Addr} {len cap : Nat} {zs : List Int} (h : IsRow .u8 w a len cap zs) : ∃ l : List UInt8, l.length = len ∧ ArgX w (.slice a len cap) l := by
  rcases h with ⟨rfl, rfl, rfl, rfl⟩ | ⟨x, rfl, h1, h2, h3, hc, hw⟩
  · exact ⟨[], rfl, none, 0, rfl, .inl ⟨rfl, rfl, rfl⟩⟩
  · have hll : ((zs.take len).map fun z => b8 z.toNat).length = len := by simp; omega
    refine ⟨(zs.take len).map fun z => b8 z.toNat, hll, some x, cap, by rw [hll], .inr ⟨x, rfl, fun j hj => ?_⟩⟩
    rw [hll] at hj
    have hjz : j < zs.length := by omega
    have hb := hw (zs.getD j 0) (by rw [List.getD, List.getElem?_eq_getElem hjz]; simp)
    have hb2 := wf_u8 hb
    rw [hc j hjz]
    have e2 : ((zs.take len).map fun z => b8 z.toNat).getD j 0 = b8 (zs.getD j 0).toNat := by
      simp [List.getD, List.getElem?_eq_getElem hjz, hj]
    rw [e2, ofNat_toNat (by omega)]
    congr 2
    omega
theorem walk (w : World) (s0 : Option Addr) (len0 cap0 : Nat) (z0 : List Int) (h : IsRow .u8 w s0 len0 cap0 z0) (s1 : Option Addr) (len1 cap1 : Nat) (h1 : IsOps w s1 len1 cap1) :
    Calls Try.prog 4 #[.slice s0 len0 cap0, .slice s1 len1 cap1] w fun e w' => e = .returned (.bool true) ∧ Below w.heap.size w w' := by
  have hm0 : len0 ≤ 9223372036854775807 := by
    rcases h with ⟨_, rfl, _, _⟩ | ⟨_, _, k1, k2, _⟩
    · omega
    · unfold maxLen at k2; omega
  have hm1 : len1 ≤ 9223372036854775807 := by
    rcases h1 with ⟨_, rfl, _⟩ | ⟨_, _, k1, k2, _⟩
    · omega
    · unfold maxLen at k2; omega
  by_cases hl : len0 ≤ 4096
  · have hlI : ¬ 4096 < (len0 : Int) := by omega
    by_cases hl1 : len1 ≤ 64
    · obtain ⟨l, e, ha⟩ := row_arg h
      exact core w _ l ha (by omega) s1 len1 cap1 h1 hl1
    · have hl1I : 64 < (len1 : Int) := by omega
      clear h h1
      go_enter Try.func4, Try.ntmps4
      go_wp2
      go_ret
      exact ⟨rfl, Below.refl _ _⟩
  · have hlI : 4096 < (len0 : Int) := by omega
    clear h h1
    go_enter Try.func4, Try.ntmps4
    go_wp2
    go_ret
    exact ⟨rfl, Below.refl _ _⟩
theorem own : ownKnob Try.prog.godebug = none := by kernel_rfl
theorem laidOut : laidOutB Try.prog = true := by kernel_rfl
set_option maxRecDepth 100000 in
theorem lifted (os : Os) (started : os.Started) (H : Type) (enc : TypeId × Value → H) :
    ReturnsInHanded {} Try.checked os 4 .any (Rows.lebReadsSpec.pre6 enc Try.prog Try.f4 Rows.lebReadsRow.domain false) (Rows.lebReadsSpec.post enc Try.prog Try.f4 false true false false) := by
  refine returnsInHanded_of_change (C := Try.checked) own started (by kernel_rfl) Try.func4
    (ChangeSpec.witness6 (enc := enc) (C := Try.checked) false ⟨#[], #[.slice none 0 0, .slice none 0 0], []⟩ 8 (by kernel_rfl) (by kernel_rfl) (by kernel_rfl) (by kernel_rfl)) ?_
  intro W base args ds gs before hval0 hW hcnd _
  have hval : ∀ (j : Nat) t v, Try.f4.params[j]? = some t → args[j]? = some v → Value.okWide Try.prog W .any base t v := hval0
  have hW' := hW
  obtain ⟨p, q, hA0, hV, rfl, hfz, hnd⟩ := hW
  have hA : DataW.TrodAll enc Try.prog W 0 (fun _ => true) true Try.f4.params.toList args.toList ds p := hA0
  rw [Try.params4] at hA hval
  obtain ⟨v0, vs0, d0, ds0, p0, q0, hargs, rfl, rfl, h0, r0⟩ := trodAll_cons hA
  obtain ⟨v1, vs1, d1, ds1, p1, q1, rfl, rfl, rfl, h1, r1⟩ := trodAll_cons r0
  obtain ⟨rfl, rfl, rfl⟩ := trodAll_nil r1
  obtain rfl : args = #[v0, v1] := by cases args; simp_all
  obtain ⟨rfl, rfl⟩ := trodVars_none hV
  have k0 := h0
  have lt0 : ∀ x ∈ p0, x.block < W.heap.size := by obtain ⟨m, hm⟩ := k0; exact DataW.trod_lt m _ _ _ hm
  have k1 := h1
  have lt1 : ∀ x ∈ p1, x.block < W.heap.size := by obtain ⟨m, hm⟩ := k1; exact DataW.trod_lt m _ _ _ hm
  obtain ⟨s0, len0, cap0, rfl⟩ := okWide_slice Try.underlying28 (hval 0 28 v0 rfl rfl)
  obtain ⟨z0, w0⟩ : ∃ zs, IsRow .u8 W s0 len0 cap0 zs := by
    obtain ⟨fuel, hf⟩ := h0
    rcases open_ints Try.underlying28 Try.underlying5 (by kernel_rfl) hf with ⟨hcs, _⟩ | ⟨x, l, c, zs, hcs, _, hl, hm, hz, _, hcell, hwz⟩
    · simp [Value.cells] at hcs
      obtain ⟨rfl, rfl, rfl⟩ := hcs
      exact ⟨[], .inl ⟨rfl, rfl, rfl, rfl⟩⟩
    · simp [Value.cells] at hcs
      obtain ⟨rfl, rfl, rfl⟩ := hcs
      exact ⟨zs, .inr ⟨_, rfl, hl, hm, by simpa using hz, hcell, hwz⟩⟩
  obtain ⟨s1, len1, cap1, rfl⟩ := okWide_slice Try.underlying29 (hval 1 29 v1 rfl rfl)
  have w1 := isOps_of h1
  clear hA0 hval0
  refine (walk W s0 len0 cap0 z0 w0 s1 len1 cap1 w1).mono fun e W' ⟨he, bel⟩ => ?_
  subst he
  exact ⟨_, rfl, _, _, _, [], _, [], hW', trodAll_mk1 (shut_bool Try.underlying4 _), (trodAll_cons_mk (Below.trod laidOut (by kernel_rfl) (of_decide_eq_true (by kernel_rfl)) k0 bel lt0) (trodAll_cons_mk (Below.trod laidOut (by kernel_rfl) (of_decide_eq_true (by kernel_rfl)) k1 bel lt1) trodAll_mk0)), rfl, bel.frame _, fun h => by cases h⟩

theorem over : Rows.lebReadsRow.holds Try.pinned (OpenSpec.ofChange Rows.lebReadsSpec) :=
  OpenClaim.holds_of_wide 4 Try.f4 rfl rfl rfl rfl rfl rfl rfl ⟨rfl, rfl, rfl, rfl, rfl⟩ rfl rfl rfl rfl rfl (by kernel_rfl) Try.func4 (by kernel_rfl)
    (of_decide_eq_true (by kernel_rfl)) (by unfold Func.isWrapper; first | (rw [if_pos (by decide +kernel)]; kernel_rfl) | (rw [if_neg (by decide +kernel)]; exact ⟨rfl, rfl⟩))
    (fun os started H enc _ => lifted os started H enc)
end LLebReads
theorem LebReads_proved : Rows.LebReadsSaid := LLebReads.over
end Go.Proofs.Ytobamanlfcnilaa
