/-
  Copy keeps its contract.
-/
import Derived.Test.YtleejifhpgokiaaDoorFsT
import Derived.Deep.CutRange
set_option linter.unusedVariables false
namespace Go.Proofs.YtleejifhpgokiaaDoor
open Go.RowKit Go.PlainAid
/-- In Copy's loop. -/
structure Cp (w wr : World) (L : List Nd) (i : Nat) (v : Value) (l : List Nd) : Prop where
  at_ : CopyAt wr w.heap.size v l
  same : l.map strip = (L.take i).map strip
  below : Below w.heap.size w wr
def CpJ (w wr : World) (L : List Nd) (i : Nat) (v : Value) : Prop := ∃ l, Cp w wr L i v l
theorem own_apart {w : World} {B C : Nat} {v u : Value} {t e : TypeId} {s q n m : Nat} {xs ys : List Value} (h : w.ownsRow B t s v n xs) (k : ∀ g, u.ownBlock = some g → w.heap.size ≤ g) : ∀ g, u.ownBlock = some g → v.ownBlock ≠ some g := fun g hg e => by
  have := (World.ownsRow.lt h g e).2
  have := k g hg
  omega
set_option maxHeartbeats 4000000 in
set_option maxRecDepth 20000 in
theorem ref_Copy (w : World) (a : Option Addr) (cap : Nat) (L : List Nd) (hcap : L.length ≤ cap) (hcm : cap ≤ maxLen) (h : NdsAt w a L) (h400 : L.length ≤ 400) (hd : ∀ n ∈ L, n.data.length ≤ 140737488355328) :
    Calls Tryd.prog 20 #[.slice a L.length cap] w fun e w' => ∃ v, e = .returned v ∧ CpJ w w' L L.length v := by
  have hc2 : cap ≤ 9223372036854775807 := by unfold maxLen at hcm; omega
  have HL : Hid (∀ i (hi : i < L.length), ∃ y o, a = some ⟨y, o, none⟩ ∧ IsNd w y (o + i * 4) L[i]) := fun i hi => by
    rcases h.at_ with e | ⟨y, o, e, hx⟩
    · rw [e] at hi; simp at hi
    · exact ⟨y, o, e, hx i hi⟩
  have HD := hide hd
  clear h hcm hd
  go_enter Tryd.func20, Tryd.ntmps20
  go_wp2
  go_loopw [3, 4] (fun v vi wr => ∃ i : Nat, i ≤ L.length ∧ vi = .int .i64 i ∧ Hid (CpJ w wr L i v)) (fun _ vi _ => L.length - (intOf vi).toNat)
  case atStart => exact ⟨0, by omega, rfl, hide ⟨[], CopyAt.nil _ _, rfl, Below.refl _ _⟩⟩
  case round =>
    obtain ⟨i, hi, rfl, HJ⟩ := hrel
    obtain ⟨l, J⟩ := HJ
    by_cases hlt : i < L.length
    · have hltI : (i : Int) < (L.length : Int) := by omega
      obtain ⟨y, o, rfl, I0⟩ := HL.out i hlt
      obtain ⟨c0, c1, c2, c3, _, _, hsrc⟩ := I0.stay J.below
      have hdl := HD.out L[i] (List.getElem_mem hlt)
      have HT : Hid (L.take (i + 1) = L.take i ++ [L[i]]) := take_more hlt
      have hll : l.length ≤ 400 := by have := congrArg List.length J.same; rw [List.length_map, List.length_map, List.length_take] at this; omega
      obtain ⟨n, hn⟩ : ∃ n, L[i] = n := ⟨_, rfl⟩
      rw [hn] at c0 c1 c2 c3 hsrc hdl HT
      have HSR := hide hsrc
      obtain ⟨da, dc, hvd, q1, q2, q3⟩ := hsrc
      rw [hvd] at c2
      have HVD := hide hvd
      have HJ := hide J
      have HX0 := hide (NdH (w := wr) hvd)
      have HB0 := hide (below_box wr (.cells #[.string n.path, .int .i64 n.kind, .slice da n.data.length dc, .string n.to] 40))
      have HAP : Hid ((∀ g, u3.ownBlock = some g → g < wr.heap.size) ∧ ∀ m ∈ l, ∀ g, m.vd.ownBlock = some g → g < wr.heap.size) := ⟨fun g hg => (World.ownsRow.lt J.at_.row g hg).2, fun m hm g hg => (World.ownsRow.lt (J.at_.dat m hm).1 g hg).2⟩
      clear J I0 hn q1 q2 q3 hvd
      go_upto_region 6 with fail
      clear c0 c1 c2 c3
      have HS1 := hide (HSR.out.turn (Turn.of_below HB0.out))
      have HC1 := hide (HJ.out.at_.stay HB0.out)
      have HB1 : Hid (Below w.heap.size w (wr.alloc (.cells #[.string n.path, .int .i64 n.kind, .slice da n.data.length dc, .string n.to] 40))) := HJ.out.below.trans (HB0.out.mono HJ.out.below.size)
      have HXB : Hid (w.heap.size ≤ wr.heap.size) := HJ.out.below.size
      generalize wr.alloc (.cells #[.string n.path, .int .i64 n.kind, .slice da n.data.length dc, .string n.to] 40) = w1 at *
      generalize wr.heap.size = X at *
      have x2 : ∀ o, (w1.alloc o).cell? ⟨X, 2, none⟩ = some (.slice da n.data.length dc) := fun o => by
        have := HX0.out.cells.c2
        rw [HVD.out] at this
        rw [World.cell?_alloc_lt _ _ _ (World.block_lt_of_cell? _ _ this)]; exact this
      go_wp2_with (at_builtin; refine append_bytes rfl _ _ rfl w1 _ n.data HS1.out rfl (by rw [HVD.out]; rfl) hdl ?_)
      intro vb w2 hob hb2
      have HX2 := hide (HX0.out.heap (hb2.block _ HX0.out.lt))
      have HXL : Hid (X < w1.heap.size) := HX0.out.lt
      have HC2 := hide (HC1.out.stay hb2)
      have HB2 : Hid (Below w.heap.size w w2) := HB1.out.trans (hb2.mono HB1.out.size)
      have HOB := hide hob
      obtain ⟨ba, bn, bc, hbv⟩ : ∃ ba bn bc, vb = .slice ba bn bc := by
        rcases hob.2 with ⟨e, _⟩ | ⟨g, cap, cur, e, _⟩
        · exact ⟨_, _, _, e⟩
        · exact ⟨_, _, _, e⟩
      subst hbv
      obtain ⟨y0, y1, y2, y3, f2⟩ := HX2.out.cells
      rw [HVD.out] at y2
      have HSZ : Hid (w1.heap.size ≤ w2.heap.size) := hb2.size
      clear hob hb2 x2
      go_upto_region 7 with fail
      have HX3 := hide (HX2.out.set (.slice ba bn bc))
      have T3 : Hid (Turn (· = X) w2 (w2.setCell ⟨X, 2, none⟩ (.slice ba bn bc))) := Turn.setCell w2 ⟨X, 2, none⟩ _
      clear y0 y1 y2 y3 f2 HX2
      generalize w2.setCell ⟨X, 2, none⟩ (.slice ba bn bc) = w3 at *
      have HO3 : Hid (OwnB w3 w1.heap.size (.slice ba bn bc) n.data) := own_turn HOB.out T3.out (fun g hg e => by
        have := (World.ownsRow.lt HOB.out g hg).1
        have := HXL.out
        omega)
      have HC3 : Hid (CopyAt w3 w.heap.size u3 l) := ⟨own_turn HC2.out.row T3.out (fun g hg e => by have := HAP.out.1 g hg; omega), fun m hm => ⟨own_turn (HC2.out.dat m hm).1 T3.out (fun g hg e => by have := HAP.out.2 m hm g hg; omega), (HC2.out.dat m hm).2⟩⟩
      have HB3 : Hid (Below w.heap.size w w3) := HB2.out.trans (T3.out.below HB2.out.size (fun k e => by rw [e]; exact HXB.out))
      have HNE : Hid (∀ g, (Value.slice ba bn bc).ownBlock = some g → u3.ownBlock ≠ some g) := fun g hg e => by
        have h1 := (World.ownsRow.lt HOB.out g hg).1
        have h2 := HAP.out.1 g e
        have := HXL.out
        omega
      have HLO : Hid (OwnB w3 w.heap.size (.slice ba bn bc) n.data) := HO3.out.low (Nat.le_trans HXB.out (Nat.le_of_lt HXL.out))
      obtain ⟨z0, z1, z2, z3, _⟩ := HX3.out.cells
      dsimp only at z0 z1 z2 z3
      go_wp2_with (at_builtin; refine append_nd rfl _ _ rfl w.heap.size w3 _ l HC3.out.row { n with vd := .slice ba bn bc } ⟨_, _, _, rfl⟩ rfl rfl (by omega) HB3.out.size ?_)
      intro v4 w4 r4 s4 g4
      have HN : Hid (CpJ w w4 L (i + 1) v4) := ⟨l ++ [({ n with vd := .slice ba bn bc } : Nd)], HC3.out.snoc HLO.out HNE.out (by rw [List.length_append]; exact r4) s4 g4, by rw [HT.out, List.map_append, List.map_append, HJ.out.same]; rfl, HB3.out.grown g4 HB3.out.size (fun k hk => (World.ownsRow.lt HC3.out.row k hk).1)⟩
      clear r4 s4 g4 z0 z1 z2 z3
      go_wp2
      go_roundw
      case rel => exact ⟨i + 1, by omega, by go_num, HN⟩
      case measure => simp [intOf]; omega
    · have hltI : ¬ (i : Int) < (L.length : Int) := by omega
      have ei : i = L.length := by omega
      subst ei
      go_wp2
      go_ret
      exact ⟨_, rfl, l, J⟩
end Go.Proofs.YtleejifhpgokiaaDoor
