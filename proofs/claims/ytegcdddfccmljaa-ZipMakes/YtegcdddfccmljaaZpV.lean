
/-
  Layer 7's law: files, as the document's.
-/
import Derived.Test.YtegcdddfccmljaaZpU
import Derived.Deep.DeepAppendWide
import Derived.Deep.RegionLaw
set_option linter.unusedVariables false
namespace Go.Proofs.Ytegcdddfccmljaa
open Go.RowKit Go.PlainAid
def OwnR (w : World) (B : Nat) (v : Value) (l : List Fl) : Prop := w.ownsRow B 69 2 v l.length (flatF l)
theorem Try.infoFR : (Try.prog.info? 69).map (fun i => (i.zero, i.size, i.bytes)) = some (some (.agg #[.string ByteArray.empty, .slice none 0 0]), 2, 40) := by kernel_rfl
theorem OwnR.stay {w w' : World} {B : Nat} {v : Value} {l : List Fl} (h : OwnR w B v l) (hb : Below w.heap.size w w') : OwnR w' B v l := by
  unfold OwnR at h ⊢
  refine ⟨h.1, ?_⟩
  rcases h.2 with hn | ⟨g, cap, cur, rfl, hB, hg, rest⟩
  · exact .inl hn
  · refine .inr ⟨g, cap, cur, rfl, hB, ?_, rest⟩
    rw [hb.block g (Array.getElem?_eq_some_iff.1 hg).1]; exact hg
theorem step_append_F {ops : Array Oper} {o : Oper} {a : Act} {W : World} {K : Act → World → Prop} {Q : Exit → Act → World → Prop} {E : Prop} (hgd : o.guard = none) (s x : Operand)
    (ho : o.op = .call { callee := .builtin .append, args := #[s, x], argTypes := #[47, 47] })
    (B : Nat) (v : Value) (l : List Fl) (hown : OwnR W B v l) (f : Fl) (hvd : ∃ a k c, f.vd = .slice a k c) (hs : a.eval s = v) (q : Nat)
    (hx : a.eval x = .slice (some ⟨q, 0, none⟩) 1 1) (hq : ∀ j u, f.cells[j]? = some u → W.cell? ⟨q, j, none⟩ = some u) (hlen : l.length ≤ 100000) (hB : B ≤ W.heap.size)
    (h : ∀ v' w', OwnR w' B v' (l ++ [f]) → W.grownBy w' v.ownBlock → K (a.put o.dst v') w') :
    if Region.wanted o (yielded ops a.tmps) = true then Oper.wp Try.prog o a W K Q else E := by
  have hw : Region.wanted o (yielded ops a.tmps) = true := by simp [Region.wanted, hgd]
  rw [if_pos hw]
  obtain ⟨i, hi, hz0, hz1, hz2⟩ := info_parts Try.infoFR
  obtain ⟨v', w', hr, h2, h3, _⟩ := run_append_own_wide (P := Try.prog) W B 47 o.type 69 i _ 2 40 Try.underlying47 hi hz0 hz1 hz2 rfl (by decide) v l.length (flatF l) hown ⟨q, 0, none⟩ 1 1 f.cells rfl
    (fun j u hj => by rw [add_at, Nat.zero_add]; exact hq j u hj) (by
      have k := flatF_one (l := [f]) (fun g hg => by simp at hg; rw [hg]; exact hvd)
      simpa [flatF] using k) (by unfold maxLen; omega) (by omega) hB
  unfold Oper.wp execOp
  simp only [ho, resolve, invoke, builtin, Sem.run_bind, Sem.run_pure, Result.andThen_ok, List.map_toArray, List.map_cons, List.map_nil, hs, hx, hr]
  refine h v' w' ?_ h3
  unfold OwnR
  rw [List.length_append, flatF_app]
  simpa [flatF] using h2
theorem built_F (n : ByteArray) (a : Option Addr) (k c : Nat) : Try.prog.built 69 [(0, .string n), (1, .slice a k c)] = some #[.string n, .slice a k c] := by kernel_rfl
set_option maxHeartbeats 4000000 in
set_option maxRecDepth 20000 in
theorem law_files (w : World) (s0 : Option Addr) (cap : Nat) (fs : List Fl) (hlc : fs.length ≤ cap) (hcm : cap ≤ maxLen) (hl : fs.length ≤ 300) (h : FilesAt w s0 fs) :
    Calls Try.prog 15 #[.slice s0 fs.length cap] w fun e w' => ∃ v, e = .returned v ∧ OwnR w' w.heap.size v fs ∧ Below w.heap.size w w' := by
  have HF := hide h
  have hcap2 : cap ≤ 9223372036854775807 := by unfold maxLen at hcm; omega
  obtain ⟨n, hn⟩ : ∃ n, fs.length = n := ⟨_, rfl⟩
  have HN := hide hn
  rw [hn] at hlc hl ⊢
  clear h hcm hn
  go_enter Try.func15, Try.ntmps15
  go_wp2
  go_loopw [3, 4] (fun v3 v4 wr => ∃ i : Nat, i ≤ n ∧ v4 = .int .i64 i ∧ Hid (OwnR wr w.heap.size v3 (fs.take i)) ∧ Hid (Below w.heap.size w wr)) (fun _ v4 _ => n - (intOf v4).toNat)
  case atStart => exact ⟨0, by omega, rfl, World.ownsRow_nil _ _ _ _, Below.refl _ _⟩
  case round =>
    obtain ⟨i, hi, rfl, HO, HB⟩ := hrel
    by_cases hlt : i < n
    · have hltI : (i : Int) < (n : Int) := by omega
      have hil : i < fs.length := by rw [HN.out]; exact hlt
      obtain ⟨y, oo, rfl, hfl⟩ : ∃ y o, s0 = some ⟨y, o, none⟩ ∧ ∀ i (h : i < fs.length), IsFl w y (o + i * 2) fs[i] := by
        rcases HF.out with e | e
        · rw [e] at hil; simp at hil
        · exact e
      have hyw : y < w.heap.size := World.block_lt_of_cell? _ _ (hfl i hil).c0
      have hf := (hfl i hil).below HB.out
      have htk : fs.take (i + 1) = fs.take i ++ [fs[i]] := by rw [List.take_add_one, List.getElem?_eq_getElem hil]; rfl
      have HTK := hide htk
      have HLT : Hid ((fs.take i).length ≤ 100000) := by rw [Hid, List.length_take]; omega
      clear hfl htk
      generalize fs[i] = f at *
      obtain ⟨va, vc, hvd, _⟩ := hf.arg.isSlice
      have k0 := hf.c0
      have k1 := hf.c1
      rw [hvd] at k1
      have HV := hide hvd
      have d0 : wr.drew.cell? ⟨y, oo + i * 2, none⟩ = some (.string ⟨f.name.toArray⟩) := k0
      have d1 : wr.drew.cell? ⟨y, oo + i * 2 + 1, none⟩ = some (.slice va f.data.length vc) := k1
      have DD := And.intro d0 d1
      have HGA : Hid (∀ o, (wr.drew.alloc o).cell? ⟨y, oo + i * 2, none⟩ = some (.string ⟨f.name.toArray⟩) ∧ (wr.drew.alloc o).cell? ⟨y, oo + i * 2 + 1, none⟩ = some (.slice va f.data.length vc)) := fun o =>
        ⟨by rw [World.cell?_alloc_lt _ _ _ (World.block_lt_of_cell? _ _ d0)]; exact d0, by rw [World.cell?_alloc_lt _ _ _ (World.block_lt_of_cell? _ _ d1)]; exact d1⟩
      have HRA : Hid (∀ o, OwnR (wr.drew.alloc o) w.heap.size _ (fs.take i)) := fun o => OwnR.stay (w := wr.drew) HO.out ((Below.refl _ _).alloc (Nat.le_refl _) o)
      have HQ : Hid (∀ j u, f.cells[j]? = some u → (wr.drew.alloc (.cells #[.string ⟨f.name.toArray⟩, .slice va f.data.length vc] 69)).cell? ⟨wr.heap.size, j, none⟩ = some u) := fun j u hj => by
        have e : (wr.drew.alloc (.cells #[.string ⟨f.name.toArray⟩, .slice va f.data.length vc] 69)).heap[wr.heap.size]? = some (.cells #[.string ⟨f.name.toArray⟩, .slice va f.data.length vc] 69 (0, 0)) := heap_alloc_new wr.drew _
        unfold World.cell?
        rw [e]
        unfold Fl.cells at hj
        rw [HV.out] at hj
        simpa using hj
      have HBA : Hid (∀ o, Below w.heap.size w (wr.drew.alloc o)) := fun o => (HB.out.drew).alloc HB.out.size o
      have HBS : Hid (∀ o, w.heap.size ≤ (wr.drew.alloc o).heap.size) := fun o => (HBA.out o).size
      have HGB : Hid (∀ o W6, (wr.drew.alloc o).grownBy W6 _ → Below w.heap.size w W6) := fun o W6 g6 => (HBA.out o).grown g6 (HBA.out o).size (fun k hk => (World.ownsRow.lt HO.out k hk).1)
      have hyl : y < w.heap.size := hyw
      have HGC : Hid (∀ o W6, (wr.drew.alloc o).grownBy W6 _ → W6.cell? ⟨y, oo + i * 2, none⟩ = some (.string ⟨f.name.toArray⟩) ∧ W6.cell? ⟨y, oo + i * 2 + 1, none⟩ = some (.slice va f.data.length vc)) := fun o W6 g6 => by
        have hb := HGB.out o W6 g6
        have e := (hb.block y hyl).trans (HB.out.block y hyl).symm
        exact ⟨by rw [World.cell?_of_block (a := ⟨y, oo + i * 2, none⟩) (w := wr) e]; exact k0, by rw [World.cell?_of_block (a := ⟨y, oo + i * 2 + 1, none⟩) (w := wr) e]; exact k1⟩
      clear hf hvd k0 k1
      go_wp2_with fail
      go_region_held_law (fun w' => w'.cell? ⟨y, oo + i * 2, none⟩ = some (.string ⟨f.name.toArray⟩) ∧ w'.cell? ⟨y, oo + i * 2 + 1, none⟩ = some (.slice va f.data.length vc))
        (first | with_reducible assumption | exact HGA.out _)
        (first | (refine step_append_F rfl (.tmp 11) (.tmp 23) rfl w.heap.size _ (fs.take i) (HRA.out _) f ⟨_, _, _, HV.out⟩ rfl _ rfl HQ.out HLT.out (HBS.out _) ?_; intro v6 W6 r6 g6; have HR6 := hide r6; have HB6 := hide (HGB.out _ _ g6); have EE := HGC.out _ _ g6; clear r6 g6))
      have HO6 : Hid (OwnR W6 w.heap.size v6 (fs.take (i + 1))) := by rw [Hid, HTK.out]; exact HR6.out
      go_wp2
      go_roundw
      case rel => exact ⟨i + 1, by omega, by go_num, HO6, HB6⟩
      case measure => simp [intOf]; omega
    · have hie : i = n := by omega
      have hltI : ¬ (i : Int) < (n : Int) := by omega
      have HO2 := HO.out
      rw [List.take_of_length_le (by rw [HN.out]; omega)] at HO2
      have HO3 := hide HO2
      clear HO2 HO
      go_wp2
      go_ret
      exact ⟨_, rfl, HO3.out, HB.out⟩
end Go.Proofs.Ytegcdddfccmljaa
