
/-
  ZipMore returns true for every row of files, every file and every name, and what came in reads afterwards as it read before: no condition.
-/
import Derived.Test.YtegcdddfccmljabRows
import Derived.Test.YtegcdddfccmljabZpT
import Derived.WalkKit
import Derived.ProofKit
import Derived.OpenShut
import Derived.ShutString
import Derived.ChangeOld
import Derived.Below
set_option linter.unusedVariables false
namespace Go.Proofs.Ytegcdddfccmljab
theorem ArgL.below {w w' : World} {v : Value} {l : List UInt8} (h : ArgL w v l) (hb : Go.RowKit.Below w.heap.size w w') : ArgL w' v l := by
  obtain ⟨a, cap, rfl, h1, h2, h4⟩ := h
  refine ⟨a, cap, rfl, h1, h2, ?_⟩
  rcases h4 with h4 | ⟨x, rfl, hc⟩
  · exact .inl h4
  · refine .inr ⟨x, rfl, fun j hj => ?_⟩
    have := hc j hj
    rw [hb.cell (p := x.add j) (World.block_lt_of_cell? _ _ this)]; exact this
theorem FilesL.below {w w' : World} {a : Option Addr} {fs : List Fl} (h : FilesL w a fs) (hb : Go.RowKit.Below w.heap.size w w') : FilesL w' a fs := by
  rcases h with h | ⟨y, o, e, h⟩
  · exact .inl h
  · exact .inr ⟨y, o, e, fun i hi =>
      have k := h i hi
      ⟨by rw [hb.cell (p := ⟨y, o + i * 2, none⟩) (World.block_lt_of_cell? _ _ k.c0)]; exact k.c0, by rw [hb.cell (p := ⟨y, o + i * 2 + 1, none⟩) (World.block_lt_of_cell? _ _ k.c1)]; exact k.c1, k.arg.below hb, k.nlen⟩⟩
namespace LZipMore
open Go.ChangeShapes Go.WideShapes Go.ChangeAt Go.RowKit Go.PlainAid
open Go.ChangeMaps (open_string shut_string)
theorem isOps_of {H : Type} {enc : TypeId × Value → H} {W : World} {s : Option Addr} {len cap : Nat} {d : DataW H} {p : List MemPlace}
    (h : DataW.Trod enc Try.prog W 0 (fun _ => true) true 34 (.slice s len cap) d p) : IsFls W s len cap ∧ (s = none → cap = 0) := by
  refine ⟨Go.Proofs.Ytegcdddfccmljab.isOps_of h, fun e => ?_⟩
  obtain ⟨fuel, hf⟩ := h
  rcases Go.Deep.open_slice Try.underlying34 hf with ⟨hcs, _⟩ | ⟨a, l, c, m, n, D, Pl, hcs, _⟩
  · simp [Value.cells] at hcs
    exact hcs.2.2
  · simp [Value.cells] at hcs
    rw [hcs.1] at e; cases e
/-- append(nil, l...) of files that came in. -/
theorem append_in {ops : Array Oper} {rest : List Oper} {o : Oper} {a : Act} {Q : Exit → Act → World → Prop} (hgd : o.guard = none) (s x : Operand)
    (ho : o.op = .call { callee := .builtin .append, args := #[s, x], argTypes := #[34, 34] })
    (wr : World) (s0 : Option Addr) (cap : Nat) (fs : List Fl) (hf : FilesAt wr s0 fs) (hn : s0 = none → cap = 0) (hs : a.eval s = .slice none 0 0) (hx : a.eval x = .slice s0 fs.length cap) (hlen : fs.length ≤ 1000)
    (h : ∀ v' w', OwnF w' wr.heap.size v' fs → Below wr.heap.size wr w' → wpList Try.prog ops Q rest (a.put o.dst v') w') :
    wpList Try.prog ops Q (o :: rest) a wr := by
  obtain ⟨i, hi, hz0, hz1, hz2⟩ := info_parts Try.infoFl
  have hnil : OwnF wr wr.heap.size (.slice none 0 0) [] := World.ownsRow_nil _ _ _ _
  cases s0 with
  | none =>
    have hc := hn rfl
    subst hc
    have hfs : fs = [] := by
      rcases hf with e | ⟨y, o, e, _⟩
      · exact e
      · cases e
    subst hfs
    refine wpList_append_own_none (P := Try.prog) hgd s x 34 ho wr.heap.size 36 i 2 Try.underlying34 hi (.slice none 0 0) 0 [] hs hnil hx ?_
    exact h _ _ hnil (Below.refl _ _)
  | some ad =>
    refine wpList_append_own (P := Try.prog) wr hgd s x 34 ho wr.heap.size 36 i _ 2 40 Try.underlying34 hi hz0 hz1 hz2 rfl (by decide) (.slice none 0 0) 0 [] hs hnil
      ad fs.length cap (flatF fs) hx (flatF_len fs) ?_ (flatF_one fun f hm => ?_) (by unfold maxLen; omega) (by omega) (Nat.le_refl _) ?_
    · intro j u hj
      rcases hf with e | ⟨y, o, e, hxx⟩
      · subst e; simp [flatF] at hj
      · injection e with e
        subst e
        rw [add_at]; exact files_flat hxx j u hj
    · rcases hf with e | ⟨y, o, e, hxx⟩
      · subst e; simp at hm
      · obtain ⟨k, hk, e2⟩ := List.getElem_of_mem hm
        obtain ⟨va, vc, e3, _⟩ := (hxx k hk).arg
        rw [e2] at e3
        exact ⟨_, _, _, e3⟩
    · intro v' w' h1 h2 _
      refine h v' w' (by simpa [OwnF] using h1) ((Below.refl _ _).grown h2 (Nat.le_refl _) (fun k hk => by cases hk))
set_option maxHeartbeats 8000000 in
set_option maxRecDepth 20000 in
theorem core (w : World) (s0 : Option Addr) (len0 cap0 : Nat) (h0 : IsFls w s0 len0 cap0 ∧ (s0 = none → cap0 = 0)) (x : Fl) (vd : Value) (ho : x.name.length ≤ 9223372036854775807) (hs : ArgL w vd x.data) (nm : List UInt8) :
    Calls Try.prog 4 #[.slice s0 len0 cap0, .agg #[.string ⟨x.name.toArray⟩, vd], .string ⟨nm.toArray⟩] w fun e w' => e = .returned (.bool true) ∧ Below w.heap.size w w' := by
  obtain ⟨h0, hnone⟩ := h0
  obtain ⟨fs, hl, hF⟩ := h0.list
  obtain ⟨hlc, hcm, _⟩ := h0
  subst hl
  have HNO := hide hnone
  obtain ⟨xn, xd, xv⟩ := x
  simp only at ho hs ⊢
  have HS := hide hs
  obtain ⟨va, vc, rfl, hv1, hv2, hv3⟩ := hs
  obtain ⟨D, hD⟩ : ∃ D, xd.length = D := ⟨_, rfl⟩
  have HD := hide hD
  rw [hD] at hv1 HS ⊢
  clear hv3 hD
  have hcap2 : cap0 ≤ 9223372036854775807 := by unfold maxLen at hcm; omega
  have HB0 : Hid (Below w.heap.size w (w.alloc (.cells #[.string ⟨xn.toArray⟩, .slice va D vc] 36))) := (Below.refl _ w).alloc (Nat.le_refl _) _
  have z0 : (w.alloc (.cells #[.string ⟨xn.toArray⟩, .slice va D vc] 36)).cell? ⟨w.heap.size, 0, none⟩ = some (.string ⟨xn.toArray⟩) := by rw [World.cell?_alloc_at _ _ _ _ (by simp)]; simp
  have z1 : (w.alloc (.cells #[.string ⟨xn.toArray⟩, .slice va D vc] 36)).cell? ⟨w.heap.size, 1, none⟩ = some (.slice va D vc) := by rw [World.cell?_alloc_at _ _ _ _ (by simp)]; simp
  have HF0 := hide (hF.below HB0.out)
  have HS0 := hide (HS.out.below HB0.out)
  have HZ0 := hide z0
  have HZ1 := hide z1
  have HLZ : Hid (w.heap.size < (w.alloc (.cells #[.string ⟨xn.toArray⟩, .slice va D vc] 36)).heap.size) := by rw [Hid]; simp
  have hGr := law_great _ s0 cap0 fs hlc hcm HF0.out
  have HCM := hide hcm
  have HLC := hide hlc
  clear hF hcm hnone HS
  go_enter Try.func4, Try.ntmps4
  go_wp2_with fail
  clear z0 z1
  generalize w.alloc (.cells #[.string ⟨xn.toArray⟩, .slice va D vc] 36) = W at *
  generalize w.heap.size = Z at HZ0 HZ1 HLZ ⊢
  refine hGr.mono ?_
  rintro e w1 ⟨⟨b, rfl, hB⟩, rfl⟩
  clear hGr
  rcases hB with rfl | ⟨rfl, h300, hsm⟩
  · go_wp2
    go_ret
    exact ⟨rfl, HB0.out⟩
  have HB1 : Hid (Below W.heap.size W (W.alloc (.cells #[.string ⟨xn.toArray⟩, .slice va D vc] 36))) := (Below.refl _ W).alloc (Nat.le_refl _) _
  have hc : ∀ j, (W.alloc (.cells #[.string ⟨xn.toArray⟩, .slice va D vc] 36)).cell? ⟨W.heap.size, j, none⟩ = (#[.string ⟨xn.toArray⟩, .slice va D vc] : Array Value)[j]? := fun j => by
    unfold World.cell?
    rw [heap_alloc_new]
    rfl
  have hFx : FilesL (W.alloc (.cells #[.string ⟨xn.toArray⟩, .slice va D vc] 36)) (some ⟨W.heap.size, 0, none⟩) [⟨xn, xd, .slice va D vc⟩] := by
    refine .inr ⟨W.heap.size, 0, rfl, fun i hi => ?_⟩
    match i, hi with
    | 0, _ => exact ⟨by rw [hc]; rfl, by rw [hc]; rfl, HS0.out.below HB1.out, ho⟩
  have hG2 := law_great _ (some ⟨W.heap.size, 0, none⟩) 1 [⟨xn, xd, .slice va D vc⟩] (Nat.le_refl 1) (by decide) hFx
  have y0 := HZ0.out
  have y1 := HZ1.out
  have HFA := hide ((HF0.out.below HB1.out).files hsm)
  have hMk := zip_Make _ s0 cap0 fs HLC.out HCM.out HFA.out
  have HB01 : Hid (Below w.heap.size w (W.alloc (.cells #[.string ⟨xn.toArray⟩, .slice va D vc] 36))) := HB0.out.trans (HB1.out.mono HB0.out.size)
  have HY0 : Hid ((W.alloc (.cells #[.string ⟨xn.toArray⟩, .slice va D vc] 36)).cell? ⟨Z, 0, none⟩ = some (.string ⟨xn.toArray⟩)) := by rw [Hid, HB1.out.cell (p := ⟨Z, 0, none⟩) HLZ.out]; exact HZ0.out
  have HY1 : Hid ((W.alloc (.cells #[.string ⟨xn.toArray⟩, .slice va D vc] 36)).cell? ⟨Z, 1, none⟩ = some (.slice va D vc)) := by rw [Hid, HB1.out.cell (p := ⟨Z, 1, none⟩) HLZ.out]; exact HZ1.out
  have HLZ1 : Hid (Z < (W.alloc (.cells #[.string ⟨xn.toArray⟩, .slice va D vc] 36)).heap.size) := Nat.lt_of_lt_of_le HLZ.out HB1.out.size
  have HS1 := hide (HS0.out.below HB1.out)
  clear hc hFx hsm HF0 HS0 HB0
  go_wp2_with fail
  refine hG2.mono ?_
  rintro e w1 ⟨⟨b, rfl, hB⟩, rfl⟩
  clear hG2 y0 y1 HZ0 HZ1 HLZ HB1
  generalize W.alloc (.cells #[.string ⟨xn.toArray⟩, .slice va D vc] 36) = W1 at *
  rcases hB with rfl | ⟨rfl, _, hsx⟩
  · go_wp2
    go_ret
    exact ⟨rfl, HB01.out⟩
  have hsx' := hsx ⟨xn, xd, .slice va D vc⟩ List.mem_cons_self
  have HSX := hide (HS1.out.arg (by have := hsx'.1; simp only at this; omega))
  clear hsx hsx'
  go_wp2_with fail
  refine hMk.mono ?_
  rintro e w2 ⟨hE, hb2⟩
  have HE := hide hE
  have HB2 : Hid (Below w.heap.size w w2) := HB01.out.trans (hb2.mono HB01.out.size)
  have HFA2 := hide (HFA.out.below hb2)
  have HSX2 := hide (HSX.out.below hb2 rfl)
  have HX0 : Hid (w2.cell? ⟨Z, 0, none⟩ = some (.string ⟨xn.toArray⟩)) := by rw [Hid, hb2.cell (p := ⟨Z, 0, none⟩) HLZ1.out]; exact HY0.out
  have HX1 : Hid (w2.cell? ⟨Z, 1, none⟩ = some (.slice va D vc)) := by rw [Hid, hb2.cell (p := ⟨Z, 1, none⟩) HLZ1.out]; exact HY1.out
  have HLZ2 : Hid (Z < w2.heap.size) := Nat.lt_of_lt_of_le HLZ1.out hb2.size
  clear hMk hb2 hE HFA HSX HY0 HY1 HLZ1 HB01 HS1
  have hr : ∃ va1 c1, e = .returned (.tuple #[va1, .int .i64 c1]) := by
    have h1 := HE.out
    cases hM : makeN fs with
    | error c => rw [hM] at h1; exact ⟨_, _, h1⟩
    | ok b => rw [hM] at h1; obtain ⟨v, h2, _⟩ := h1; exact ⟨_, _, h2⟩
  obtain ⟨va1, c1, rfl⟩ := hr
  go_wp2_with (at_builtin; refine append_in rfl _ _ rfl w2 s0 cap0 fs HFA2.out HNO.out rfl rfl (by omega) ?_)
  intro v3 w3 h3 hb3
  have HO3 := hide h3
  have HB3 := hide hb3
  have u0 : w3.cell? ⟨Z, 0, none⟩ = some (.string ⟨xn.toArray⟩) := by rw [hb3.cell (p := ⟨Z, 0, none⟩) HLZ2.out]; exact HX0.out
  have u1 : w3.cell? ⟨Z, 1, none⟩ = some (.slice va D vc) := by rw [hb3.cell (p := ⟨Z, 1, none⟩) HLZ2.out]; exact HX1.out
  have hO4 : OwnF (w3.alloc (.cells #[.string ⟨xn.toArray⟩, .slice va D vc] 36)) w2.heap.size v3 fs := World.ownsRow.alloc h3 _
  have HO4 := hide hO4
  have HC4 : Hid (∀ j u, (flatF [⟨xn, xd, .slice va D vc⟩])[j]? = some u → (w3.alloc (.cells #[.string ⟨xn.toArray⟩, .slice va D vc] 36)).cell? ⟨w3.heap.size, 0 + j, none⟩ = some u) := fun j u hj => by
    rw [Nat.zero_add]
    unfold World.cell?
    rw [heap_alloc_new]
    have hj' : ([.string ⟨xn.toArray⟩, .slice va D vc] : List Value)[j]? = some u := hj
    simpa using hj'
  have HSZ : Hid (w2.heap.size ≤ (w3.alloc (.cells #[.string ⟨xn.toArray⟩, .slice va D vc] 36)).heap.size) := by rw [Hid]; have := hb3.size; simp; omega
  clear h3 hb3 hO4
  go_wp2_with (at_builtin; refine append_fls rfl _ _ rfl w2.heap.size _ v3 fs HO4.out [⟨xn, xd, .slice va D vc⟩] w3.heap.size 0 1 HC4.out (fun f hf => by simp at hf; rw [hf]; exact ⟨_, _, _, rfl⟩) rfl rfl (by simp; omega) HSZ.out ?_)
  intro v5 w5 h5 hg5
  have HB5 : Hid (Below w2.heap.size w2 w5) := (HB3.out.alloc HB3.out.size _).grown hg5 HSZ.out (fun k hk => (World.ownsRow.lt HO3.out k hk).1)
  obtain ⟨a5, c5, hv5, k1, k2, hfa⟩ := h5.files (fun f hf => by
    rcases List.mem_append.1 hf with hm | hm
    · rcases HFA2.out with e | ⟨y, o, e, hx⟩
      · rw [e] at hm; simp at hm
      · obtain ⟨k, hk, e2⟩ := List.getElem_of_mem hm
        have q := hx k hk
        rw [e2] at q
        exact ⟨q.arg.below HB5.out rfl, q.nlen⟩
    · simp at hm
      rw [hm]
      exact ⟨HSX2.out.below HB5.out rfl, ho⟩)
  have HERR := hide (fun c h => more_err fs ⟨xn, xd, .slice va D vc⟩ c h)
  have HMORE := hide (fun nm a b h1 h2 => more_is fs ⟨xn, xd, .slice va D vc⟩ nm a b h1 h2)
  have HXX0 : Hid (w5.cell? ⟨Z, 0, none⟩ = some (.string ⟨xn.toArray⟩)) := by rw [Hid, HB5.out.cell (p := ⟨Z, 0, none⟩) HLZ2.out]; exact HX0.out
  have HLZ5 : Hid (Z < w5.heap.size) := Nat.lt_of_lt_of_le HLZ2.out HB5.out.size
  have HB05 : Hid (Below w.heap.size w w5) := HB2.out.trans (HB5.out.mono HB2.out.size)
  simp only at HMORE
  clear h5 hg5 u0 u1 HO4 HC4 HSZ HO3 HB3 HFA2 HSX2 HX0 HX1
  generalize fs ++ [(⟨xn, xd, .slice va D vc⟩ : Fl)] = M at *
  subst hv5
  have hc5 : c5 ≤ 9223372036854775807 := by unfold maxLen at k2; omega
  have hMk2 := zip_Make w5 a5 c5 M k1 k2 hfa
  clear hfa k1 k2
  go_wp2_with fail
  refine hMk2.mono ?_
  rintro e w6 ⟨hE6, hb6⟩
  have HB6 : Hid (Below w.heap.size w w6) := HB05.out.trans (hb6.mono HB05.out.size)
  have HB26 : Hid (Below w2.heap.size w2 w6) := HB5.out.trans (hb6.mono HB5.out.size)
  have HX6 : Hid (w6.cell? ⟨Z, 0, none⟩ = some (.string ⟨xn.toArray⟩)) := by rw [Hid, hb6.cell (p := ⟨Z, 0, none⟩) HLZ5.out]; exact HXX0.out
  have HLZ6 : Hid (Z < w6.heap.size) := Nat.lt_of_lt_of_le HLZ5.out hb6.size
  clear hMk2 hb6 HXX0 HLZ5 HB05 HB5
  cases hA : makeN fs with
  | error c =>
    have h1 := HE.out
    rw [hA] at h1
    have h1' : Ending.returned (.tuple #[va1, .int .i64 c1]) = Ending.returned (.tuple #[.slice none 0 0, .int .i64 c]) := h1
    simp only [Ending.returned.injEq, Value.tuple.injEq, Array.mk.injEq, List.cons.injEq, Value.int.injEq, and_true, true_and] at h1'
    obtain ⟨rfl, rfl⟩ := h1'
    obtain ⟨c', hM⟩ := HERR.out _ hA
    rw [hM] at hE6
    have hE' : e = _ := hE6
    subst hE'
    have b1 : (c1 != 0) = true := by simpa using makeN_err hA
    have b2 : (c1 == 0) = false := by simpa using makeN_err hA
    have b3 : (c' != 0) = true := by simpa using makeN_err hM
    have hAl := alive07 w6
    clear h1 hE6 HE
    go_wp2_with (go_at_call 7; refine hAl.mono ?_; rintro e w7 ⟨rfl, hb7⟩)
    go_ret
    exact ⟨rfl, HB6.out.trans (hb7.mono HB6.out.size)⟩
  | ok A =>
    have h1 := HE.out
    rw [hA] at h1
    obtain ⟨v1, h1', hownA⟩ := h1
    simp only [Ending.returned.injEq, Value.tuple.injEq, Array.mk.injEq, List.cons.injEq, Value.int.injEq, and_true, true_and] at h1'
    obtain ⟨rfl, rfl⟩ := h1'
    have HOA := hide (hownA.stay HB26.out)
    clear hownA HE
    cases hM : makeN M with
    | error c' =>
      rw [hM] at hE6
      have hE' : e = _ := hE6
      subst hE'
      have b3 : (c' != 0) = true := by simpa using makeN_err hM
      have hAl := alive07 w6
      clear hE6
      go_wp2_with (go_at_call 7; refine hAl.mono ?_; rintro e w7 ⟨rfl, hb7⟩)
      go_ret
      exact ⟨rfl, HB6.out.trans (hb7.mono HB6.out.size)⟩
    | ok B =>
      rw [hM] at hE6
      obtain ⟨v6, rfl, hownB⟩ := hE6
      obtain ⟨_, _, lA, _⟩ := read_made fs A hA
      obtain ⟨_, _, lB, _⟩ := read_made M B hM
      have hmore := HMORE.out nm A B hA hM
      have hF1 := zip_Find w6 va1 A nm (HOA.out.arg (by omega))
      have HOB := hide hownB
      clear hownB HERR HMORE hA hM
      generalize findZ A nm = PA at *
      obtain ⟨p1, s1, r1⟩ := PA
      generalize hfb : findZ B nm = PB at *
      obtain ⟨p2, s2, r2⟩ := PB
      simp only [findV] at hF1
      simp only at hmore
      have HFB := hide hfb
      clear hfb
      go_wp2_with fail
      refine hF1.mono ?_
      rintro e w7 ⟨rfl, hb7⟩
      have HB7 : Hid (Below w.heap.size w w7) := HB6.out.trans (hb7.mono HB6.out.size)
      have hF2 := zip_Find w7 v6 B nm ((HOB.out.stay hb7).arg (by omega))
      rw [HFB.out] at hF2
      simp only [findV] at hF2
      have HX7 : Hid (w7.cell? ⟨Z, 0, none⟩ = some (.string ⟨xn.toArray⟩)) := by rw [Hid, hb7.cell (p := ⟨Z, 0, none⟩) HLZ6.out]; exact HX6.out
      have HLZ7 : Hid (Z < w7.heap.size) := Nat.lt_of_lt_of_le HLZ6.out hb7.size
      clear hF1 hb7
      go_wp2_with fail
      refine hF2.mono ?_
      rintro e w8 ⟨rfl, hb8⟩
      have HB8 : Hid (Below w.heap.size w w8) := HB7.out.trans (hb8.mono HB7.out.size)
      have x8 : w8.cell? ⟨Z, 0, none⟩ = some (.string ⟨xn.toArray⟩) := by rw [hb8.cell (p := ⟨Z, 0, none⟩) HLZ7.out]; exact HX7.out
      have hAl := alive07 w8
      clear hF2 hb8
      rcases hmore with ⟨rfl, h2⟩ | ⟨rfl, ⟨hx, rfl⟩ | ⟨hx, rfl⟩⟩
      · simp only [Prod.mk.injEq] at h2
        obtain ⟨rfl, rfl, rfl⟩ := h2
        have d1 : ((p2 : Int) == (p2 : Int)) = true := by simp
        have d2 : ((s2 : Int) == (s2 : Int)) = true := by simp
        go_wp2_with (go_at_call 7; refine hAl.mono ?_; rintro e w9 ⟨rfl, hb9⟩)
        go_ret
        exact ⟨rfl, HB8.out.trans (hb9.mono HB8.out.size)⟩
      · subst hx
        have d1 : (xn == xn) = true := by simp
        go_wp2_with (go_at_call 7; refine hAl.mono ?_; rintro e w9 ⟨rfl, hb9⟩)
        go_ret
        exact ⟨rfl, HB8.out.trans (hb9.mono HB8.out.size)⟩
      · have d1 : (xn == nm) = false := by simpa using hx
        go_wp2_with (go_at_call 7; refine hAl.mono ?_; rintro e w9 ⟨rfl, hb9⟩)
        go_ret
        exact ⟨rfl, HB8.out.trans (hb9.mono HB8.out.size)⟩
theorem walk (w : World) (s0 : Option Addr) (len0 cap0 : Nat) (h0 : IsFls w s0 len0 cap0 ∧ (s0 = none → cap0 = 0)) (x : Fl) (vd : Value) (ho : x.name.length ≤ 9223372036854775807) (hs : ArgL w vd x.data) (p : ByteArray) (hp : p.size ≤ maxLen) :
    Calls Try.prog 4 #[.slice s0 len0 cap0, .agg #[.string ⟨x.name.toArray⟩, vd], .string p] w fun e w' => e = .returned (.bool true) ∧ Below w.heap.size w w' := by
  rw [ba_list p]
  exact core w s0 len0 cap0 h0 x vd ho hs _
theorem own : ownKnob Try.prog.godebug = none := by kernel_rfl
theorem laidOut : laidOutB Try.prog = true := by kernel_rfl
set_option maxRecDepth 100000 in
theorem lifted (os : Os) (started : os.Started) (H : Type) (enc : TypeId × Value → H) :
    ReturnsInHanded {} Try.checked os 4 .any (Rows.zipMoreSpec.pre6 enc Try.prog Try.f4 Rows.zipMoreRow.domain false) (Rows.zipMoreSpec.post enc Try.prog Try.f4 false true false false) := by
  refine returnsInHanded_of_change (C := Try.checked) own started (by kernel_rfl) Try.func4
    (ChangeSpec.witness6 (enc := enc) (C := Try.checked) false ⟨#[], #[.slice none 0 0, .agg #[.string ByteArray.empty, .slice none 0 0], .string ByteArray.empty], []⟩ 8 (by kernel_rfl) (by kernel_rfl) (by kernel_rfl) (by kernel_rfl)) ?_
  intro W base args ds gs before hval0 hW hcnd _
  have hval : ∀ (j : Nat) t v, Try.f4.params[j]? = some t → args[j]? = some v → Value.okWide Try.prog W .any base t v := hval0
  have hW' := hW
  obtain ⟨p, q, hA0, hV, rfl, hfz, hnd⟩ := hW
  have hA : DataW.TrodAll enc Try.prog W 0 (fun _ => true) true Try.f4.params.toList args.toList ds p := hA0
  rw [Try.params4] at hA hval
  obtain ⟨v0, vs0, d0, ds0, p0, q0, hargs, rfl, rfl, h0, r0⟩ := trodAll_cons hA
  obtain ⟨v1, vs1, d1, ds1, p1, q1, rfl, rfl, rfl, h1, r1⟩ := trodAll_cons r0
  obtain ⟨v2, vs2, d2, ds2, p2, q2, rfl, rfl, rfl, h2, r2⟩ := trodAll_cons r1
  obtain ⟨rfl, rfl, rfl⟩ := trodAll_nil r2
  obtain rfl : args = #[v0, v1, v2] := by cases args; simp_all
  obtain ⟨rfl, rfl⟩ := trodVars_none hV
  have k0 := h0
  have lt0 : ∀ x ∈ p0, x.block < W.heap.size := by obtain ⟨m, hm⟩ := k0; exact DataW.trod_lt m _ _ _ hm
  have k1 := h1
  have lt1 : ∀ x ∈ p1, x.block < W.heap.size := by obtain ⟨m, hm⟩ := k1; exact DataW.trod_lt m _ _ _ hm
  have k2 := h2
  have lt2 : ∀ x ∈ p2, x.block < W.heap.size := by obtain ⟨m, hm⟩ := k2; exact DataW.trod_lt m _ _ _ hm
  obtain ⟨s0, len0, cap0, rfl⟩ := okWide_slice Try.underlying34 (hval 0 34 v0 rfl rfl)
  have w0 := isOps_of h0
  obtain ⟨cs1, rfl, _⟩ := okWide_struct Try.underlying36 (hval 1 36 v1 rfl rfl)
  obtain ⟨x1, vd1, rfl, o1, s1⟩ := opAgg_of h1
  obtain ⟨a2, rfl, rfl, rfl, w2⟩ := open_string Try.underlying9 (hval 2 9 v2 rfl rfl) h2
  clear hA0 hval0
  refine (walk W s0 len0 cap0 w0 x1 vd1 o1 s1 a2 w2).mono fun e W' ⟨he, bel⟩ => ?_
  subst he
  exact ⟨_, rfl, _, _, _, [], _, [], hW', trodAll_mk1 (shut_bool Try.underlying4 _), (trodAll_cons_mk (Below.trod laidOut (by kernel_rfl) (of_decide_eq_true (by kernel_rfl)) k0 bel lt0) (trodAll_cons_mk (Below.trod laidOut (by kernel_rfl) (of_decide_eq_true (by kernel_rfl)) k1 bel lt1) (trodAll_cons_mk (Below.trod laidOut (by kernel_rfl) (of_decide_eq_true (by kernel_rfl)) k2 bel lt2) trodAll_mk0))), rfl, bel.frame _, fun h => by cases h⟩

theorem over : Rows.zipMoreRow.holds Try.pinned (OpenSpec.ofChange Rows.zipMoreSpec) :=
  OpenClaim.holds_of_wide 4 Try.f4 rfl rfl rfl rfl rfl rfl rfl ⟨rfl, rfl, rfl, rfl, rfl⟩ rfl rfl rfl rfl rfl (by kernel_rfl) Try.func4 (by kernel_rfl)
    (of_decide_eq_true (by kernel_rfl)) (by unfold Func.isWrapper; first | (rw [if_pos (by decide +kernel)]; kernel_rfl) | (rw [if_neg (by decide +kernel)]; exact ⟨rfl, rfl⟩))
    (fun os started H enc _ => lifted os started H enc)
end LZipMore
theorem ZipMore_proved : Rows.ZipMoreSaid := LZipMore.over
end Go.Proofs.Ytegcdddfccmljab
