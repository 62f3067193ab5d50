
/-
  Files that came in, and what is too much to be asked.
-/
import Derived.Test.YtegcdddfccmljaaZpM
import Derived.Deep.MidRow
import Derived.Deep.Slices
import Derived.ChangeSlices
set_option linter.unusedVariables false
namespace Go.Proofs.Ytegcdddfccmljaa
open Go.RowKit Go.PlainAid
/-- A slice of bytes that came in: as Arg, however long. -/
def ArgL (w : World) (v : Value) (l : List UInt8) : Prop :=
  ∃ a cap, v = .slice a l.length cap ∧ l.length ≤ cap ∧ cap ≤ maxLen ∧
    ((a = none ∧ l = [] ∧ cap = 0) ∨ ∃ x : Addr, a = some x ∧ ∀ j (hj : j < l.length), w.cell? (x.add j) = some (.int .u8 (l[j].toNat : Int)))
theorem ArgL.arg {w : World} {v : Value} {l : List UInt8} (h : ArgL w v l) (hl : l.length ≤ 1000000000000) : Arg w v l := by
  obtain ⟨a, cap, e, h1, h2, h3⟩ := h
  exact ⟨a, cap, e, h1, h2, hl, h3⟩
/-- A file as it came in. -/
structure IsFl0 (w : World) (y o : Nat) (f : Fl) : Prop where
  c0 : w.cell? ⟨y, o, none⟩ = some (.string ⟨f.name.toArray⟩)
  c1 : w.cell? ⟨y, o + 1, none⟩ = some f.vd
  arg : ArgL w f.vd f.data
  nlen : f.name.length ≤ 9223372036854775807
def IsFls (w : World) (a : Option Addr) (len cap : Nat) : Prop :=
  len ≤ cap ∧ cap ≤ maxLen ∧ (len = 0 ∨ ∃ y o, a = some ⟨y, o, none⟩ ∧ ∀ i, i < len → ∃ f, IsFl0 w y (o + i * 2) f)
theorem two2 {l : List Value} (h : l.length = 2) : ∃ a b, l = [a, b] := by
  match l, h with
  | [a, b], _ => exact ⟨a, b, rfl⟩
theorem cells2 : Try.prog.cellsOf 50 = 2 := by kernel_rfl
theorem cellsS : Try.prog.cellsOf 9 = 1 := by kernel_rfl
theorem cellsB : Try.prog.cellsOf 22 = 1 := by kernel_rfl
theorem argL_row {w : World} {x : Addr} {len cap : Nat} {zs : List Int} (h1 : len ≤ cap) (h2 : cap ≤ maxLen) (h3 : zs.length = cap) (hc : ∀ i, i < zs.length → w.cell? (x.add i) = some (.int .u8 (zs.getD i 0))) (hw : ∀ n ∈ zs, (Lit.int .u8 n).wf = true) :
    ∃ d : List UInt8, d.length = len ∧ ArgL w (.slice (some x) len cap) d := by
  have hll : ((zs.take len).map fun z => b8 z.toNat).length = len := by simp; omega
  refine ⟨(zs.take len).map fun z => b8 z.toNat, hll, some x, cap, by rw [hll], by omega, h2, .inr ⟨x, rfl, fun j hj => ?_⟩⟩
  rw [hll] at hj
  have hjz : j < zs.length := by omega
  have hb := wf_u8 (hw (zs.getD j 0) (by rw [List.getD, List.getElem?_eq_getElem hjz]; simp))
  rw [hc j hjz]
  have e2 : (((zs.take len).map fun z => b8 z.toNat)[j]'(by omega)) = b8 (zs.getD j 0).toNat := by
    simp [List.getD, List.getElem?_eq_getElem hjz]
  rw [e2, b8_toNat (by omega)]
  congr 2
  omega
theorem ba_list (s : ByteArray) : s = ⟨s.data.toList.toArray⟩ := by cases s; simp
theorem ba_len (s : ByteArray) : s.data.toList.length = s.size := by cases s; simp [ByteArray.size]
section
variable {H : Type} {enc : TypeId × Value → H}
theorem fl_of {W : World} {cs : List Value} {x : DataW H × List MemPlace} {fuel : Nat} (h2 : DataW.trod enc Try.prog W 0 (fun _ => true) true fuel 50 cs = some x) :
    ∃ f : Fl, cs = [.string ⟨f.name.toArray⟩, f.vd] ∧ f.name.length ≤ 9223372036854775807 ∧ ArgL W f.vd f.data := by
  obtain ⟨xs, n, _, rfl, hlen, hl4, hf⟩ := DataW.trod_struct Try.underlying50 h2
  rw [cells2] at hlen
  obtain ⟨v0, v2, rfl⟩ := two2 hlen
  match xs, hl4 with
  | [y0, y2], _ =>
    have g0 : DataW.trod enc Try.prog W 0 (fun _ => true) true n 9 [v0] = some y0 := by have := hf 0 _ rfl; simpa [cellsS] using this
    have g2 : DataW.trod enc Try.prog W 0 (fun _ => true) true n 22 [v2] = some y2 := by have := hf 1 _ rfl; simpa [cellsB] using this
    obtain ⟨s0, q0, _, hs0⟩ := DataW.trod_string Try.underlying9 g0
    simp only [List.cons.injEq, and_true] at q0
    subst q0
    have hd : ∃ d : List UInt8, ArgL W v2 d := by
      rcases Go.ChangeShapes.open_ints Try.underlying22 Try.underlying5 (by kernel_rfl) g2 with ⟨q6, _⟩ | ⟨x6, l6, c6, zs, q6, _, hl6, hm6, hz6, _, hcell6, hw6⟩
      · simp only [List.cons.injEq, and_true] at q6
        exact ⟨[], none, 0, q6, by simp, by simp, .inl ⟨rfl, rfl, rfl⟩⟩
      · simp only [List.cons.injEq, and_true] at q6
        obtain ⟨d, _, hd⟩ := argL_row hl6 hm6 (by simpa using hz6) hcell6 hw6
        exact ⟨d, by rw [q6]; exact hd⟩
    obtain ⟨d, hd⟩ := hd
    have e1 : s0 = ⟨s0.data.toList.toArray⟩ := ba_list s0
    have hsz : s0.size ≤ maxLen := hs0
    refine ⟨⟨s0.data.toList, d, v2⟩, by rw [← e1], ?_, hd⟩
    have k := ba_len s0
    unfold maxLen at hsz
    show s0.data.toList.length ≤ _
    omega
theorem isOps_of {W : World} {s : Option Addr} {len cap : Nat} {d : DataW H} {p : List MemPlace}
    (h : DataW.Trod enc Try.prog W 0 (fun _ => true) true 41 (.slice s len cap) d p) : IsFls W s len cap := by
  obtain ⟨fuel, hf⟩ := h
  rcases Go.Deep.open_slice Try.underlying41 hf with ⟨hcs, _⟩ | ⟨a, l, c, m, n, D, Pl, hcs, _, hl, hm, hmm, _, hx⟩
  · simp [Value.cells] at hcs
    obtain ⟨rfl, rfl, rfl⟩ := hcs
    exact ⟨by omega, by simp, .inl rfl⟩
  · simp [Value.cells] at hcs
    obtain ⟨rfl, rfl, rfl⟩ := hcs
    refine ⟨hl, hm, ?_⟩
    by_cases h0 : len = 0
    · exact .inl h0
    · obtain ⟨y, o, spot⟩ := a
      have hread : ∀ i, i < len → ∃ (f : Fl) (cs' : List Value), cs' = [.string ⟨f.name.toArray⟩, f.vd] ∧ f.name.length ≤ 9223372036854775807 ∧ ArgL W f.vd f.data ∧ ∀ j, j < 2 → W.cell? (((⟨y, o, spot⟩ : Addr).add (i * 2)).add j) = cs'[j]? := by
        intro i hi
        obtain ⟨cs', h1, h2⟩ := hx i (by rw [hmm]; simp; omega)
        rw [cells2] at h1
        obtain ⟨_, hlen, hcell⟩ := World.cells?_some h1
        obtain ⟨f, e, h3, h5⟩ := fl_of h2
        exact ⟨f, cs', e, h3, h5, fun j hj => hcell j hj⟩
      have hspot : spot = none := by
        obtain ⟨f, cs', e, _, _, hc⟩ := hread 0 (by omega)
        have := hc 0 (by omega)
        rw [e] at this
        simpa [Addr.add] using World.cell?_spot this
      subst hspot
      refine .inr ⟨y, o, rfl, fun i hi => ?_⟩
      obtain ⟨f, cs', e, h3, h5, hc⟩ := hread i hi
      subst e
      have hc' : ∀ j, j < 2 → W.cell? ⟨y, o + i * 2 + j, none⟩ = ([.string ⟨f.name.toArray⟩, f.vd] : List Value)[j]? := by
        intro j hj
        have := hc j hj
        rw [add_at, add_at] at this
        exact this
      exact ⟨f, hc' 0 (by omega), hc' 1 (by omega), h5, h3⟩
end
def FilesL (w : World) (a : Option Addr) (fs : List Fl) : Prop := fs = [] ∨ ∃ y o, a = some ⟨y, o, none⟩ ∧ ∀ i (h : i < fs.length), IsFl0 w y (o + i * 2) fs[i]
theorem IsFls.list {w : World} {a : Option Addr} {len cap : Nat} (h : IsFls w a len cap) : ∃ fs : List Fl, fs.length = len ∧ FilesL w a fs := by
  obtain ⟨h1, h2, h3⟩ := h
  rcases h3 with rfl | ⟨y, o, rfl, hf⟩
  · exact ⟨[], rfl, .inl rfl⟩
  · have : ∃ fs : List Fl, fs.length = len ∧ ∀ i (h : i < fs.length), IsFl0 w y (o + i * 2) fs[i] := by
      clear h1 h2
      induction len with
      | zero => exact ⟨[], rfl, fun i h => by simp at h⟩
      | succ n ih =>
        obtain ⟨fs, e, hx⟩ := ih (fun i hi => hf i (by omega))
        obtain ⟨f, hff⟩ := hf n (by omega)
        refine ⟨fs ++ [f], by simp [e], fun i hi => ?_⟩
        by_cases hin : i < fs.length
        · rw [List.getElem_append_left hin]; exact hx i hin
        · have : i = fs.length := by simp at hi; omega
          subst this
          simp only [List.getElem_concat_length]
          rw [e]; exact hff
    obtain ⟨fs, e, hx⟩ := this
    exact ⟨fs, e, .inr ⟨y, o, rfl, hx⟩⟩
/-- Little enough. -/
def SmallF (f : Fl) : Prop := f.data.length ≤ 524288 ∧ f.name.length ≤ 1000
theorem FilesL.files {w : World} {a : Option Addr} {fs : List Fl} (h : FilesL w a fs) (hs : ∀ f ∈ fs, SmallF f) : FilesAt w a fs := by
  rcases h with h | ⟨y, o, e, h⟩
  · exact .inl h
  · refine .inr ⟨y, o, e, fun i hi => ?_⟩
    have k := h i hi
    have s := hs _ (List.getElem_mem hi)
    exact ⟨k.c0, k.c1, k.arg.arg (by have := s.1; omega), k.nlen⟩
set_option maxHeartbeats 2000000 in
theorem law_great (w : World) (a : Option Addr) (cap : Nat) (fs : List Fl) (hcap : fs.length ≤ cap) (hcm : cap ≤ maxLen) (h : FilesL w a fs) :
    Calls Try.prog 12 #[.slice a fs.length cap] w fun e w' => (∃ b, e = .returned (.bool b) ∧ (b = true ∨ (b = false ∧ fs.length ≤ 300 ∧ ∀ f ∈ fs, SmallF f))) ∧ w = w' := by
  have HF := hide h
  have hcap2 : cap ≤ 9223372036854775807 := by unfold maxLen at hcm; omega
  obtain ⟨n, hn⟩ : ∃ n, fs.length = n := ⟨_, rfl⟩
  have HN := hide hn
  rw [hn] at hcap ⊢
  clear h hcm hn
  go_enter Try.func12, Try.ntmps12
  go_wp2
  go_loopw [3, 4] (fun v3 v4 wr => wr = w ∧ ∃ (i : Nat) (s : Int), i ≤ n ∧ i ≤ 300 ∧ v4 = .int .i64 i ∧ v3 = .int .i64 s ∧ 0 ≤ s ∧ s ≤ 1048576 ∧ Hid (∀ f ∈ fs.take i, SmallF f)) (fun _ v4 _ => n - (intOf v4).toNat)
  case atStart => exact ⟨rfl, 0, 0, by omega, by omega, rfl, rfl, by omega, by omega, fun f hf => by simp at hf⟩
  case round =>
    obtain ⟨rfl, i, s, hi, hi3, rfl, rfl, hs0, hs1, HS⟩ := hrel
    by_cases hlt : i < n ∧ i < 300
    · obtain ⟨hlt, h3⟩ := hlt
      have hltI : (i : Int) < (n : Int) := by omega
      have h3I : (i : Int) < 300 := by omega
      have hil : i < fs.length := by rw [HN.out]; exact hlt
      obtain ⟨y, oo, rfl, hfl⟩ : ∃ y o, a = some ⟨y, o, none⟩ ∧ ∀ i (h : i < fs.length), IsFl0 wr y (o + i * 2) fs[i] := by
        rcases HF.out with e | e
        · rw [e] at hil; simp at hil
        · exact e
      have hf := hfl i hil
      have htk : ∀ P : Fl → Prop, (∀ f ∈ fs.take i, P f) → P fs[i] → ∀ f ∈ fs.take (i + 1), P f := fun P h1 h2 f hm => by
        rw [List.take_add_one, List.getElem?_eq_getElem hil] at hm
        rcases List.mem_append.1 hm with h | h
        · exact h1 f h
        · simp at h; rw [h]; exact h2
      have HTK := hide (htk SmallF HS.out)
      clear hfl htk
      obtain ⟨va, vc, hvd, hv1, hv2, hxx⟩ := hf.arg
      clear hxx
      have k0 := hf.c0
      have k1 := hf.c1
      have hnl := hf.nlen
      rw [hvd] at k1
      unfold SmallF at HTK
      clear hf hvd
      generalize fs[i].data.length = D at *
      have hnn : (⟨fs[i].name.toArray⟩ : ByteArray).size = fs[i].name.length := by simp [ByteArray.size]
      generalize hnm : fs[i].name = nm at *
      have hD63 : (D : Int) ≤ 9223372036854775807 := by unfold maxLen at hv2; omega
      have hN63 : (nm.length : Int) ≤ 9223372036854775807 := by omega
      by_cases hd : 524288 < D
      · have hdI : (524288 : Int) < (D : Int) := by omega
        go_wp2
        go_ret
        exact ⟨⟨true, rfl, .inl rfl⟩, rfl⟩
      have hdD : decide ((524288 : Int) < (D : Int)) = false := decide_eq_false (by omega)
      have hdI : (D : Int) ≤ 524288 := by omega
      by_cases hm : 1000 < nm.length
      · have hmI : (1000 : Int) < (nm.length : Int) := by omega
        go_wp2
        go_ret
        exact ⟨⟨true, rfl, .inl rfl⟩, rfl⟩
      have hmD : decide ((1000 : Int) < (nm.length : Int)) = false := decide_eq_false (by omega)
      by_cases hsum : 1048576 < s + (D : Int)
      · have hsD : decide ((1048576 : Int) < s + (D : Int)) = true := decide_eq_true hsum
        go_wp2
        go_ret
        exact ⟨⟨true, rfl, .inl rfl⟩, rfl⟩
      · have hsD : decide ((1048576 : Int) < s + (D : Int)) = false := decide_eq_false hsum
        have HT2 := hide (HTK.out ⟨by omega, by omega⟩)
        have HSU := hide hsum
        clear hsum HTK
        go_wp2
        go_roundw
        case rel => exact ⟨trivial, i + 1, s + (D : Int), by omega, by omega, by go_num, rfl, by omega, by have := HSU.out; omega, HT2⟩
        case measure => simp [intOf]; omega
    · by_cases hin : i < n
      · have h300 : i = 300 := by omega
        have hltI : (i : Int) < (n : Int) := by omega
        have h3D : decide ((i : Int) < 300) = false := decide_eq_false (by omega)
        have hgt : (300 : Int) < (n : Int) := by omega
        clear hlt
        go_wp2
        go_ret
        exact ⟨⟨true, rfl, .inl rfl⟩, rfl⟩
      · have hie : i = n := by omega
        have hltD : decide ((i : Int) < (n : Int)) = false := decide_eq_false (by omega)
        have hgD : decide ((300 : Int) < (n : Int)) = false := decide_eq_false (by omega)
        have HALL : Hid (∀ f ∈ fs, SmallF f) := by
          have h1 := HS.out
          rw [List.take_of_length_le (by rw [HN.out]; omega)] at h1
          exact h1
        have HN3 : Hid (n ≤ 300) := by rw [Hid]; omega
        clear hlt
        go_wp2
        go_ret
        exact ⟨⟨false, rfl, .inr ⟨rfl, HN3.out, HALL.out⟩⟩, rfl⟩
end Go.Proofs.Ytegcdddfccmljaa
