
/-
  Layer 12 (rels): Encode.
-/
import Derived.Test.YtkelipoiopkokaaRlF
set_option linter.unusedVariables false
namespace Go.Proofs.Ytkelipoiopkokaa
open Go.RowKit Go.PlainAid Go.Sort
/-- What Encode answers. -/
def EncIs (w' : World) (B : Nat) (o : Option (List UInt8)) (e : Ending) : Prop :=
  match o with
  | none => e = .returned (.tuple #[.slice none 0 0, .int .i64 120])
  | some b => ∃ v, e = .returned (.tuple #[v, .int .i64 0]) ∧ Own w' B v b
theorem bg_putR (w : World) (B R : Nat) (l : List UInt8) (h : Bg w B R l) (hB : B ≤ w.heap.size) (r : Rl) (hr : r.ok) (hl : l.length ≤ 800000000) :
    Calls Try.prog 18 #[.pointer (some ⟨R, 0, none⟩), .agg r.cells.toArray] w fun e w' => e = .returned (.tuple #[]) ∧ Bg w' B R (l ++ rlB r) ∧ Below B w w' := by
  obtain ⟨o, h⟩ := h
  refine (rels_put w B R o l h hB r hr hl).mono ?_
  rintro e w' ⟨rfl, o', h1, h2, h3⟩
  exact ⟨rfl, h.step hB h1 h2⟩
theorem encR_long {l : List Rl} {rela : Bool} (h : 512 < l.length) : encR l rela = none := by unfold encR; rw [if_neg (fun k => by omega)]
theorem encR_bad {l : List Rl} {rela : Bool} (i : Nat) (hi : i < l.length) (h : rlGood rela l[i] = false) : encR l rela = none := by
  unfold encR
  rw [if_neg (fun k => ?_)]
  have := List.all_eq_true.1 k.2 l[i] (List.getElem_mem hi)
  rw [h] at this; cases this
theorem encR_yes {l : List Rl} {rela : Bool} (h : l.length ≤ 512) (h2 : (l.take l.length).all (rlGood rela) = true) : encR l rela = some (flatB (l.take l.length)) := by
  rw [List.take_length] at h2 ⊢
  unfold encR; rw [if_pos ⟨h, h2⟩]
theorem take_good {l : List Rl} {rela : Bool} (i : Nat) (hi : i < l.length) (h : (l.take i).all (rlGood rela) = true) (h2 : rlGood rela l[i] = true) : (l.take (i + 1)).all (rlGood rela) = true := by
  rw [List.take_succ_eq_append_getElem hi, List.all_append, h]; simp [h2]
theorem take_flat {l : List Rl} (i : Nat) (hi : i < l.length) : flatB (l.take i) ++ rlB l[i] = flatB (l.take (i + 1)) := by
  rw [List.take_succ_eq_append_getElem hi, flatB_snoc]
theorem flat_short {l : List Rl} (h : l.length ≤ 512) (i : Nat) : (flatB (l.take i)).length ≤ 12288 := by
  have : ∀ m : List Rl, (flatB m).length ≤ m.length * 24 := by
    intro m
    induction m with
    | nil => simp [flatB]
    | cons r m ih =>
      have e : flatB (r :: m) = rlB r ++ flatB m := rfl
      have := rlB_short r
      rw [e, List.length_append, List.length_cons]; omega
  have k := this (l.take i)
  rw [List.length_take] at k
  omega
set_option maxHeartbeats 4000000 in
set_option maxRecDepth 20000 in
theorem rels_Encode (w : World) (v : Value) (l : List Rl) (h : ArgR w v l) (rela : Bool) (hl : l.length ≤ 1000000) :
    Calls Try.prog 12 #[v, .bool rela] w fun e w' => EncIs w' w.heap.size (encR l rela) e ∧ Below w.heap.size w w' := by
  obtain ⟨a, cap, rfl, p1, p2⟩ := h.form
  have HA := hide h
  have HB : Hid (Below w.heap.size w w) := Below.refl _ _
  have HNew := hide (le_New w)
  obtain ⟨O, hO⟩ : ∃ O, encR l rela = O := ⟨_, rfl⟩
  have HO := hide hO
  rw [hO]
  clear h hO
  by_cases hlen : 512 < l.length
  · have HF : Hid (O = none) := by rw [Hid, ← HO.out]; exact encR_long hlen
    go_enter Try.func12, Try.ntmps12
    go_wp2
    go_ret2
    exact ⟨by rw [HF.out]; rfl, HB.out⟩
  · go_enter Try.func12, Try.ntmps12
    go_wp2_with fail
    refine HNew.out.mono ?_
    rintro e w0 ⟨rfl, hbf, hb0, _⟩
    have HG0 : Hid (Bg w0 w.heap.size w.heap.size []) := ⟨_, hbf⟩
    have HB0 := hide hb0
    clear hbf hb0
    go_wp2
    go_loopw [8, 15] (fun _ vi wr => ∃ i : Nat, i ≤ l.length ∧ vi = .int .i64 (i : Int) ∧ Hid ((l.take i).all (rlGood rela) = true) ∧ Hid (Bg wr w.heap.size w.heap.size (flatB (l.take i))) ∧ Hid (Below w.heap.size w wr)) (fun _ vi _ => l.length - (intOf vi).toNat)
    case atStart => exact ⟨0, by omega, rfl, rfl, HG0.out, HB0.out⟩
    case round =>
      obtain ⟨i, hi, rfl, HGd, HGb, HBr⟩ := hrel
      by_cases hlt : i < l.length
      · have hltI : (i : Int) < (l.length : Int) := by omega
        have hcap : (l.length : Int) ≤ (cap : Int) := by omega
        obtain ⟨g, og, rfl, y0, y1, y2, y3, y4⟩ := (HA.out.below HBr.out).at i hlt
        have HOk : Hid (l[i].ok) := HA.out.1 _ (List.getElem_mem hlt)
        have HBad : Hid (rlGood rela l[i] = false → O = none) := fun k => by rw [← HO.out]; exact encR_bad i hlt k
        have HGd2 : Hid (rlGood rela l[i] = true → (l.take (i + 1)).all (rlGood rela) = true) := fun k => take_good i hlt HGd.out k
        have HFl : Hid (flatB (l.take i) ++ rlB l[i] = flatB (l.take (i + 1))) := take_flat i hlt
        have HSh : Hid ((flatB (l.take i)).length ≤ 800000000) := by have := flat_short (l := l) (by omega) i; rw [Hid]; omega
        have HZ : Hid ((wr.alloc (.cells #[.int .u64 0, .int .u32 0, .int .u32 0, .int .i64 0, .bool false] 43)).heap[wr.heap.size]? = some (.cells #[.int .u64 0, .int .u32 0, .int .u32 0, .int .i64 0, .bool false] 43 (0, 0))) := heap_alloc_new _ _
        have HBZ : Hid (Below wr.heap.size wr (wr.alloc (.cells #[.int .u64 0, .int .u32 0, .int .u32 0, .int .i64 0, .bool false] 43))) := Below.alloc (Below.refl _ _) (Nat.le_refl _) _
        generalize l[i] = r at *
        obtain ⟨n0, n1, n2, n3, b⟩ := r
        simp only at y0 y1 y2 y3 y4
        go_wp2_with ((with_reducible refine at_storeRl ?_); refine store_part rfl _ _ _ rfl wr.heap.size 0 43 _ [.int .u64 n0, .int .u32 n1, .int .u32 n2, .int .i64 n3, .bool b] #[.int .u64 n0, .int .u32 n1, .int .u32 n2, .int .i64 n3, .bool b] HZ.out rfl rfl rl_size (rl_one _ _ _ _ _) (Nat.le_refl 5) (by rfl) ?_)
        intro w1 h1 h2
        have hb1 : Below wr.heap.size wr w1 := HBZ.out.grown h2 (by simp) (fun k hk => by have := Option.some.inj hk; omega)
        have HB1 : Hid (Below w.heap.size w w1) := HBr.out.trans (hb1.mono HBr.out.size)
        have HG1 := hide (HGb.out.below hb1)
        have HL := hide (load_rl h1 rfl)
        have x3 := cells_of_block h1 3 _ rfl
        have x4 := cells_of_block h1 4 _ rfl
        clear h1 h2 hb1 y0 y1 y2 y3 y4
        have HP := hide (bg_putR w1 w.heap.size w.heap.size _ HG1.out HB1.out.size ⟨n0, n1, n2, n3, b⟩ HOk.out HSh.out)
        by_cases hgood : rlGood rela ⟨n0, n1, n2, n3, b⟩ = true
        · have HGd3 := hide (HGd2.out hgood)
          obtain ⟨rfl, hadd⟩ : b = rela ∧ (rela = true ∨ n3 = 0) := by
            simp only [rlGood, Bool.and_eq_true, beq_iff_eq, Bool.or_eq_true] at hgood
            exact hgood
          clear hgood HBad HGd2
          cases b
          · have h0 : n3 = 0 := by simpa using hadd
            subst h0
            clear hadd
            go_wp2_with ((with_reducible refine at_loadRl ?_); refine load_row rfl _ _ rfl wr.heap.size _ HL.out rfl ?_)
            refine HP.out.mono ?_
            rintro e w2 ⟨rfl, hg2, hb2⟩
            have HG2 : Hid (Bg w2 w.heap.size w.heap.size (flatB (l.take (i + 1)))) := by rw [Hid, ← HFl.out]; exact hg2
            have HB2 : Hid (Below w.heap.size w w2) := HB1.out.trans hb2
            clear hg2 hb2
            go_wp2
            go_roundw
            case rel => exact ⟨i + 1, by omega, by go_num, HGd3, HG2, HB2⟩
            case measure => simp [intOf]; omega
          · clear hadd
            go_wp2_with ((with_reducible refine at_loadRl ?_); refine load_row rfl _ _ rfl wr.heap.size _ HL.out rfl ?_)
            refine HP.out.mono ?_
            rintro e w2 ⟨rfl, hg2, hb2⟩
            have HG2 : Hid (Bg w2 w.heap.size w.heap.size (flatB (l.take (i + 1)))) := by rw [Hid, ← HFl.out]; exact hg2
            have HB2 : Hid (Below w.heap.size w w2) := HB1.out.trans hb2
            clear hg2 hb2
            go_wp2
            go_roundw
            case rel => exact ⟨i + 1, by omega, by go_num, HGd3, HG2, HB2⟩
            case measure => simp [intOf]; omega
        · have HF : Hid (O = none) := HBad.out (by simpa using hgood)
          have hbad : b ≠ rela ∨ (b = false ∧ rela = false ∧ n3 ≠ 0) := by
            simp only [rlGood, Bool.and_eq_true, beq_iff_eq, Bool.or_eq_true, not_and, not_or] at hgood
            by_cases e : b = rela
            · have := hgood e
              subst e
              cases b
              · exact .inr ⟨rfl, rfl, this.2⟩
              · exact absurd rfl this.1
            · exact .inl e
          clear hgood HBad HGd2 HP
          rcases hbad with hne | ⟨rfl, rfl, hne⟩
          · cases b <;> cases rela
            · exact absurd rfl hne
            · go_wp2
              go_ret2
              exact ⟨by rw [HF.out]; rfl, HB1.out⟩
            · go_wp2
              go_ret2
              exact ⟨by rw [HF.out]; rfl, HB1.out⟩
            · exact absurd rfl hne
          · go_wp2
            go_ret2
            exact ⟨by rw [HF.out]; rfl, HB1.out⟩
      · have him : i = l.length := by omega
        subst him
        have HF : Hid (O = some (flatB (l.take l.length))) := by rw [Hid, ← HO.out]; exact encR_yes (by omega) HGd.out
        have HBy := hide (bg_Bytes wr w.heap.size w.heap.size _ HGb.out (by have := flat_short (l := l) (by omega) l.length; omega))
        go_wp2_with fail
        refine HBy.out.mono ?_
        rintro e w3 ⟨v', rfl, h1, h2⟩
        have HB3 : Hid (Below w.heap.size w w3) := HBr.out.trans (h2.mono HBr.out.size)
        have HO3 : Hid (Own w3 w.heap.size v' (flatB (l.take l.length))) := h1.lowB HBr.out.size
        clear h1 h2
        go_wp2
        go_ret2
        exact ⟨by rw [HF.out]; exact ⟨_, rfl, HO3.out⟩, HB3.out⟩
end Go.Proofs.Ytkelipoiopkokaa
