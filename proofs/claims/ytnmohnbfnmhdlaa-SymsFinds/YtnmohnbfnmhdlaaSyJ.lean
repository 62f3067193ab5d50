
/-
  Layer 10 (syms): NewIndex.
-/
import Derived.Test.YtnmohnbfnmhdlaaSyI
import Derived.Carry
set_option linter.unusedVariables false
namespace Go.Proofs.Ytnmohnbfnmhdlaa
open Go.RowKit Go.PlainAid Go.Sort Go.WideMaps
theorem idx_start (w : World) (vs : Bool) : IdxAt ((w.alloc (.map #[] 0)).alloc (.cells #[.bool vs, .map (some w.heap.size)] 133)) (w.heap.size + 1) w.heap.size (w.heap.size + 2) vs 0 (fun _ => .slice none 0 0) (fun _ => []) := by
  have e : (w.alloc (.map #[] 0)).heap.size = w.heap.size + 1 := by simp
  have k := (MapKept.heap_alloc (w.alloc (.map #[] 0)) (.cells #[.bool vs, .map (some w.heap.size)] 133))
  rw [e] at k
  refine ⟨k.1, (MapV.made w).block (k.2 _ (by omega)), fun nm => World.ownsRow_nil _ _ _ _, fun a b _ => .inl rfl, by omega, by omega, by omega⟩
abbrev Sc (X M Z : Nat) (s : Sy) (w' : World) : Prop := w'.cell? ⟨X, 1, none⟩ = some (.map (some M)) ∧ w'.cell? ⟨Z, 0, none⟩ = some (.string ⟨s.name.toArray⟩) ∧ w'.cell? ⟨Z, 1, none⟩ = some (.string ⟨s.ver.toArray⟩) ∧ w'.cell? ⟨Z, 2, none⟩ = some (.bool s.hidden) ∧ w'.cell? ⟨Z, 3, none⟩ = some (.int .i64 s.bind) ∧ w'.cell? ⟨Z, 4, none⟩ = some (.bool s.defined) ∧ w'.cell? ⟨Z, 5, none⟩ = some (.int .u64 s.value) ∧ w'.cell? ⟨Z, 6, none⟩ = some (.int .u64 s.size)
theorem Sc.blocks {X M Z : Nat} {s : Sy} {w w' : World} (h : Sc X M Z s w) (hX : w'.heap[X]? = w.heap[X]?) (hZ : w'.heap[Z]? = w.heap[Z]?) : Sc X M Z s w' := by
  obtain ⟨a, b, c, d, e, f, g, i⟩ := h
  have kX : ∀ q v, w.cell? ⟨X, q, none⟩ = some v → w'.cell? ⟨X, q, none⟩ = some v := fun q v e => by rw [World.cell?_of_block (w := w) (a := ⟨X, q, none⟩) hX]; exact e
  have kZ : ∀ q v, w.cell? ⟨Z, q, none⟩ = some v → w'.cell? ⟨Z, q, none⟩ = some v := fun q v e => by rw [World.cell?_of_block (w := w) (a := ⟨Z, q, none⟩) hZ]; exact e
  exact ⟨kX _ _ a, kZ _ _ b, kZ _ _ c, kZ _ _ d, kZ _ _ e, kZ _ _ f, kZ _ _ g, kZ _ _ i⟩
theorem Sc.lt {X M Z : Nat} {s : Sy} {w : World} (h : Sc X M Z s w) : X < w.heap.size ∧ Z < w.heap.size := ⟨World.block_lt_of_cell? _ _ h.1, World.block_lt_of_cell? _ _ h.2.1⟩
theorem Sc.below {X M Z : Nat} {s : Sy} {w w' : World} (h : Sc X M Z s w) (hb : Below w.heap.size w w') : Sc X M Z s w' := h.blocks (hb.block _ h.lt.1) (hb.block _ h.lt.2)
theorem hd_new (w : World) (i : Nat) (ver : List UInt8) (hd : Bool) : ∀ j u, (Hd.cells ⟨i, ver, hd⟩)[j]? = some u → (w.alloc (.cells #[.int .i64 (i : Nat), .string ⟨ver.toArray⟩, .bool hd] 128)).cell? ⟨w.heap.size, j, none⟩ = some u := by
  intro j u hj
  have k := (MapKept.heap_alloc w (.cells #[.int .i64 (i : Nat), .string ⟨ver.toArray⟩, .bool hd] 128)).1
  unfold World.cell?
  rw [k]
  unfold Hd.cells at hj
  simpa using hj
/-- What an append behind a name's row, and the map's update behind it, leave. -/
theorem idx_step {W W6 : World} {X M B Z : Nat} {vs : Bool} {n : Nat} {f : List UInt8 → Value} {g : List UInt8 → List Hd} {s : Sy} (h : IdxAt W X M B vs n f g) (hs : s.name.length ≤ maxLen) (hn : n < maxLen) (x : Hd) (v6 : Value)
    (hsc : Sc X M Z s W) (hZ : ∀ k, (f s.name).ownBlock = some k → k < Z) (hZM : Z ≠ M) (r6 : OwnH W6 B v6 (g s.name ++ [x])) (g6 : W.grownBy W6 (f s.name).ownBlock) (p6 : v6.ownBlock = (f s.name).ownBlock ∨ v6.ownBlock = some W.heap.size) :
    Sc X M Z s W6 ∧ ∃ W7, (Instr.mapUpdate 131 (.map (some M)) (.string ⟨s.name.toArray⟩) v6).run Try.prog W6 = .ok () W7 ∧ Sc X M Z s W7 ∧ W.heap.size ≤ W7.heap.size ∧ W7.os = W.os ∧ W7.tape = W.tape ∧ W7.output = W.output ∧ (∀ k, k < W.heap.size → k < B → k ≠ M → W7.heap[k]? = W.heap[k]?) ∧
      IdxAt W7 X M B vs (n + 1) (fun t => if t = s.name then v6 else f t) (fun t => if t = s.name then g s.name ++ [x] else g t) := by
  have hfB : ∀ k, (f s.name).ownBlock = some k → B ≤ k ∧ k < W.heap.size := fun k e => World.ownsRow.lt (h.row s.name) k e
  have s6 : Sc X M Z s W6 := hsc.blocks (g6.block X hsc.lt.1 (fun e => by have := (hfB X e.symm).1; have := h.hX; omega)) (g6.block Z hsc.lt.2 (fun e => by have := hZ Z e.symm; omega))
  have m6 : MapV W6 M n f := h.map.block (g6.block M h.map.lt (fun e => by have := (hfB M e.symm).1; have := h.hM; omega))
  obtain ⟨W7, hr, hm7, g7⟩ := m6.put s.name hs hn v6
  refine ⟨s6, W7, hr, s6.blocks (g7.block X s6.lt.1 (fun e => h.ne (Option.some.inj e))) (g7.block Z s6.lt.2 (fun e => hZM (Option.some.inj e))), Nat.le_trans g6.size g7.size, g7.os.trans g6.os, g7.tape.trans g6.tape, g7.output.trans g6.output, fun k hk hB hM => ?_, h.more s.name x v6 r6 g6 p6 hm7 g7⟩
  rw [g7.block k (Nat.lt_of_lt_of_le hk g6.size) (fun e => hM (Option.some.inj e)), g6.block k hk (fun e => by have := (hfB k e.symm).1; omega)]
/-- An index of the symbols l was answered. -/
def IsIdx (vs : Bool) (l : List Sy) (e : Ending) (w' : World) : Prop := ∃ X M B n f, e = .returned (.pointer (some ⟨X, 0, none⟩)) ∧ IdxAt w' X M B vs n f (hds l 0)
set_option maxHeartbeats 4000000 in
set_option maxRecDepth 20000 in
theorem syms_NewIndex (w : World) (a : Option Addr) (cap : Nat) (l : List Sy) (h : SymsAt w a l) (hl : l.length ≤ cap) (hc : cap ≤ maxLen) (hl2 : l.length ≤ 1000) (vs : Bool) :
    Calls Try.prog 20 #[.slice a l.length cap, .bool vs] w fun e w' => IsIdx vs l e w' ∧ Below w.heap.size w w' := by
  obtain ⟨n, hN⟩ : ∃ n, l.length = n := ⟨_, rfl⟩
  have HN := hide hN
  have HS := hide h
  have hcap : cap ≤ 9223372036854775807 := by unfold maxLen at hc; omega
  rw [hN] at hl hl2 ⊢
  clear hN h hc
  have hmm := @run_makeMap Try.prog
  have HI0 := hide (idx_start w vs)
  have HB0 := hide (bel2 w (.map #[] 0) (.cells #[.bool vs, .map (some w.heap.size)] 133))
  go_enter Try.func20, Try.ntmps20
  go_wp2
  clear hmm
  generalize hM : w.heap.size = M at *
  generalize hw0 : (w.alloc _).alloc _ = w0 at *
  have HM := hide hM
  clear hM hw0
  go_loopw [14] (fun vi wr => ∃ (i : Nat) (f : List UInt8 → Value), vi = .int .i64 i ∧ i ≤ n ∧ Hid (Below M w wr) ∧ Hid (M + 2 ≤ wr.heap.size) ∧ Hid (IdxAt wr (M + 1) M (M + 2) vs i f (hds (l.take i) 0)))
    (fun vi _ => n - (intOf vi).toNat)
  case atStart => exact ⟨0, _, rfl, by omega, HB0, by have := HI0.out.lt; have := HM.out; unfold Hid; omega, HI0⟩
  case round =>
    obtain ⟨i, f, rfl, hi, HB, HL, HI⟩ := hrel
    clear HI0 HB0
    by_cases hlt : i < n
    · have hltI : (i : Int) < (n : Int) := by omega
      have hil : i < l.length := by rw [HN.out]; exact hlt
      obtain ⟨y, o, rfl, hs, hok⟩ := (HS.out.below (by rw [HM.out]; exact HB.out)).at i hil
      obtain ⟨c0, c1, c2, c3, c4, c5, c6⟩ := hs
      obtain ⟨s, hse⟩ : ∃ s, l[i] = s := ⟨_, rfl⟩
      have HSE := hide hse
      rw [hse] at c0 c1 c2 c3 c4 c5 c6 hok
      have hsn := hok.n
      clear hse hok
      go_wp2_with fail
      have nc := new_cells wr s
      have HB0 : Hid (Below M w _) := HB.out.trans ((bel1 wr (.cells #[.string ⟨s.name.toArray⟩, .string ⟨s.ver.toArray⟩, .bool s.hidden, .int .i64 s.bind, .bool s.defined, .int .u64 s.value, .int .u64 s.size] 60)).mono (Nat.le_trans (by omega) HL.out))
      have HI1 := hide (HI.out.stay (bel1 wr (.cells #[.string ⟨s.name.toArray⟩, .string ⟨s.ver.toArray⟩, .bool s.hidden, .int .i64 s.bind, .bool s.defined, .int .u64 s.value, .int .u64 s.size] 60)))
      have HZ : Hid (∀ k, (f s.name).ownBlock = some k → k < wr.heap.size) := fun k e => (World.ownsRow.lt (HI.out.row s.name) k e).2
      have HZB : Hid (M + 2 ≤ wr.heap.size) := HL
      have HL1 : Hid (M + 2 ≤ (wr.alloc (.cells #[.string ⟨s.name.toArray⟩, .string ⟨s.ver.toArray⟩, .bool s.hidden, .int .i64 s.bind, .bool s.defined, .int .u64 s.value, .int .u64 s.size] 60)).heap.size) := Nat.le_trans HL.out (bel1 wr _).size
      clear HB HL HI
      generalize wr.heap.size = Z at *
      generalize wr.alloc _ = w1 at *
      clear c0 c1 c2 c3 c4 c5 c6
      have k := syms_Exported s w1
      cases hh : had s
      · rw [hh] at k
        have HH := hide hh
        clear hh
        refine k.mono ?_
        rintro e w2 ⟨rfl, hb2⟩
        have HB2 : Hid (Below M w w2) := HB0.out.trans (hb2.mono (Nat.le_trans (by omega) HL1.out))
        have HI2 := hide (HI1.out.stay hb2)
        have HL2 : Hid (M + 2 ≤ w2.heap.size) := Nat.le_trans HL1.out hb2.size
        clear k hb2
        go_wp2
        go_roundw
        case rel => exact ⟨i + 1, f, by go_num, by omega, HB2, HL2, by
          have e : hds (l.take (i + 1)) 0 = hds (l.take i) 0 := funext fun t => by
            rw [hds_more l i hil t, HSE.out, HH.out]; simp
          rw [Hid, e]
          exact HI2.out.nothing (by omega)⟩
        case measure => simp [intOf]; omega
      · rw [hh] at k
        have HH := hide hh
        clear hh
        refine k.mono ?_
        rintro e w2 ⟨rfl, hb2⟩
        have HB2 : Hid (Below M w w2.drew) := (HB0.out.trans (hb2.mono (Nat.le_trans (by omega) HL1.out))).drew
        have HI2 : Hid (IdxAt w2.drew (M + 1) M (M + 2) vs i f (hds (l.take i) 0)) := (HI1.out.stay hb2).stay ⟨rfl, rfl, rfl, Nat.le_refl _, fun _ _ => rfl⟩
        have HL2 : Hid (M + 2 ≤ w2.drew.heap.size) := Nat.le_trans HL1.out hb2.size
        have SC2 : Sc (M + 1) M Z s w2.drew := by
          have nc1 := nc.below hb2 nc.lt
          exact ⟨HI2.out.cells.2, nc1.c0, nc1.c1, nc1.c2, nc1.c3, nc1.c4, nc1.c5, nc1.c6⟩
        clear k hb2 HB0 HI1 HL1 nc
        have HGET := hide (fun W (hb : Below w2.drew.heap.size w2.drew W) => (HI2.out.stay hb).map.get s.name hsn)
        have l0 := HGET.out w2.drew (Below.refl _ _)
        obtain ⟨v, hv⟩ : ∃ v, f s.name = v := ⟨_, rfl⟩
        rw [hv] at l0 HGET
        have HV := hide hv
        clear hv
        go_wp2_with fail
        go_region_held_law (fun w' => w'.cell? ⟨M + 1, 1, none⟩ = some (.map (some M)) ∧ w'.cell? ⟨Z, 0, none⟩ = some (.string ⟨s.name.toArray⟩) ∧ w'.cell? ⟨Z, 1, none⟩ = some (.string ⟨s.ver.toArray⟩) ∧ w'.cell? ⟨Z, 2, none⟩ = some (.bool s.hidden) ∧ w'.cell? ⟨Z, 3, none⟩ = some (.int .i64 s.bind) ∧ w'.cell? ⟨Z, 4, none⟩ = some (.bool s.defined) ∧ w'.cell? ⟨Z, 5, none⟩ = some (.int .u64 s.value) ∧ w'.cell? ⟨Z, 6, none⟩ = some (.int .u64 s.size))
          (first | with_reducible assumption | exact HKA.out _)
          (first
            | (go_at_call 58; refine (syms_hold _ s _).mono ?_; rintro e W3 ⟨rfl, hb3⟩; have l3 := HGET.out W3 hb3; have l4 := (fun o => HGET.out (W3.alloc o) (hb3.alloc hb3.size o)); have SC3 := SC2.below hb3; have HKA := hide (fun o => SC3.below (bel1 W3 o)); have HB3 := hide hb3; have HIA := hide (fun o => (HI2.out.stay hb3).stay (bel1 W3 o)); have HROW : Hid (∀ o, OwnH (W3.alloc o) (M + 2) v (hds (l.take i) 0 s.name)) := (fun o => by have := (HIA.out o).row s.name; rw [HV.out] at this; exact this); have HLA3 : Hid (∀ o, M + 2 ≤ (W3.alloc o).heap.size) := (fun o => Nat.le_trans HL2.out (Nat.le_trans hb3.size (bel1 W3 o).size)); clear hb3)
            | (refine step_append_H rfl (.tmp 33) (.tmp 37) rfl (M + 2) v (hds (l.take i) 0 s.name) (HROW.out _) ⟨i, s.ver, s.hidden⟩ rfl _ rfl (hd_new W3 i s.ver s.hidden) (Nat.le_trans (hds_len _ _ _) (Nat.le_trans (List.length_take_le _ _) (by omega))) (HLA3.out _) ?_; intro v6 W6 r6 g6 p6; obtain ⟨SC6, W7, hup, SC7, HLA⟩ := idx_step (s := s) (HIA.out (.cells #[.int .i64 (i : Nat), .string ⟨s.ver.toArray⟩, .bool s.hidden] 128)) hsn (by unfold maxLen; omega) ⟨i, s.ver, s.hidden⟩ v6 (HKA.out _) HZ.out (by have := HZB.out; omega) r6 (by rw [HV.out]; exact g6) (by rw [HV.out]; exact p6); have HIX := hide HLA; clear r6 g6 p6 HLA))
        all_goals
          have hst := hide (HB2.out.trans ((HB3.out.trans ((bel1 W3 (.cells #[.int .i64 (i : Nat), .string ⟨s.ver.toArray⟩, .bool s.hidden] 128)).mono HB3.out.size)).mono (Nat.le_trans (by omega) HL2.out)))
          have HB7 : Hid (Below M w W7) := by
            obtain ⟨z1, z2, z3, z4, z5, z6⟩ := HIX.out
            have b := hst.out
            exact ⟨z2.trans b.os, z3.trans b.tape, z4.trans b.output, Nat.le_trans b.size z1, fun k hk => (z5 k (by have := HLA3.out (.cells #[.int .i64 (i : Nat), .string ⟨s.ver.toArray⟩, .bool s.hidden] 128); omega) (by omega) (by omega)).trans (b.block k hk)⟩
          have HL7 : Hid (M + 2 ≤ W7.heap.size) := Nat.le_trans (HLA3.out _) HIX.out.1
          have HI7 := hide HIX.out.2.2.2.2.2
          clear hst SC2 SC3 SC6 SC7 HKA HIA HROW HLA3 HB3 HIX HI2 HB2 HL2 HGET l0 l3 l4 hup
          go_wp2
          go_roundw
          case rel => exact ⟨i + 1, _, by go_num, by omega, HB7, HL7, by
            have e : hds (l.take (i + 1)) 0 = fun t => if t = s.name then hds (l.take i) 0 s.name ++ [⟨i, s.ver, s.hidden⟩] else hds (l.take i) 0 t := funext fun t => by
              rw [hds_more l i hil t, HSE.out, HH.out]
              by_cases e : t = s.name
              · subst e; simp
              · have e2 : ¬ s.name = t := fun h => e h.symm
                simp [e, e2]
            rw [Hid, e]
            exact HI7.out⟩
          case measure => simp [intOf]; omega
    · have hltI : ¬ (i : Int) < (n : Int) := by omega
      have he : i = n := by omega
      subst he
      have HI2 := HI.out
      rw [← HN.out, List.take_length] at HI2
      have HI3 := hide HI2
      clear HI2
      go_wp2
      go_ret
      exact ⟨⟨_, _, _, _, _, rfl, HI3.out⟩, by rw [HM.out]; exact HB.out⟩
end Go.Proofs.Ytnmohnbfnmhdlaa
