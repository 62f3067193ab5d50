
/-
  Layer 7's reference: Find.
-/
import Derived.Test.YtegcdddfccmljaaZpO
set_option linter.unusedVariables false
namespace Go.Proofs.Ytegcdddfccmljaa
open Go.RowKit Go.PlainAid
/-- Where an entry's bytes begin, told by the whole. -/
theorem begin_ref (l : List UInt8) (f : Nat) (e : En) (hf : f ≤ l.length) : beginZ (win l 0 f) e =
    if f < e.pos + 30 ∨ rd l e.pos 4 ≠ 67324752 ∨ l.length < e.pos + 30 + rd l (e.pos + 26) 2 ∨ rd l (e.pos + 8) 2 ≠ 0 ∨ e.size ≠ e.stored ∨ f < e.pos + 30 + rd l (e.pos + 26) 2 + rd l (e.pos + 28) 2 + e.size ∨ win l (e.pos + 30) (rd l (e.pos + 26) 2) ≠ e.name then none
    else some (e.pos + 30 + rd l (e.pos + 26) 2 + rd l (e.pos + 28) 2) := by
  unfold beginZ
  have hw : (win l 0 f).length = f := win_len l 0 f (by omega)
  rw [hw]
  by_cases h1 : f < e.pos + 30
  · rw [if_neg (fun k => by omega), if_pos (.inl h1)]
  · have r := fun k (hk : k ≤ 30) s (hs : k + s ≤ 30) => rd_win l 0 f (e.pos + k) s (by omega) (by omega)
    have r0 := rd_win l 0 f e.pos 4 (by omega) (by omega)
    have r8 := r 8 (by omega) 2 (by omega)
    have r26 := r 26 (by omega) 2 (by omega)
    have r28 := r 28 (by omega) 2 (by omega)
    rw [Nat.zero_add] at r0 r8 r26 r28
    rw [r0, r8, r26, r28]
    generalize rd l e.pos 4 = q0
    generalize rd l (e.pos + 8) 2 = q8
    generalize rd l (e.pos + 26) 2 = q26
    generalize rd l (e.pos + 28) 2 = q28
    by_cases h2 : q0 = 67324752
    · by_cases h3 : q8 = 0
      · rw [if_pos ⟨by omega, h2, h3⟩]
        by_cases h4 : e.pos + 30 + q26 ≤ f
        · rw [win_win l 0 f (e.pos + 30) q26 (by omega), Nat.zero_add]
          by_cases h5 : win l (e.pos + 30) q26 = e.name
          · rw [if_pos ⟨h4, h5⟩]
            by_cases h6 : e.stored = e.size ∧ e.pos + 30 + q26 + q28 + e.size ≤ f
            · rw [if_pos h6, if_neg]
              rintro (h | h | h | h | h | h | h)
              · omega
              · exact h h2
              · omega
              · exact h h3
              · exact h h6.1.symm
              · omega
              · exact h h5
            · rw [if_neg h6, if_pos]
              by_cases h7 : e.size = e.stored
              · exact .inr (.inr (.inr (.inr (.inr (.inl (by omega))))))
              · exact .inr (.inr (.inr (.inr (.inl h7))))
          · rw [if_neg (fun k => h5 k.2), if_pos (.inr (.inr (.inr (.inr (.inr (.inr h5))))))]
        · rw [if_neg (fun k => h4 k.1), if_pos (.inr (.inr (.inr (.inr (.inr (.inl (by omega)))))))]
      · rw [if_neg (fun k => h3 k.2.2), if_pos (.inr (.inr (.inr (.inl h3))))]
    · rw [if_neg (fun k => h2 k.2.1), if_pos (.inr (.inl h2))]
/-- What is found, from the first entry of that name. -/
def refF (l : List UInt8) (f : Nat) (o : Option En) : Nat × Nat × Int :=
  match o with
  | none => (0, 0, 71)
  | some e => if e.method = 0 then
      match beginZ (win l 0 f) e with
      | none => (0, 0, 70)
      | some a => if a % 256 = 0 then (a, e.size, 0) else (0, 0, 73)
    else (0, 0, 72)
theorem find_refF {l nm : List UInt8} {es : List En} {f : Nat} (h : readZ l = some (es, f)) : findZ l nm = refF l f (es.find? (named nm)) := by
  unfold findZ; rw [h]; rfl
theorem find_at {p : En → Bool} {es : List En} {i : Nat} (h : i < es.length) : (es.drop i).find? p = if p es[i] = true then some es[i] else (es.drop (i + 1)).find? p := by
  rw [List.drop_eq_getElem_cons h, List.find?_cons]
  cases p es[i] <;> simp
theorem readZ_len {l : List UInt8} {es : List En} {f : Nat} (h : readZ l = some (es, f)) : f ≤ l.length ∧ l.length ≤ 262144 := by
  unfold readZ at h
  split at h
  · simp at h
  · split at h
    · simp at h
    · rename_i p hp
      have := lastOf_is hp
      split at h
      · split at h
        · simp only [Option.map_eq_some_iff, Prod.mk.injEq] at h
          obtain ⟨a, ha, _, rfl⟩ := h
          omega
        · simp at h
      · simp at h
set_option maxHeartbeats 8000000 in
set_option maxRecDepth 20000 in
theorem ref_Find (w : World) (v : Value) (l nm : List UInt8) (h : Arg w v l) (hl : l.length ≤ 263144) :
    Calls Try.prog 11 #[v, .string ⟨nm.toArray⟩] w fun x w' => x = .returned (findV (findZ l nm)) ∧ Below w.heap.size w w' := by
  have HA := hide h
  have hR := ref_List w v l h hl
  obtain ⟨a, cap, rfl, hlc, hcm, _⟩ := h.isSlice
  have hcap : cap ≤ 9223372036854775807 := by unfold maxLen at hcm; omega
  obtain ⟨F, hF⟩ : ∃ F, findZ l nm = F := ⟨_, rfl⟩
  have HF := hide hF
  obtain ⟨O, hO⟩ : ∃ O, readZ l = O := ⟨_, rfl⟩
  have HO := hide hO
  rw [hO] at hR
  rw [hF]
  obtain ⟨n, hn⟩ : ∃ n, l.length = n := ⟨_, rfl⟩
  have HN := hide hn
  rw [hn] at hR HA hl hlc ⊢
  clear h hF hO hn hcm
  go_enter Try.func11, Try.ntmps11
  go_wp2_with fail
  refine hR.mono ?_
  rintro e w1 ⟨hE, hb1⟩
  have HB1 := hide hb1
  clear hR hb1
  cases O with
  | none =>
    have hFe := HF.out
    rw [findZ, HO.out] at hFe
    simp only at hFe
    subst hFe
    have hE' : e = _ := hE
    subst hE'
    clear hE
    go_wp2
    go_ret3
    exact ⟨rfl, HB1.out⟩
  | some y =>
    obtain ⟨es, f⟩ := y
    obtain ⟨hok, hlen⟩ := readZ_ok HO.out
    obtain ⟨hf1, hf2⟩ := readZ_len HO.out
    obtain ⟨ve, rfl, hown⟩ := hE
    have HOW := hide hown
    obtain ⟨a1, c1, rfl⟩ := hown.none
    have HOK := hide hok
    have HFE : Hid (F = refF l f (es.find? (named nm))) := by rw [Hid, ← HF.out, find_refF HO.out]
    have HFL := hide (And.intro hf1 hf2)
    rw [HN.out] at hf1 hf2
    have hfI : (f : Int) ≤ 262144 := by omega
    clear HF HO hown hok
    go_wp2
    go_loopw [10, 11, 12, 13] (fun v10 _ _ _ wr => ∃ i : Nat, i ≤ es.length ∧ v10 = .int .i64 i ∧ Hid (Below w1.heap.size w1 wr) ∧ Hid (F = refF l f ((es.drop i).find? (named nm)))) (fun v10 _ _ _ _ => es.length - (intOf v10).toNat)
    case atStart => exact ⟨0, by omega, rfl, Below.refl _ _, HFE⟩
    case round =>
      obtain ⟨i, hi, rfl, HB, HR⟩ := hrel
      by_cases hlt : i < es.length
      · have hltI : (i : Int) < (es.length : Int) := by omega
        obtain ⟨g1, d1, e1, p1, p2, gl, hc1⟩ := HOW.out.cells (by omega)
        injection e1 with e11 e12 e13
        subst e11 e13
        have q1 : c1 ≤ 9223372036854775807 := by unfold maxLen at p2; omega
        obtain ⟨k0, k1, k2, k3, k4⟩ := hc1 i hlt
        have mv : ∀ j u, w1.cell? ⟨g1, j, none⟩ = some u → wr.cell? ⟨g1, j, none⟩ = some u := fun j u hu => by rw [HB.out.cell (p := ⟨g1, j, none⟩) gl]; exact hu
        have x0 := mv _ _ k0
        have x1 := mv _ _ k1
        have x2 := mv _ _ k2
        have x3 := mv _ _ k3
        have x4 := mv _ _ k4
        have hoke := HOK.out es[i] (List.getElem_mem hlt)
        have hFi := HR.out
        rw [find_at hlt] at hFi
        clear k0 k1 k2 k3 k4 mv hc1 HR
        generalize es[i] = y at *
        obtain ⟨nn, me, si, st, po⟩ := y
        have hme := hoke.m
        have hsi := hoke.s
        have hpo := hoke.p
        simp only at x0 x1 x2 x3 x4 hme hsi hpo
        have HBX : Hid (Below w1.heap.size w1 (wr.alloc (.cells #[.string ⟨nn.toArray⟩, .int .i64 me, .int .u64 si, .int .u64 st, .int .u64 po] 33))) := HB.out.alloc HB.out.size _
        cases hp : named nm ⟨nn, me, si, st, po⟩ with
        | false =>
          rw [if_neg (by rw [hp]; simp)] at hFi
          have HFI := hide hFi
          have hpb : (nn == nm) = false := hp
          clear hp hFi hoke
          go_wp2
          go_roundw
          case rel => exact ⟨i + 1, by omega, by go_num, HBX, HFI⟩
          case measure => simp [intOf]; omega
        | true =>
          rw [if_pos hp, refF] at hFi
          simp only at hFi
          have hpe : nn = nm := by simpa [named] using hp
          subst hpe
          clear hp hoke
          have HBY : Hid (Below w.heap.size w (wr.alloc (.cells #[.string ⟨nn.toArray⟩, .int .i64 me, .int .u64 si, .int .u64 st, .int .u64 po] 33))) := HB1.out.trans (HBX.out.mono HB1.out.size)
          rcases (Decidable.em (me = 0)).symm with cm | cm
          · rw [if_neg cm] at hFi
            subst hFi
            have hb : ((me : Int) != 0) = true := by simp; omega
            go_wp2
            go_ret3
            exact ⟨rfl, HBY.out⟩
          subst cm
          rw [if_pos rfl, begin_ref l f _ HFL.out.1] at hFi
          simp only [HN.out] at hFi
          have hAW := HA.out.below HBY.out rfl
          have zz : ∀ j u, (#[.string ⟨nn.toArray⟩, .int .i64 0, .int .u64 si, .int .u64 st, .int .u64 po] : Array Value)[j]? = some u → (wr.alloc (.cells #[.string ⟨nn.toArray⟩, .int .i64 0, .int .u64 si, .int .u64 st, .int .u64 po] 33)).cell? ⟨wr.heap.size, j, none⟩ = some u := fun j u hu => by
            rw [World.cell?_alloc_at _ _ _ _ (by simp)]; simpa using hu
          have z2 := zz 2 _ rfl
          have z3 := zz 3 _ rfl
          have z4 := zz 4 _ rfl
          have HAW := hide hAW
          have HZ2 := hide z2
          have HZ3 := hide z3
          have HZ4 := hide z4
          have hpI : (po : Int) < 4294967296 := by omega
          have hsI : (si : Int) < 4294967296 := by omega
          have r26 := ref_n _ _ l hAW (po + 26) 2 (by omega) (by omega) (by omega)
          have hq : ∀ k, Calls Try.prog 18 #[.slice a n cap, .int .u64 ((po : Int) + 28), .int .i64 2] ((wr.alloc (.cells #[.string ⟨nn.toArray⟩, .int .i64 0, .int .u64 si, .int .u64 st, .int .u64 po] 33)).drewN k) fun e w' => e = .returned (.int .u64 (rd l (po + 28) 2)) ∧ w' = (wr.alloc (.cells #[.string ⟨nn.toArray⟩, .int .i64 0, .int .u64 si, .int .u64 st, .int .u64 po] 33)).drewN k := fun k =>
            (ref_n ((wr.alloc (.cells #[.string ⟨nn.toArray⟩, .int .i64 0, .int .u64 si, .int .u64 st, .int .u64 po] 33)).drewN k) _ l (Arg.heap hAW rfl) (po + 28) 2 (by omega) (by omega) (by omega)).mono fun e w' ⟨q1, q2⟩ => ⟨q1, q2.symm⟩
          have b26 := rd2 l (po + 26)
          have b28 := rd2 l (po + 28)
          obtain ⟨X, hX⟩ : ∃ X, win l (po + 30) (rd l (po + 26) 2) = X := ⟨_, rfl⟩
          rw [hX] at hFi
          have HX0 := hide hX
          have HR0 : Hid (∀ W, Arg W (.slice a n cap) l → Calls Try.prog 18 #[.slice a n cap, .int .u64 (po : Int), .int .i64 4] W fun e w' => e = .returned (.int .u64 (rd l po 4)) ∧ W = w') := fun W hW => ref_n W _ l hW po 4 (by omega) (by omega) (by omega)
          have HR8 : Hid (∀ W, Arg W (.slice a n cap) l → Calls Try.prog 18 #[.slice a n cap, .int .u64 ((po : Int) + 8), .int .i64 2] W fun e w' => e = .returned (.int .u64 (rd l (po + 8) 2)) ∧ W = w') := fun W hW => ref_n W _ l hW (po + 8) 2 (by omega) (by omega) (by omega)
          generalize rd l (po + 26) 2 = L at *
          generalize rd l (po + 28) 2 = q28 at *
          generalize rd l po 4 = q0 at *
          generalize rd l (po + 8) 2 = q8 at *
          have iL : (L : Int) < 65536 := by omega
          have i28 : (q28 : Int) < 65536 := by omega
          have HFI := hide hFi
          clear hX hFi hAW zz z2 z3 z4
          go_wp2_with fail
          refine r26.mono ?_
          rintro e w3 ⟨rfl, rfl⟩
          have z4 := HZ4.out
          clear r26 x0 x1 x2 x3 x4
          go_wp2_with fail
          go_quiet ((go_at_call 18; exact Calls.quiet_of_same (hq _)))
          have HW4 : Hid (Arg ((wr.alloc (.cells #[.string ⟨nn.toArray⟩, .int .i64 0, .int .u64 si, .int .u64 st, .int .u64 po] 33)).drewN nq) (.slice a n cap) l) := Arg.heap HAW.out rfl
          have y2 : ((wr.alloc (.cells #[.string ⟨nn.toArray⟩, .int .i64 0, .int .u64 si, .int .u64 st, .int .u64 po] 33)).drewN nq).cell? ⟨wr.heap.size, 2, none⟩ = some (.int .u64 si) := HZ2.out
          have y3 : ((wr.alloc (.cells #[.string ⟨nn.toArray⟩, .int .i64 0, .int .u64 si, .int .u64 st, .int .u64 po] 33)).drewN nq).cell? ⟨wr.heap.size, 3, none⟩ = some (.int .u64 st) := HZ3.out
          have y4 : ((wr.alloc (.cells #[.string ⟨nn.toArray⟩, .int .i64 0, .int .u64 si, .int .u64 st, .int .u64 po] 33)).drewN nq).cell? ⟨wr.heap.size, 4, none⟩ = some (.int .u64 po) := HZ4.out
          have HBW : Hid (Below w.heap.size w ((wr.alloc (.cells #[.string ⟨nn.toArray⟩, .int .i64 0, .int .u64 si, .int .u64 st, .int .u64 po] 33)).drewN nq)) := ⟨HBY.out.os, HBY.out.tape, HBY.out.output, HBY.out.size, HBY.out.block⟩
          clear hq z4 HZ2 HZ3 HZ4 HAW HBY HBX
          generalize (wr.alloc (.cells #[.string ⟨nn.toArray⟩, .int .i64 0, .int .u64 si, .int .u64 st, .int .u64 po] 33)).drewN nq = W at *
          generalize wr.heap.size = Z at *
          have r0 := HR0.out W HW4.out
          have r8 := HR8.out W HW4.out
          have HR0' := HR0
          clear HR0 HR8 HR0'
          rcases (Decidable.em (f < po + 30)) with c1 | c1
          · have hFi := HFI.out
            rw [if_pos (.inl c1)] at hFi
            simp only at hFi
            subst hFi
            have t1 : decide ((f : Int) < (po : Int) + 30) = true := decide_eq_true (by omega)
            clear HFI
            go_wp2
            go_ret3
            exact ⟨rfl, HBW.out⟩
          have t1 : decide ((f : Int) < (po : Int) + 30) = false := decide_eq_false (by omega)
          rcases (Decidable.em (q0 ≠ 67324752)) with c2 | c2
          · have hFi := HFI.out
            rw [if_pos (.inr (.inl c2))] at hFi
            simp only at hFi
            subst hFi
            have t2 : ((q0 : Int) != 67324752) = true := by simp; omega
            clear HFI
            go_wp2_with fail
            refine r0.mono ?_
            rintro e w1 ⟨rfl, rfl⟩
            go_wp2
            go_ret3
            exact ⟨rfl, HBW.out⟩
          obtain rfl : q0 = 67324752 := Decidable.not_not.1 c2
          rcases (Decidable.em (n < po + 30 + L)) with c3 | c3
          · have hFi := HFI.out
            rw [if_pos (.inr (.inr (.inl c3)))] at hFi
            simp only at hFi
            subst hFi
            have t3 : decide ((n : Int) < (po : Int) + 30 + (L : Int)) = true := decide_eq_true (by omega)
            clear HFI
            go_wp2_with fail
            refine r0.mono ?_
            rintro e w1 ⟨rfl, rfl⟩
            go_wp2
            go_ret3
            exact ⟨rfl, HBW.out⟩
          have t3 : decide ((n : Int) < (po : Int) + 30 + (L : Int)) = false := decide_eq_false (by omega)
          rcases (Decidable.em (q8 ≠ 0)) with c4 | c4
          · have hFi := HFI.out
            rw [if_pos (.inr (.inr (.inr (.inl c4))))] at hFi
            simp only at hFi
            subst hFi
            have t4 : ((q8 : Int) != 0) = true := by simp; omega
            clear HFI
            go_wp2_with fail
            refine r0.mono ?_
            rintro e w1 ⟨rfl, rfl⟩
            go_wp2_with fail
            refine r8.mono ?_
            rintro e w1 ⟨rfl, rfl⟩
            go_wp2
            go_ret3
            exact ⟨rfl, HBW.out⟩
          obtain rfl : q8 = 0 := Decidable.not_not.1 c4
          rcases (Decidable.em (si ≠ st)) with c5 | c5
          · have hFi := HFI.out
            rw [if_pos (.inr (.inr (.inr (.inr (.inl c5)))))] at hFi
            simp only at hFi
            subst hFi
            have t5 : ((si : Int) != (st : Int)) = true := by simp; omega
            clear HFI
            go_wp2_with fail
            refine r0.mono ?_
            rintro e w1 ⟨rfl, rfl⟩
            go_wp2_with fail
            refine r8.mono ?_
            rintro e w1 ⟨rfl, rfl⟩
            go_wp2
            go_ret3
            exact ⟨rfl, HBW.out⟩
          obtain rfl : si = st := Decidable.not_not.1 c5
          have t5 : ((si : Int) != (si : Int)) = false := by simp
          rcases (Decidable.em (f < po + 30 + L + q28 + si)) with c6 | c6
          · have hFi := HFI.out
            rw [if_pos (.inr (.inr (.inr (.inr (.inr (.inl c6))))))] at hFi
            simp only at hFi
            subst hFi
            have t6 : decide ((f : Int) < (po : Int) + 30 + (L : Int) + (q28 : Int) + (si : Int)) = true := decide_eq_true (by omega)
            clear HFI
            go_wp2_with fail
            refine r0.mono ?_
            rintro e w1 ⟨rfl, rfl⟩
            go_wp2_with fail
            refine r8.mono ?_
            rintro e w1 ⟨rfl, rfl⟩
            go_wp2
            go_ret3
            exact ⟨rfl, HBW.out⟩
          have t6 : decide ((f : Int) < (po : Int) + 30 + (L : Int) + (q28 : Int) + (si : Int)) = false := decide_eq_false (by omega)
          have hHc : (po : Int) + 30 + (L : Int) ≤ (cap : Int) := by omega
          have hHin : po + 30 + L ≤ l.length := by rw [HN.out]; omega
          have hpos : (po : Int) ≤ 262144 := by omega
          have hFi := HFI.out
          by_cases hcp : cap = po + 30
          · subst hcp
            have tx : (convert 22 9 (.slice a L 0)).run Try.prog W = .ok (.string ⟨X.toArray⟩) W := by
              have e := HW4.out
              rw [← HN.out] at e
              rw [← HX0.out]
              exact (e.cut0 (po + 30) L hHin rfl).text
            rcases (Decidable.em (X = nn)).symm with cx | cx
            · rw [if_pos (.inr (.inr (.inr (.inr (.inr (.inr cx))))))] at hFi
              simp only at hFi
              subst hFi
              have tX : (X == nn) = false := by simpa using cx
              clear HFI cx
              go_wp2_with fail
              refine r0.mono ?_
              rintro e w5 ⟨rfl, rfl⟩
              go_wp2_with fail
              refine r8.mono ?_
              rintro e w5 ⟨rfl, rfl⟩
              clear r0 r8
              go_wp2
              go_ret3
              exact ⟨rfl, HBW.out⟩
            subst cx
            rw [if_neg (by rintro (h | h | h | h | h | h | h) <;> first | omega | exact h rfl)] at hFi
            simp only at hFi
            obtain ⟨P, hP⟩ : ∃ P, po + 30 + L + q28 = P := ⟨_, rfl⟩
            rw [hP] at hFi
            have hPI : (po : Int) + 30 + (L : Int) + (q28 : Int) = (P : Int) := by omega
            have HPI := hide hPI
            clear hPI hP
            rcases (Decidable.em (P % 256 = 0)).symm with c7 | c7
            · rw [if_neg c7] at hFi
              subst hFi
              have t7 : ((((po : Int) + 30 + (L : Int) + (q28 : Int)) % 256) != 0) = true := by have := HPI.out; simp; omega
              clear HFI
              go_wp2_with fail
              refine r0.mono ?_
              rintro e w5 ⟨rfl, rfl⟩
              go_wp2_with fail
              refine r8.mono ?_
              rintro e w5 ⟨rfl, rfl⟩
              clear r0 r8
              go_wp2
              go_ret3
              exact ⟨rfl, HBW.out⟩
            · rw [if_pos c7] at hFi
              subst hFi
              have t7 : ((((po : Int) + 30 + (L : Int) + (q28 : Int)) % 256) != 0) = false := by have := HPI.out; simp; omega
              clear HFI
              go_wp2_with fail
              refine r0.mono ?_
              rintro e w5 ⟨rfl, rfl⟩
              go_wp2_with fail
              refine r8.mono ?_
              rintro e w5 ⟨rfl, rfl⟩
              clear r0 r8
              go_wp2_with fail
              go_quiet (fail)
              go_wp2
              go_ret3
              refine ⟨?_, ⟨HBW.out.os, HBW.out.tape, HBW.out.output, HBW.out.size, HBW.out.block⟩⟩
              simp only [findV]
              rw [← HPI.out]
              rfl
          · obtain ⟨g, o, rfl⟩ : ∃ g o, a = some ⟨g, o, none⟩ := by
              have e := HW4.out
              rw [← HN.out] at e
              obtain ⟨g, o, c', e2, _⟩ := e.cells (by omega)
              injection e2 with e1
              exact ⟨g, o, e1⟩
            have ad : (Addr.add ⟨g, o, none⟩ (po + 30)) = ⟨g, o + (po + 30), none⟩ := add_at _ _ _
            have tx : (convert 22 9 (.slice (some ⟨g, o + (po + 30), none⟩) L (cap - (po + 30)))).run Try.prog W = .ok (.string ⟨X.toArray⟩) W := by
              have e := HW4.out
              rw [← HN.out] at e
              rw [← HX0.out]
              have q := e.cut (po + 30) L hHin hcp
              simp only [Option.map_some, ad] at q
              exact q.text
            rcases (Decidable.em (X = nn)).symm with cx | cx
            · rw [if_pos (.inr (.inr (.inr (.inr (.inr (.inr cx))))))] at hFi
              simp only at hFi
              subst hFi
              have tX : (X == nn) = false := by simpa using cx
              clear HFI cx
              go_wp2_with fail
              refine r0.mono ?_
              rintro e w5 ⟨rfl, rfl⟩
              go_wp2_with fail
              refine r8.mono ?_
              rintro e w5 ⟨rfl, rfl⟩
              clear r0 r8
              go_wp2
              go_ret3
              exact ⟨rfl, HBW.out⟩
            subst cx
            rw [if_neg (by rintro (h | h | h | h | h | h | h) <;> first | omega | exact h rfl)] at hFi
            simp only at hFi
            obtain ⟨P, hP⟩ : ∃ P, po + 30 + L + q28 = P := ⟨_, rfl⟩
            rw [hP] at hFi
            have hPI : (po : Int) + 30 + (L : Int) + (q28 : Int) = (P : Int) := by omega
            have HPI := hide hPI
            clear hPI hP
            rcases (Decidable.em (P % 256 = 0)).symm with c7 | c7
            · rw [if_neg c7] at hFi
              subst hFi
              have t7 : ((((po : Int) + 30 + (L : Int) + (q28 : Int)) % 256) != 0) = true := by have := HPI.out; simp; omega
              clear HFI
              go_wp2_with fail
              refine r0.mono ?_
              rintro e w5 ⟨rfl, rfl⟩
              go_wp2_with fail
              refine r8.mono ?_
              rintro e w5 ⟨rfl, rfl⟩
              clear r0 r8
              go_wp2
              go_ret3
              exact ⟨rfl, HBW.out⟩
            · rw [if_pos c7] at hFi
              subst hFi
              have t7 : ((((po : Int) + 30 + (L : Int) + (q28 : Int)) % 256) != 0) = false := by have := HPI.out; simp; omega
              clear HFI
              go_wp2_with fail
              refine r0.mono ?_
              rintro e w5 ⟨rfl, rfl⟩
              go_wp2_with fail
              refine r8.mono ?_
              rintro e w5 ⟨rfl, rfl⟩
              clear r0 r8
              go_wp2_with fail
              go_quiet (fail)
              go_wp2
              go_ret3
              refine ⟨?_, ⟨HBW.out.os, HBW.out.tape, HBW.out.output, HBW.out.size, HBW.out.block⟩⟩
              simp only [findV]
              rw [← HPI.out]
              rfl
      · have him : i = es.length := by omega
        have hO := HR.out
        rw [him, List.drop_length] at hO
        simp only [List.find?_nil, refF] at hO
        subst hO
        have hltI : ¬ (i : Int) < (es.length : Int) := by omega
        have HBW : Hid (Below w.heap.size w wr) := HB1.out.trans (HB.out.mono HB1.out.size)
        clear HR him
        go_wp2
        go_ret3
        exact ⟨rfl, HBW.out⟩
end Go.Proofs.Ytegcdddfccmljaa
