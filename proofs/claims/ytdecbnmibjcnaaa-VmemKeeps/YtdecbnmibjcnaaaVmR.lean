
/-
  Protect and Map keep their contracts.
-/
import Derived.Test.YtdecbnmibjcnaaaVmQ
set_option linter.unusedVariables false
namespace Go.Proofs.Ytdecbnmibjcnaaa
open Go.RowKit Go.PlainAid
/-- The pages of a room with f done to those that bytes touch. -/
def Rm.with (r : Rm) (a n : Nat) (f : Sh → Sh) : List Sh := r.pages.take (r.lo a) ++ (r.cut a n).map f ++ r.pages.drop (r.hi a n)
theorem Rm.with_len (r : Rm) (a n : Nat) (f : Sh → Sh) (h : r.lo a ≤ r.hi a n) : (r.with a n f).length = r.pages.length := by
  have := congrArg List.length (r.parts a n h)
  unfold Rm.with
  simp only [List.length_append, List.length_map] at this ⊢
  exact this
theorem Rm.with_ok {r : Rm} (hr : r.ok) (a n : Nat) (f : Sh → Sh) (hf : ∀ s, s.ok → (f s).ok) : ∀ s ∈ r.with a n f, s.ok := by
  intro s hs
  unfold Rm.with at hs
  simp only [List.mem_append] at hs
  rcases hs with (hs | hs) | hs
  · exact hr.each s (List.mem_of_mem_take hs)
  · obtain ⟨x, hx, rfl⟩ := List.mem_map.1 hs
    exact hf x (hr.each x (Rm.cut_mem hx))
  · exact hr.each s (List.mem_of_mem_drop hs)
/-- What Protect answers, and the space behind it. -/
def prE (sp : Sp) (a n : Nat) (p : Int) : Nat := if a % 256 ≠ 0 then 11 else if ¬ (0 ≤ p ∧ p ≤ 7) then 54 else match got sp.rooms a n none with
  | .error e => e
  | .ok _ => 0
def prS (sp : Sp) (a n : Nat) (p : Int) : Sp := if a % 256 ≠ 0 then sp else if ¬ (0 ≤ p ∧ p ≤ 7) then sp else match got sp.rooms a n none with
  | .ok (some r) => sp.put (begun sp.rooms a - 1) r (r.with a n (fun s => { s with prot := p }))
  | _ => sp
set_option maxHeartbeats 4000000 in
set_option maxRecDepth 20000 in
theorem vm_Protect_some (w : World) (S a n g N cp : Nat) (p : Int) (A M Z : List Sh) (hn : (n : Int) ≤ 18446744073709551615) (ha0 : ((a : Int) % 256 == 0) = true) (hp : (0 ≤ p ∧ p ≤ 7)) (hN : N ≤ 64) (hcapN : N ≤ cp) (hcap2 : cp ≤ 9223372036854775807)
    (HLEN : Hid (M.length = N)) (HZ : Hid (∀ s ∈ A ++ M ++ Z, s.data.length = 256)) (HH : Hid (Holds w g 88 (flatS (A ++ M ++ Z))))
    (hA : Calls Try.prog 47 #[.pointer (some ⟨S, 0, none⟩), .int .u64 a, .int .u64 n] w fun e w' => e = .returned (.tuple #[.slice (some ⟨g, A.length * 258, none⟩) N cp, .int .i64 0]) ∧ Below w.heap.size w w') :
    Calls Try.prog 33 #[.pointer (some ⟨S, 0, none⟩), .int .u64 a, .int .u64 n, .int .i64 p] w fun e w' => e = .returned (.int .i64 0) ∧ Holds w' g 88 (flatS (A ++ M.map (fun s => { s with prot := p }) ++ Z)) ∧ Turn (· = g) w w' := by
  have hP := vm_isProt w p
  rw [decide_eq_true hp] at hP
  go_enter Try.func33, Try.ntmps33
  go_wp2_with (first | (go_at_call 43; refine hP.mono ?_; rintro e w' ⟨rfl, hw⟩; rw [← hw]; clear hw) | (go_at_call 47; refine hA.mono ?_; rintro e w1 ⟨rfl, hb⟩; clear hA))
  go_loopw [11, 30] (fun _ vi wr => ∃ i : Nat, i ≤ N ∧ vi = .int .i64 i ∧ Hid (EachI (fun s => { s with prot := p }) w wr g A M Z i)) (fun _ vi _ => N - (intOf vi).toNat)
  case atStart => exact ⟨0, by omega, rfl, [], M, rfl, rfl, by simpa using HH.out.stay hb, by simpa using HZ.out, Turn.of_below hb⟩
  case round =>
    obtain ⟨i, hi, rfl, D, R, hL⟩ := hrel
    by_cases hlt : i < N
    · have hltI : (i : Int) < (N : Int) := by omega
      obtain ⟨s, R, rfl⟩ : ∃ s R', R = s :: R' := by
        cases R with
        | nil => have h1 := hL.all; have h2 := hL.len; have h3 := HLEN.out; rw [h1] at h3; simp at h3; omega
        | cons s R => exact ⟨s, R, rfl⟩
      have hs : s.data.length = 256 := hL.each s (by simp)
      have hX : ∀ x ∈ A ++ D.map (fun s => { s with prot := p }), x.data.length = 256 := fun x hx => hL.each x (List.mem_append_left _ hx)
      have hxl : (A ++ D.map (fun s : Sh => { s with prot := p })).length * 258 + 1 = A.length * 258 + i * 258 + 1 := by rw [List.length_append, List.length_map, hL.len]; omega
      have hfl := flatS_prot (A ++ D.map (fun s => { s with prot := p })) (R ++ Z) s hX p
      have hin : A.length * 258 + i * 258 + 1 < (flatS (A ++ D.map (fun s => { s with prot := p }) ++ (s :: R ++ Z))).length := by
        rw [flatS_len _ hL.each]; have := hL.len; simp; omega
      rw [hxl] at hfl
      have hc := hL.holds.cell (A.length * 258 + i * 258 + 1) _ (List.getElem?_eq_getElem hin)
      have hso := hL.holds.soft (A.length * 258 + i * 258 + 1)
      have HL : Hid (EachAt (fun s => { s with prot := p }) w wr g A M Z i D (s :: R)) := hL
      have HF : Hid _ := hfl
      have HI : Hid _ := hin
      have HS : Hid (s.data.length = 256) := hs
      have hlt3 : g < wr.heap.size := hL.holds.lt
      generalize (flatS (A ++ D.map (fun s => { s with prot := p }) ++ (s :: R ++ Z)))[A.length * 258 + i * 258 + 1] = old at *
      clear hL hX hxl hfl hin hs
      go_wp2
      go_roundw
      case rel =>
        refine ⟨i + 1, by omega, by go_num, HL.out.step HS.out ?_ ?_⟩
        · have := HL.out.holds.setCell _ HI.out (.int .i64 p)
          rw [List.cons_append] at this
          rw [HF.out] at this
          exact this
        · exact ⟨rfl, rfl, rfl, by simp, fun k _ hk => heap_setCell_other _ _ _ _ hk⟩
      case measure => simp [intOf]; omega
    · have hltI : ¬ (i : Int) < (N : Int) := by omega
      have hR : R = [] := List.eq_nil_of_length_eq_zero (by have h1 := hL.all; have h2 := hL.len; have h3 := HLEN.out; rw [h1] at h3; simp at h3; omega)
      subst hR
      have hM : M = D := by rw [hL.all]; simp
      subst hM
      have HH1 : Hid (Holds wr g 88 (flatS (A ++ M.map (fun s => { s with prot := p }) ++ ([] ++ Z)))) := hL.holds
      have HT : Hid (Turn (· = g) w wr) := hL.turn
      clear hL
      go_wp2
      go_ret
      exact ⟨rfl, by simpa using HH1.out, HT.out⟩
theorem Rm.holds_parts {w : World} {S : Nat} {v : Value} {sp : Sp} (h : SpAt w S v sp) {r : Rm} (hr : r ∈ sp.rooms) {a n : Nat} (hl : r.lo a ≤ r.hi a n) : Holds w r.blk 88 (flatS (r.pages.take (r.lo a) ++ r.cut a n ++ r.pages.drop (r.hi a n))) := by
  rw [r.parts a n hl]; exact h.pgs r hr
set_option maxHeartbeats 2000000 in
theorem vm_Protect (w : World) (S : Nat) (v : Value) (sp : Sp) (h : SpAt w S v sp) (hk : sp.ok) (a n : Nat) (p : Int) (ha : (a : Int) ≤ 18446744073709551615) (hn : (n : Int) ≤ 18446744073709551615) :
    Calls Try.prog 33 #[.pointer (some ⟨S, 0, none⟩), .int .u64 a, .int .u64 n, .int .i64 p] w fun e w' => e = .returned (.int .i64 (prE sp a n p)) ∧ SpAt w' S v (prS sp a n p) ∧ Turn (· ∈ foot S v sp.rooms) w w' := by
  by_cases ha0 : a % 256 = 0
  · have haI : ((a : Int) % 256 == 0) = true := by rw [beq_iff_eq]; omega
    have hP := vm_isProt w p
    by_cases hp : 0 ≤ p ∧ p ≤ 7
    · have hA := vm_present w S v sp h hk a n ha hn
      cases hg : got sp.rooms a n none with
      | error e0 =>
        have he := got_err hg
        have HE : Hid (prE sp a n p = e0 ∧ prS sp a n p = sp) := by unfold Hid prE prS; rw [hg]; simp [ha0, hp]
        have HSP : Hid (SpAt w S v sp) := h
        rw [hg] at hA
        rw [decide_eq_true hp] at hP
        unfold gotV at hA
        clear hg h
        have hne : ((e0 : Int) == 0) = false := by rw [beq_eq_false_iff_ne]; omega
        clear ha0
        go_enter Try.func33, Try.ntmps33
        go_wp2_with (first | (go_at_call 43; refine hP.mono ?_; rintro e w' ⟨rfl, hw⟩; rw [← hw]; clear hw) | (go_at_call 47; refine hA.mono ?_; rintro e w1 ⟨rfl, hb⟩; clear hA))
        go_ret
        exact ⟨by rw [HE.out.1]; rfl, by rw [HE.out.2]; exact HSP.out.stay hb, Turn.of_below hb⟩
      | ok o =>
        cases o with
        | none =>
          have HE : Hid (prE sp a n p = 0 ∧ prS sp a n p = sp) := by unfold Hid prE prS; rw [hg]; simp [ha0, hp]
          have HSP : Hid (SpAt w S v sp) := h
          rw [hg] at hA
          rw [decide_eq_true hp] at hP
          unfold gotV at hA
          clear hg h ha0
          go_enter Try.func33, Try.ntmps33
          go_wp2_with (first | (go_at_call 43; refine hP.mono ?_; rintro e w' ⟨rfl, hw⟩; rw [← hw]; clear hw) | (go_at_call 47; refine hA.mono ?_; rintro e w1 ⟨rfl, hb⟩; clear hA))
          go_loopw [11, 30] (fun _ vi wr => vi = .int .i64 0 ∧ wr = w1) (fun _ _ _ => 0)
          case atStart => exact ⟨rfl, rfl⟩
          case round =>
            obtain ⟨rfl, rfl⟩ := hrel
            go_wp2
            go_ret
            exact ⟨by rw [HE.out.1]; rfl, by rw [HE.out.2]; exact HSP.out.stay hb, Turn.of_below hb⟩
        | some r =>
          obtain ⟨hh, hz⟩ := got_some hg
          obtain ⟨b, hi⟩ := hit_is hh
          have hr := hi.mem
          have hlen := Rm.cut_len hi.low hi.top hz
          have hlh := Rm.lo_hi hi.low hi.top hz
          have hro := hk.each r hr
          have hmost := hro.most
          have hc0 := hro.cap0
          have hc1 := hro.cap1
          have hA1 : (r.pages.take (r.lo a)).length = r.lo a := by rw [List.length_take]; omega
          have HE : prE sp a n p = 0 ∧ prS sp a n p = sp.put b r (r.with a n (fun s => { s with prot := p })) := by unfold prE prS; rw [hg, hi.bg]; simp [ha0, hp]
          rw [hg] at hA
          have := vm_Protect_some w S a n r.blk (r.hi a n - r.lo a) (r.cap - r.lo a) p (r.pages.take (r.lo a)) (r.cut a n) (r.pages.drop (r.hi a n)) hn haI hp (by omega) (by omega) (by unfold maxLen at hc1; omega) hlen
            (by rw [Hid, r.parts a n (by omega)]; exact fun s hs => (hro.each s hs).len) (Rm.holds_parts h hr (by omega)) (by rw [hA1]; exact hA)
          refine this.mono ?_
          rintro e w' ⟨rfl, h1, h2⟩
          exact ⟨by rw [HE.1]; rfl, by rw [HE.2]; exact h.put hi.eq (r.with_len a n _ (by omega)) h1 h2, h2.mono (fun k _ hk => by subst hk; exact SpAt.blk_foot hr)⟩
    · have HE : Hid (prE sp a n p = 54 ∧ prS sp a n p = sp) := by unfold Hid prE prS; simp [ha0, hp]
      have HSP : Hid (SpAt w S v sp) := h
      rw [decide_eq_false hp] at hP
      clear h ha0
      go_enter Try.func33, Try.ntmps33
      go_wp2_with (go_at_call 43; refine hP.mono ?_; rintro e w' ⟨rfl, hw⟩; rw [← hw]; clear hw)
      go_ret
      exact ⟨by rw [HE.out.1]; rfl, by rw [HE.out.2]; exact HSP.out, Turn.refl _ _⟩
  · have haI : ((a : Int) % 256 == 0) = false := by rw [beq_eq_false_iff_ne]; omega
    have HE : Hid (prE sp a n p = 11 ∧ prS sp a n p = sp) := by unfold Hid prE prS; simp [ha0]
    have HSP : Hid (SpAt w S v sp) := h
    clear h ha0
    go_enter Try.func33, Try.ntmps33
    go_wp2
    go_ret
    exact ⟨by rw [HE.out.1]; rfl, by rw [HE.out.2]; exact HSP.out, Turn.refl _ _⟩
end Go.Proofs.Ytdecbnmibjcnaaa
