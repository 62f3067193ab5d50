
/-
  Map keeps its contract.
-/
import Derived.Test.YtdecbnmibjcnaaaVmR
set_option linter.unusedVariables false
namespace Go.Proofs.Ytdecbnmibjcnaaa
open Go.RowKit Go.PlainAid
/-- The pages of a room behind a Map. -/
def Rm.mapped (r : Rm) (a n : Nat) (p : Int) (d : List UInt8) : List Sh := r.pages.take (r.lo a) ++ layL ((r.cut a n).map (fun _ => fresh p)) 0 d ++ r.pages.drop (r.hi a n)
theorem Rm.mapped_len (r : Rm) (a n : Nat) (p : Int) (d : List UInt8) (h : r.lo a ≤ r.hi a n) : (r.mapped a n p d).length = r.pages.length := by
  have := congrArg List.length (r.parts a n h)
  unfold Rm.mapped
  simp only [List.length_append, List.length_map, layL_len] at this ⊢
  exact this
theorem Rm.mapped_ok {r : Rm} (hr : r.ok) (a n : Nat) (p : Int) (d : List UInt8) (hp : 0 ≤ p ∧ p ≤ 7) : ∀ s ∈ r.mapped a n p d, s.ok := by
  intro s hs
  unfold Rm.mapped at hs
  simp only [List.mem_append] at hs
  rcases hs with (hs | hs) | hs
  · exact hr.each s (List.mem_of_mem_take hs)
  · refine layL_mem (fun x hx => ?_) (by omega) s hs
    obtain ⟨y, _, rfl⟩ := List.mem_map.1 hx
    exact fresh_ok hp.1 hp.2
  · exact hr.each s (List.mem_of_mem_drop hs)
/-- What Map answers, and the space behind it. -/
def mpE (sp : Sp) (a n : Nat) (p : Int) (d : List UInt8) : Nat := if a % 256 ≠ 0 then 11 else if n = 0 ∨ n < d.length then 51 else if ¬ (0 ≤ p ∧ p ≤ 7) then 54 else match hit sp.rooms a n with
  | none => 52
  | some r => if (r.cut a n).any Sh.there then 53 else 0
def mpS (sp : Sp) (a n : Nat) (p : Int) (d : List UInt8) : Sp := if a % 256 ≠ 0 then sp else if n = 0 ∨ n < d.length then sp else if ¬ (0 ≤ p ∧ p ≤ 7) then sp else match hit sp.rooms a n with
  | none => sp
  | some r => if (r.cut a n).any Sh.there then sp else sp.put (begun sp.rooms a - 1) r (r.mapped a n p d)
set_option maxHeartbeats 4000000 in
set_option maxRecDepth 20000 in
theorem vm_Map_some (w : World) (S a n g N cp : Nat) (p : Int) (A M Z : List Sh) (sa : Option Addr) (sc : Nat) (d : List UInt8) (hn : (n : Int) ≤ 18446744073709551615) (ha0 : ((a : Int) % 256 == 0) = true) (hn0 : ((n : Int) == 0) = false) (hnd : ¬ (n : Int) < (d.length : Int)) (hd : d.length ≤ 1000000) (hp : (0 ≤ p ∧ p ≤ 7)) (hN : N ≤ 64) (hAl : A.length ≤ 64) (hcapN : N ≤ cp) (hcap2 : cp ≤ maxLen)
    (hsc : d.length ≤ sc) (hsc2 : sc ≤ maxLen) (HLEN : Hid (M.length = N)) (HZ : Hid (∀ s ∈ A ++ M ++ Z, s.data.length = 256)) (HH : Hid (Holds w g 88 (flatS (A ++ M ++ Z)))) (HS : Hid (Src w (· = g) (.slice sa d.length sc) d))
    (hA : Calls Try.prog 44 #[.pointer (some ⟨S, 0, none⟩), .int .u64 a, .int .u64 n] w fun e w' => e = .returned (.tuple #[.slice (some ⟨g, A.length * 258, none⟩) N cp, .bool true]) ∧ Below w.heap.size w w')
    (HC : Hid (∀ w1, Below w.heap.size w w1 → Calls Try.prog 45 #[.slice (some ⟨g, A.length * 258, none⟩) N cp, .func (.func 46) #[] #[]] w1 fun e w' => e = .returned (.bool false) ∧ Below w1.heap.size w1 w')) :
    Calls Try.prog 32 #[.pointer (some ⟨S, 0, none⟩), .int .u64 a, .int .u64 n, .int .i64 p, .slice sa d.length sc] w fun e w' => e = .returned (.int .i64 0) ∧ Holds w' g 88 (flatS (A ++ layL (M.map (fun _ => fresh p)) 0 d ++ Z)) ∧ Turn (· = g) w w' := by
  have hP := vm_isProt w p
  have hcp : cp ≤ 9223372036854775807 := by unfold maxLen at hcap2; omega
  have hsc3 : sc ≤ 9223372036854775807 := by unfold maxLen at hsc2; omega
  rw [decide_eq_true hp] at hP
  go_enter Try.func32, Try.ntmps32
  go_wp2_with (first | (go_at_call 43; refine hP.mono ?_; rintro e w' ⟨rfl, hw⟩; rw [← hw]; clear hw) | (go_at_call 44; refine hA.mono ?_; rintro e w1 ⟨rfl, hb⟩; clear hA) | (go_at_call 45; refine (HC.out _ hb).mono ?_; rintro e w2 ⟨rfl, hb2⟩))
  have hB2 : Below w.heap.size w w2 := hb.trans (hb2.mono hb.size)
  go_loopw [13, 42] (fun _ vi wr => ∃ i : Nat, i ≤ N ∧ vi = .int .i64 i ∧ Hid (EachI (fun _ => fresh p) w wr g A M Z i)) (fun _ vi _ => N - (intOf vi).toNat)
  case atStart => exact ⟨0, by omega, rfl, [], M, rfl, rfl, by simpa using HH.out.stay hB2, by simpa using HZ.out, Turn.of_below hB2⟩
  case round =>
    obtain ⟨i, hi, rfl, D, R, hL⟩ := hrel
    by_cases hlt : i < N
    · have hltI : (i : Int) < (N : Int) := by omega
      obtain ⟨s, R, rfl⟩ : ∃ s R', R = s :: R' := by
        cases R with
        | nil => have h1 := hL.all; have h2 := hL.len; have h3 := HLEN.out; rw [h1] at h3; simp at h3; omega
        | cons s R => exact ⟨s, R, rfl⟩
      have hs : s.data.length = 256 := hL.each s (by simp)
      have hX : ∀ x ∈ A ++ D.map (fun _ => fresh p), x.data.length = 256 := fun x hx => hL.each x (List.mem_append_left _ hx)
      have hxl : (A ++ D.map (fun _ : Sh => fresh p)).length * 258 = A.length * 258 + i * 258 := by rw [List.length_append, List.length_map, hL.len]; omega
      have hfl := flatS_new (A ++ D.map (fun _ => fresh p)) (R ++ Z) s (fresh p) hX hs
      have hin : A.length * 258 + i * 258 + 258 ≤ (flatS (A ++ D.map (fun _ => fresh p) ++ (s :: R ++ Z))).length := by
        rw [flatS_len _ hL.each]; have := hL.len; simp; omega
      rw [hxl] at hfl
      have HL : Hid (EachAt (fun _ => fresh p) w wr g A M Z i D (s :: R)) := hL
      have HF : Hid _ := hfl
      have HI : Hid _ := hin
      have HHO : Hid (Holds wr g 88 (flatS (A ++ D.map (fun _ => fresh p) ++ (s :: R ++ Z)))) := hL.holds
      clear hL hX hxl hfl hin hs
      go_wp2_with (first | (refine build_sheet rfl _ rfl p rfl ?_) | (refine store_sheet rfl _ _ rfl g (A.length * 258 + i * 258) _ (fresh p) List.length_replicate HHO.out HI.out rfl rfl ?_; intro w3 h1 h2; have H1 : Hid (Holds w3 g 88 _) := h1; have H2 : Hid (wr.grownBy w3 (some g)) := h2; clear h1 h2))
      go_roundw
      case rel =>
        refine ⟨i + 1, by omega, by go_num, HL.out.step List.length_replicate ?_ (Turn.of_grown H2.out rfl)⟩
        have := H1.out
        rw [List.cons_append, HF.out] at this
        exact this
      case measure => simp [intOf]; omega
    · have hltI : ¬ (i : Int) < (N : Int) := by omega
      have hR : R = [] := List.eq_nil_of_length_eq_zero (by have h1 := hL.all; have h2 := hL.len; have h3 := HLEN.out; rw [h1] at h3; simp at h3; omega)
      subst hR
      have hM : M = D := by rw [hL.all]; simp
      subst hM
      have hml : (M.map (fun _ => fresh p)).length = N := by rw [List.length_map]; exact HLEN.out
      have hLay := vm_lay wr g cp A (M.map (fun _ => fresh p)) Z 0 d (.slice sa d.length sc) (by omega) (by omega) (by omega) hcap2 (by omega) (HS.out.turn hL.turn) (by simpa using hL.holds) (by simpa using hL.each)
      rw [hml] at hLay
      have HT : Hid (Turn (· = g) w wr) := hL.turn
      clear hL
      go_wp2_with (go_at_call 39; refine hLay.mono ?_; rintro e w4 ⟨rfl, h1, h2⟩; have H1 : Hid (Holds w4 g 88 (flatS (A ++ layL (M.map (fun _ => fresh p)) 0 d ++ Z))) := h1; have H2 : Hid (Turn (· = g) wr w4) := h2; clear h1 h2)
      go_ret
      exact ⟨rfl, H1.out, HT.out.trans H2.out⟩
set_option maxHeartbeats 2000000 in
theorem vm_Map (w : World) (S : Nat) (v : Value) (sp : Sp) (h : SpAt w S v sp) (hk : sp.ok) (a n : Nat) (p : Int) (vd : Value) (d : List UInt8) (ha : (a : Int) ≤ 18446744073709551615) (hn : (n : Int) ≤ 18446744073709551615) (hs : Src w (· ∈ foot S v sp.rooms) vd d) (hd : d.length ≤ 1000000) :
    Calls Try.prog 32 #[.pointer (some ⟨S, 0, none⟩), .int .u64 a, .int .u64 n, .int .i64 p, vd] w fun e w' => e = .returned (.int .i64 (mpE sp a n p d)) ∧ SpAt w' S v (mpS sp a n p d) ∧ Turn (· ∈ foot S v sp.rooms) w w' := by
  have HSP : Hid (SpAt w S v sp) := h
  have HSRC : Hid (Src w (· ∈ foot S v sp.rooms) vd d) := hs
  obtain ⟨sa, sc, rfl, hs1, hs2, _⟩ := hs
  have hsc : sc ≤ 9223372036854775807 := by unfold maxLen at hs2; omega
  by_cases ha0 : a % 256 = 0
  · have haI : ((a : Int) % 256 == 0) = true := by rw [beq_iff_eq]; omega
    by_cases hz : n = 0
    · subst hz
      have HE : Hid (mpE sp a 0 p d = 51 ∧ mpS sp a 0 p d = sp) := by unfold Hid mpE mpS; simp [ha0]
      clear h ha0
      go_enter Try.func32, Try.ntmps32
      go_wp2
      go_ret
      exact ⟨by rw [HE.out.1]; rfl, by rw [HE.out.2]; exact HSP.out, Turn.refl _ _⟩
    · have hzI : ((n : Int) == 0) = false := by rw [beq_eq_false_iff_ne]; omega
      by_cases hnd : n < d.length
      · have hndI : (n : Int) < (d.length : Int) := by omega
        have HE : Hid (mpE sp a n p d = 51 ∧ mpS sp a n p d = sp) := by unfold Hid mpE mpS; simp [ha0, hnd]
        clear h ha0
        go_enter Try.func32, Try.ntmps32
        go_wp2
        go_ret
        exact ⟨by rw [HE.out.1]; rfl, by rw [HE.out.2]; exact HSP.out, Turn.refl _ _⟩
      · have hndI : ¬ (n : Int) < (d.length : Int) := by omega
        have hcond : ¬ (n = 0 ∨ n < d.length) := by omega
        have hP := vm_isProt w p
        by_cases hp : 0 ≤ p ∧ p ≤ 7
        · have hA := vm_touched w S (v) sp h hk a n ha hn
          cases hh : hit sp.rooms a n with
          | none =>
            have HE : Hid (mpE sp a n p d = 52 ∧ mpS sp a n p d = sp) := by unfold Hid mpE mpS; rw [hh]; simp [ha0, hp, hcond]
            rw [touV_none hh] at hA
            rw [decide_eq_true hp] at hP
            clear h ha0 hh hcond
            go_enter Try.func32, Try.ntmps32
            go_wp2_with (first | (go_at_call 43; refine hP.mono ?_; rintro e w' ⟨rfl, hw⟩; rw [← hw]; clear hw) | (go_at_call 44; refine hA.mono ?_; rintro e w1 ⟨rfl, hb⟩; clear hA))
            go_ret
            exact ⟨by rw [HE.out.1]; rfl, by rw [HE.out.2]; exact HSP.out.stay hb, Turn.of_below hb⟩
          | some r =>
            obtain ⟨b, hi⟩ := hit_is hh
            have hr := hi.mem
            have hlen := Rm.cut_len hi.low hi.top hz
            have hlh := Rm.lo_hi hi.low hi.top hz
            have hro := hk.each r hr
            have hmost := hro.most
            have hc0 := hro.cap0
            have hc1 := hro.cap1
            have hA1 : (r.pages.take (r.lo a)).length = r.lo a := by rw [List.length_take]; omega
            have HC : Hid (∀ w1, Below w.heap.size w w1 → Calls Try.prog 45 #[.slice (some ⟨r.blk, r.lo a * 258, none⟩) (r.hi a n - r.lo a) (r.cap - r.lo a), .func (.func 46) #[] #[]] w1 fun e w' => e = .returned (.bool ((r.cut a n).any Sh.there)) ∧ Below w1.heap.size w1 w') := fun w1 hb => by
              have := lib_ContainsFunc w1 46 #[] Sh.there (enters_of Try.func46 (by kernel_rfl) rfl) r.blk (r.lo a * 258) (r.cap - r.lo a) (r.cut a n)
                (fun s hs => (hro.each s (Rm.cut_mem hs)).len) (by omega) (Nat.lt_of_lt_of_le (h.pgs r hr).lt hb.size) ((h.stay hb).cutRange hk hr hi.low hi.top hz)
                (fun W s _ hW => (vm_Map1 W s).mono fun e w' ⟨h1, h2⟩ => ⟨h1, hW.trans (h2.mono hW.size)⟩)
              rw [hlen] at this
              exact this
            rw [touV_some hh hz] at hA
            cases hany : (r.cut a n).any Sh.there with
            | true =>
              have HE : Hid (mpE sp a n p d = 53 ∧ mpS sp a n p d = sp) := by unfold Hid mpE mpS; rw [hh]; simp only [hany]; simp [ha0, hp, hcond]
              rw [decide_eq_true hp] at hP
              rw [hany] at HC
              unfold Rm.seg at hA
              clear h ha0 hh hcond hi hr hlen hlh hro hmost hc0 hc1 hA1 hany
              go_enter Try.func32, Try.ntmps32
              go_wp2_with (first | (go_at_call 43; refine hP.mono ?_; rintro e w' ⟨rfl, hw⟩; rw [← hw]; clear hw) | (go_at_call 44; refine hA.mono ?_; rintro e w1 ⟨rfl, hb⟩; clear hA) | (go_at_call 45; refine (HC.out _ hb).mono ?_; rintro e w2 ⟨rfl, hb2⟩))
              go_ret
              have hB2 : Below w.heap.size w w2 := hb.trans (hb2.mono hb.size)
              exact ⟨by rw [HE.out.1]; rfl, by rw [HE.out.2]; exact HSP.out.stay hB2, Turn.of_below hB2⟩
            | false =>
              have HE : mpE sp a n p d = 0 ∧ mpS sp a n p d = sp.put b r (r.mapped a n p d) := by unfold mpE mpS; rw [hh, hi.bg]; simp only [hany]; simp [ha0, hp, hcond]
              rw [hany] at HC
              have := vm_Map_some w S a n r.blk (r.hi a n - r.lo a) (r.cap - r.lo a) p (r.pages.take (r.lo a)) (r.cut a n) (r.pages.drop (r.hi a n)) sa sc d hn haI hzI hndI hd hp (by omega) (by omega) (by omega) (by omega) hs1 hs2 hlen
                (by rw [Hid, r.parts a n (by omega)]; exact fun s hs => (hro.each s hs).len) (Rm.holds_parts h hr (by omega)) (HSRC.out.sub (fun k hk => by subst hk; exact SpAt.blk_foot hr)) (by rw [hA1]; exact hA) (by rw [hA1]; exact HC)
              refine this.mono ?_
              rintro e w' ⟨rfl, h1, h2⟩
              exact ⟨by rw [HE.1]; rfl, by rw [HE.2]; exact h.put hi.eq (r.mapped_len a n p d (by omega)) h1 h2, h2.mono (fun k _ hk => by subst hk; exact SpAt.blk_foot hr)⟩
        · have HE : Hid (mpE sp a n p d = 54 ∧ mpS sp a n p d = sp) := by unfold Hid mpE mpS; simp [ha0, hp, hcond]
          rw [decide_eq_false hp] at hP
          clear h ha0 hcond
          go_enter Try.func32, Try.ntmps32
          go_wp2_with (go_at_call 43; refine hP.mono ?_; rintro e w' ⟨rfl, hw⟩; rw [← hw]; clear hw)
          go_ret
          exact ⟨by rw [HE.out.1]; rfl, by rw [HE.out.2]; exact HSP.out, Turn.refl _ _⟩
  · have haI : ((a : Int) % 256 == 0) = false := by rw [beq_eq_false_iff_ne]; omega
    have HE : Hid (mpE sp a n p d = 11 ∧ mpS sp a n p d = sp) := by unfold Hid mpE mpS; simp [ha0]
    clear h ha0
    go_enter Try.func32, Try.ntmps32
    go_wp2
    go_ret
    exact ⟨by rw [HE.out.1]; rfl, by rw [HE.out.2]; exact HSP.out, Turn.refl _ _⟩
end Go.Proofs.Ytdecbnmibjcnaaa
