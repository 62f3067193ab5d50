
/-
  Load keeps its contract; a room goes: Release.
-/
import Derived.Test.YtdecbnmibjcnaaaVmO
set_option linter.unusedVariables false
namespace Go.Proofs.Ytdecbnmibjcnaaa
open Go.RowKit Go.PlainAid
/-- What Load answers. -/
def ldN (sp : Sp) (a : Nat) : Nat := rdN (rdB sp a 8)
theorem rdB_len {sp : Sp} (hk : sp.ok) {a n : Nat} (h : rdE sp a n = 0) (h2 : ∀ e, got sp.rooms a n (some 4) = .error e → e ≠ 0) : (rdB sp a n).length = n := by
  unfold rdE at h
  unfold rdB
  cases hg : got sp.rooms a n (some 4) with
  | error e => rw [hg] at h; exact absurd h (h2 e hg)
  | ok o =>
    cases o with
    | none =>
      unfold got at hg
      cases hh : hit sp.rooms a n with
      | none => rw [hh] at hg; simp at hg
      | some r =>
        rw [hh] at hg
        by_cases hz : n = 0
        · simp [hz]
        · simp only [if_neg hz] at hg
          split at hg
          · cases hg
          · split at hg <;> cases hg
    | some r =>
      obtain ⟨hh, hz⟩ := got_some hg
      obtain ⟨b, hi⟩ := hit_is hh
      have hro := hk.each r hi.mem
      have hlen := Rm.cut_len hi.low hi.top hz
      have := hi.low
      have := hro.low
      have := hro.page
      rw [List.length_take, List.length_drop, dat_len (fun s hs => (hro.each s (Rm.cut_mem hs)).len), hlen]
      unfold Rm.lo Rm.hi
      obtain ⟨p, hp⟩ : ∃ p, r.pos = 256 * p := ⟨r.pos / 256, by omega⟩
      omega
theorem got_err {l : List Rm} {a n : Nat} {t : Option Nat} {e : Nat} (h : got l a n t = .error e) : e = 52 ∨ e = 54 := by
  unfold got at h
  cases hh : hit l a n with
  | none => rw [hh] at h; simp at h; omega
  | some r =>
    rw [hh] at h
    by_cases hz : n = 0
    · simp [hz] at h
    · simp only [if_neg hz] at h
      split at h
      · simp at h; omega
      · split at h
        · cases h
        · split at h
          · simp at h; omega
          · cases h
theorem rdE_cases (sp : Sp) (a n : Nat) : (rdE sp a n = 0 ∧ ∀ e, got sp.rooms a n (some 4) = .error e → e ≠ 0) ∨ ((rdE sp a n = 52 ∨ rdE sp a n = 54) ∧ rdB sp a n = []) := by
  cases hg : got sp.rooms a n (some 4) with
  | error e =>
    right
    unfold rdE rdB
    rw [hg]
    exact ⟨got_err hg, rfl⟩
  | ok o => left; unfold rdE; rw [hg]; exact ⟨rfl, fun e h => by cases h⟩
set_option maxHeartbeats 1000000 in
theorem vm_Load (w : World) (S : Nat) (v : Value) (sp : Sp) (h : SpAt w S v sp) (hk : sp.ok) (a : Nat) (ha : (a : Int) ≤ 18446744073709551615) :
    Calls Try.prog 35 #[.pointer (some ⟨S, 0, none⟩), .int .u64 a] w fun e w' => e = .returned (.tuple #[.int .u64 (ldN sp a), .int .i64 (rdE sp a 8)]) ∧ Below w.heap.size w w' := by
  have hR := vm_Read w S v sp h hk a 8 ha (by omega)
  rcases rdE_cases sp a 8 with ⟨he, hne⟩ | ⟨he, hnil⟩
  · have hlen := rdB_len hk he hne
    have HN : Hid (ldN sp a = rdN (rdB sp a 8)) := rfl
    rw [he] at hR ⊢
    have HW : Hid (win (rdB sp a 8) 0 8 = rdB sp a 8) := by unfold Hid win; rw [List.drop_zero]; exact List.take_of_length_le (by omega)
    generalize rdB sp a 8 = l at *
    generalize ldN sp a = N at *
    have HLN : Hid (l.length = 8) := hlen
    clear hlen hne
    go_enter Try.func35, Try.ntmps35
    go_wp2_with (go_at_call 25; refine hR.mono ?_; rintro e w1 ⟨⟨vb, rfl, hsrc⟩, hb⟩; obtain ⟨sa, sc, rfl, hs1, hs2, hs3⟩ := hsrc; have HS3 : Hid _ := hs3; have HB : Hid (Below w.heap.size w w1) := hb; clear hR hs3 hb; rw [HLN.out] at hs1; rw [HLN.out])
    go_loopw [8, 9, 10, 22] (fun vn _ _ vi wr => wr = w1 ∧ ∃ i : Nat, i ≤ 8 ∧ vi = .int .i64 i ∧ vn = .int .u64 (rdN (win l 0 i))) (fun _ _ _ vi _ => 8 - (intOf vi).toNat)
    case atStart => exact ⟨rfl, 0, by omega, rfl, by simp [win, rdN]⟩
    case round =>
      obtain ⟨rfl, i, hi, rfl, rfl⟩ := hrel
      have hsc : sc ≤ 9223372036854775807 := by unfold maxLen at hs2; omega
      by_cases hlt : i < 8
      · have hlt8 : i < l.length := by have := HLN.out; omega
        obtain ⟨x, rfl, hx⟩ : ∃ x, sa = some x ∧ ∀ j (hj : j < l.length), wr.cell? (x.add j) = some (.int .u8 (l[j].toNat : Int)) := by
          rcases HS3.out with ⟨_, e, _⟩ | ⟨x, rfl, _, hc⟩
          · rw [e] at hlt8; simp at hlt8
          · exact ⟨x, rfl, hc⟩
        obtain ⟨c, hcc⟩ : ∃ c, l.getD (0 + i) 0 = c := ⟨_, rfl⟩
        have hcell := hx i hlt8
        have hcc2 : l[i] = c := by rw [← hcc]; simp [List.getD, List.getElem?_eq_getElem hlt8]
        rw [hcc2] at hcell
        have hor := or_step l 0 i (by omega) (by omega) c hcc
        have hlt3 : 8 * (i : Int) < 64 := by omega
        have hltI : (i : Int) < 8 := by omega
        have hcw : IntKind.u64.wrap (c.toNat : Int) = (c.toNat : Int) := by have := c.toNat_lt; rw [IntKind.wrap_u64]; omega
        have hs1' : 8 ≤ sc := hs1
        clear hx hcc hcc2
        go_wp2
        go_roundw
        case rel => exact ⟨trivial, i + 1, by omega, by go_num, by with_reducible rfl⟩
        case measure => simp [intOf]; omega
      · have hltI : ¬ (i : Int) < 8 := by omega
        have his : i = 8 := by omega
        subst his
        go_wp2
        go_ret2
        exact ⟨by rw [HW.out, HN.out]; rfl, HB.out⟩
  · have hne : (((rdE sp a 8 : Nat) : Int) == 0) = false := by rw [beq_eq_false_iff_ne]; omega
    have HN : Hid (ldN sp a = 0) := by unfold Hid ldN; rw [hnil]; rfl
    generalize rdE sp a 8 = E at *
    go_enter Try.func35, Try.ntmps35
    go_wp2_with (go_at_call 25; refine hR.mono ?_; rintro e w1 ⟨⟨vb, rfl, hsrc⟩, hb⟩; obtain ⟨sa, sc, rfl, hs1, hs2, hs3⟩ := hsrc; have HB : Hid (Below w.heap.size w w1) := hb; clear hR hs3 hb)
    go_ret2
    exact ⟨by rw [HN.out]; rfl, HB.out⟩
end Go.Proofs.Ytdecbnmibjcnaaa
