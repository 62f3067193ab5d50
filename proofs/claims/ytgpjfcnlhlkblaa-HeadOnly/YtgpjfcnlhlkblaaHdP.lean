
/-
  Layer 8 (head): plain facts of what is read.
-/
import Derived.Test.YtgpjfcnlhlkblaaHdL
set_option linter.unusedVariables false
namespace Go.Proofs.Ytgpjfcnlhlkblaa
open Go.RowKit Go.PlainAid Go.Sort
theorem parse_ok {l : List UInt8} {h : Hd} (e : parseZ l = .ok h) : loadsOk h.loads l.length = true ∧ (∀ p ∈ h.loads, p.ok) ∧ h.loads.length ≤ 16 := by
  unfold parseZ at e
  split at e
  · cases e
  · rename_i all ht
    obtain ⟨h1, h2⟩ := tab_ok ht
    unfold headsOf at e
    split at e
    · rename_i hL
      have key : h.loads = ofT all 1 := by
        unfold heads1 at e
        split at e
        · split at e
          · unfold heads2 at e
            split at e
            · injection e with e; subst e; rfl
            · split at e
              · injection e with e; subst e; rfl
              · cases e
            · cases e
          · cases e
        · cases e
      rw [key]
      exact ⟨hL, ofT_ok h1 1, Nat.le_trans (ofT_len _ _) h2⟩
    · cases e
/-- What is known of a part that may be. -/
theorem part_facts {p : Ph} {n E : Nat} (h : partOk p n = true) (hE : ¬ p.vaddr < E) (hn : n ≤ 262144) :
    p.vaddr % 256 = 0 ∧ p.off ≤ n ∧ p.filesz ≤ n - p.off ∧ p.filesz ≤ p.memsz ∧ endN p % 256 = 0 ∧ (∃ x y, endN p = p.vaddr + x ∧ x = p.memsz + y ∧ y < 256) ∧ endN p ≤ 16384 := by
  unfold partOk insN at h
  simp only [Bool.and_eq_true, decide_eq_true_eq] at h
  have hen : endN p = (p.vaddr + p.memsz + 255) / 256 * 256 := by unfold endN; rw [if_pos (by omega)]
  refine ⟨by omega, by omega, by omega, by omega, by rw [hen]; omega, ⟨endN p - p.vaddr, endN p - p.vaddr - p.memsz, ?_, ?_, ?_⟩, by rw [hen]; omega⟩
  · rw [hen]; omega
  · rw [hen]; omega
  · rw [hen]; omega
theorem table_err {l : List UInt8} {k : Nat} (h : tableZ l = .error k) : k ≠ 0 := by
  intro e
  subst e
  unfold tableZ at h
  split at h
  · injection h; contradiction
  · split at h
    · cases h
    · cases h
theorem parse_err {l : List UInt8} {k : Nat} (h : parseZ l = .error k) : k ≠ 0 := by
  unfold parseZ at h
  split at h
  · rename_i ht
    injection h with h
    subst h
    exact table_err ht
  · unfold headsOf at h
    split at h
    · unfold heads1 at h
      split at h
      · split at h
        · unfold heads2 at h
          split at h
          · cases h
          · split at h
            · cases h
            · injection h with h; omega
          · injection h with h; omega
        · injection h with h; omega
      · injection h with h; omega
    · injection h with h; omega
theorem ls_last (ls : List Ph) (i : Nat) (p : Ph) (h : i + 1 = ls.length) (hp : ls[i]? = some p) : spanN ls = endN p / 256 := by
  unfold spanN
  rw [List.getLast?_eq_getElem?, ← h, Nat.add_sub_cancel, hp]
end Go.Proofs.Ytgpjfcnlhlkblaa
