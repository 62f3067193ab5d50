
/-
  Layer 7 (zip), in plain words: what is made is read, and each file of it is found.
-/
import Derived.Test.YtegcdddfccmljaaZpM
set_option linter.unusedVariables false
namespace Go.Proofs.Ytegcdddfccmljaa
open Go.RowKit Go.PlainAid
theorem win_at (A X S : List UInt8) (k s : Nat) (h : k + s ≤ X.length) : win (A ++ (X ++ S)) (A.length + k) s = win X k s := by
  unfold win
  rw [← List.drop_drop, List.drop_left, List.drop_append_of_le_length (by omega), List.take_append_of_le_length (by simp; omega)]
theorem rd_at (A X S : List UInt8) (k s : Nat) (h : k + s ≤ X.length) : rd (A ++ (X ++ S)) (A.length + k) s = rd X k s := by
  rw [rd_in (by simp; omega), rd_in h, win_at A X S k s h]
theorem rd_le (A S : List UInt8) (k n p : Nat) (hp : p = A.length) (hn : n < 256 ^ k) : rd (A ++ (leN k n ++ S)) p k = n := by
  subst hp
  have h := rd_at A (leN k n) S 0 k (by rw [leN_length]; omega)
  rw [Nat.add_zero] at h
  rw [h, rd_in (by rw [leN_length]; omega)]
  have e : win (leN k n) 0 k = leN k n := by unfold win; rw [List.drop_zero, List.take_of_length_le (by rw [leN_length]; omega)]
  rw [e, rdN_leN, Nat.mod_eq_of_lt hn]
theorem z2 : leN 2 0 = [0, 0] := by decide
/-- The fields of the last part. -/
theorem last_fields (m s a : Nat) (hm : m < 65536) (hs : s < 4294967296) (ha : a < 4294967296) :
    rd (lastB m s a) 0 4 = 101010256 ∧ rd (lastB m s a) 20 2 = 0 ∧ rd (lastB m s a) 4 2 = 0 ∧ rd (lastB m s a) 6 2 = 0 ∧ rd (lastB m s a) 8 2 = m ∧ rd (lastB m s a) 10 2 = m ∧ rd (lastB m s a) 12 4 = s ∧ rd (lastB m s a) 16 4 = a := by
  have z4 : (List.replicate 4 0 : List UInt8) = leN 2 0 ++ leN 2 0 := by decide
  refine ⟨?_, ?_, ?_, ?_, ?_, ?_, ?_, ?_⟩
  · have e : lastB m s a = [] ++ (leN 4 101010256 ++ (List.replicate 4 0 ++ leN 2 m ++ leN 2 m ++ leN 4 s ++ leN 4 a ++ leN 2 0)) := by simp [lastB]
    rw [e]; exact rd_le _ _ _ _ _ rfl (by decide)
  · have e : lastB m s a = (leN 4 101010256 ++ List.replicate 4 0 ++ leN 2 m ++ leN 2 m ++ leN 4 s ++ leN 4 a) ++ (leN 2 0 ++ []) := by simp [lastB]
    rw [e]; exact rd_le _ _ _ _ _ (by simp [leN_length]) (by decide)
  · have e : lastB m s a = leN 4 101010256 ++ (leN 2 0 ++ (leN 2 0 ++ leN 2 m ++ leN 2 m ++ leN 4 s ++ leN 4 a ++ leN 2 0)) := by rw [lastB, z4]; simp
    rw [e]; exact rd_le _ _ _ _ _ (by simp [leN_length]) (by decide)
  · have e : lastB m s a = (leN 4 101010256 ++ leN 2 0) ++ (leN 2 0 ++ (leN 2 m ++ leN 2 m ++ leN 4 s ++ leN 4 a ++ leN 2 0)) := by rw [lastB, z4]; simp
    rw [e]; exact rd_le _ _ _ _ _ (by simp [leN_length]) (by decide)
  · have e : lastB m s a = (leN 4 101010256 ++ List.replicate 4 0) ++ (leN 2 m ++ (leN 2 m ++ leN 4 s ++ leN 4 a ++ leN 2 0)) := by simp [lastB]
    rw [e]; exact rd_le _ _ _ _ _ (by simp [leN_length]) hm
  · have e : lastB m s a = (leN 4 101010256 ++ List.replicate 4 0 ++ leN 2 m) ++ (leN 2 m ++ (leN 4 s ++ leN 4 a ++ leN 2 0)) := by simp [lastB]
    rw [e]; exact rd_le _ _ _ _ _ (by simp [leN_length]) hm
  · have e : lastB m s a = (leN 4 101010256 ++ List.replicate 4 0 ++ leN 2 m ++ leN 2 m) ++ (leN 4 s ++ (leN 4 a ++ leN 2 0)) := by simp [lastB]
    rw [e]; exact rd_le _ _ _ _ _ (by simp [leN_length]) hs
  · have e : lastB m s a = (leN 4 101010256 ++ List.replicate 4 0 ++ leN 2 m ++ leN 2 m ++ leN 4 s) ++ (leN 4 a ++ leN 2 0) := by simp [lastB]
    rw [e]; exact rd_le _ _ _ _ _ (by simp [leN_length]) ha
/-- The fields of an entry of the list. -/
theorem list_fields (p : Nat) (nm d : List UInt8) (hp : p < 4294967296) (hn : nm.length < 65536) (hd : d.length < 4294967296) :
    rd (listB p nm d) 0 4 = 33639248 ∧ rd (listB p nm d) 10 2 = 0 ∧ rd (listB p nm d) 20 4 = d.length ∧ rd (listB p nm d) 24 4 = d.length ∧ rd (listB p nm d) 28 2 = nm.length ∧ rd (listB p nm d) 30 2 = 0 ∧ rd (listB p nm d) 32 2 = 0 ∧ rd (listB p nm d) 42 4 = p ∧ win (listB p nm d) 46 nm.length = nm := by
  have z12 : (List.replicate 12 0 : List UInt8) = leN 2 0 ++ (leN 2 0 ++ List.replicate 8 0) := by decide
  refine ⟨?_, ?_, ?_, ?_, ?_, ?_, ?_, ?_, ?_⟩
  · have e : listB p nm d = [] ++ (leN 4 33639248 ++ (leN 2 10 ++ leN 2 10 ++ sizesB nm.length d.length ++ List.replicate 12 0 ++ leN 4 p ++ nm)) := by simp [listB]
    rw [e]; exact rd_le _ _ _ _ _ rfl (by decide)
  · have e : listB p nm d = (leN 4 33639248 ++ leN 2 10 ++ leN 2 10 ++ leN 2 0) ++ (leN 2 0 ++ (List.replicate 8 0 ++ leN 4 d.length ++ leN 4 d.length ++ leN 2 nm.length ++ (leN 2 0 ++ (leN 2 0 ++ List.replicate 8 0)) ++ leN 4 p ++ nm)) := by rw [listB, sizesB, z12]; simp only [List.append_assoc]
    rw [e]; exact rd_le _ _ _ _ _ (by simp [leN_length]) (by decide)
  · have e : listB p nm d = (leN 4 33639248 ++ leN 2 10 ++ leN 2 10 ++ List.replicate 12 0) ++ (leN 4 d.length ++ (leN 4 d.length ++ leN 2 nm.length ++ List.replicate 12 0 ++ leN 4 p ++ nm)) := by rw [listB, sizesB]; simp only [List.append_assoc]
    rw [e]; exact rd_le _ _ _ _ _ (by simp [leN_length]) hd
  · have e : listB p nm d = (leN 4 33639248 ++ leN 2 10 ++ leN 2 10 ++ List.replicate 12 0 ++ leN 4 d.length) ++ (leN 4 d.length ++ (leN 2 nm.length ++ List.replicate 12 0 ++ leN 4 p ++ nm)) := by rw [listB, sizesB]; simp only [List.append_assoc]
    rw [e]; exact rd_le _ _ _ _ _ (by simp [leN_length]) hd
  · have e : listB p nm d = (leN 4 33639248 ++ leN 2 10 ++ leN 2 10 ++ List.replicate 12 0 ++ leN 4 d.length ++ leN 4 d.length) ++ (leN 2 nm.length ++ (List.replicate 12 0 ++ leN 4 p ++ nm)) := by rw [listB, sizesB]; simp only [List.append_assoc]
    rw [e]; exact rd_le _ _ _ _ _ (by simp [leN_length]) hn
  · have e : listB p nm d = (leN 4 33639248 ++ leN 2 10 ++ leN 2 10 ++ sizesB nm.length d.length) ++ (leN 2 0 ++ (leN 2 0 ++ List.replicate 8 0 ++ leN 4 p ++ nm)) := by rw [listB, z12]; simp only [List.append_assoc]
    rw [e]; exact rd_le _ _ _ _ _ (by simp [leN_length, sizesB_len]) (by decide)
  · have e : listB p nm d = (leN 4 33639248 ++ leN 2 10 ++ leN 2 10 ++ sizesB nm.length d.length ++ leN 2 0) ++ (leN 2 0 ++ (List.replicate 8 0 ++ leN 4 p ++ nm)) := by rw [listB, z12]; simp only [List.append_assoc]
    rw [e]; exact rd_le _ _ _ _ _ (by simp [leN_length, sizesB_len]) (by decide)
  · have e : listB p nm d = (leN 4 33639248 ++ leN 2 10 ++ leN 2 10 ++ sizesB nm.length d.length ++ List.replicate 12 0) ++ (leN 4 p ++ nm) := by rw [listB]; simp only [List.append_assoc]
    rw [e]; exact rd_le _ _ _ _ _ (by simp [leN_length, sizesB_len]) hp
  · have e : listB p nm d = (leN 4 33639248 ++ leN 2 10 ++ leN 2 10 ++ sizesB nm.length d.length ++ List.replicate 12 0 ++ leN 4 p) ++ (nm ++ []) := by rw [listB]; simp only [List.append_assoc, List.append_nil]
    rw [e]
    have h := win_at (leN 4 33639248 ++ leN 2 10 ++ leN 2 10 ++ sizesB nm.length d.length ++ List.replicate 12 0 ++ leN 4 p) nm [] 0 nm.length (by omega)
    have hl : (leN 4 33639248 ++ leN 2 10 ++ leN 2 10 ++ sizesB nm.length d.length ++ List.replicate 12 0 ++ leN 4 p).length = 46 := by simp [leN_length, sizesB_len]
    rw [Nat.add_zero, hl] at h
    rw [h]; simp [win]
/-- The fields of a file's own header, and its bytes. -/
theorem own_fields (p : Nat) (nm d : List UInt8) (hn : nm.length < 65536) :
    rd (ownB p nm d) 0 4 = 67324752 ∧ rd (ownB p nm d) 8 2 = 0 ∧ rd (ownB p nm d) 26 2 = nm.length ∧ rd (ownB p nm d) 28 2 = padN (p + 30 + nm.length) ∧ win (ownB p nm d) 30 nm.length = nm ∧ win (ownB p nm d) (30 + nm.length + padN (p + 30 + nm.length)) d.length = d := by
  have hpad := (padN_is (p + 30 + nm.length)).2.1
  obtain ⟨z, hz⟩ : ∃ z, padN (p + 30 + nm.length) = z := ⟨_, rfl⟩
  unfold ownB
  rw [hz] at hpad ⊢
  have z12 : (List.replicate 12 0 : List UInt8) = leN 2 0 ++ (leN 2 0 ++ List.replicate 8 0) := by decide
  refine ⟨?_, ?_, ?_, ?_, ?_, ?_⟩
  · have e : leN 4 67324752 ++ leN 2 10 ++ sizesB nm.length d.length ++ leN 2 z ++ nm ++ List.replicate z 0 ++ d = [] ++ (leN 4 67324752 ++ (leN 2 10 ++ sizesB nm.length d.length ++ leN 2 z ++ nm ++ List.replicate z 0 ++ d)) := by simp
    rw [e]; exact rd_le _ _ _ _ _ rfl (by decide)
  · have e : leN 4 67324752 ++ leN 2 10 ++ sizesB nm.length d.length ++ leN 2 z ++ nm ++ List.replicate z 0 ++ d = (leN 4 67324752 ++ leN 2 10 ++ leN 2 0) ++ (leN 2 0 ++ (List.replicate 8 0 ++ leN 4 d.length ++ leN 4 d.length ++ leN 2 nm.length ++ leN 2 z ++ nm ++ List.replicate z 0 ++ d)) := by rw [sizesB, z12]; simp only [List.append_assoc]
    rw [e]; exact rd_le _ _ _ _ _ (by simp [leN_length]) (by decide)
  · have e : leN 4 67324752 ++ leN 2 10 ++ sizesB nm.length d.length ++ leN 2 z ++ nm ++ List.replicate z 0 ++ d = (leN 4 67324752 ++ leN 2 10 ++ List.replicate 12 0 ++ leN 4 d.length ++ leN 4 d.length) ++ (leN 2 nm.length ++ (leN 2 z ++ nm ++ List.replicate z 0 ++ d)) := by rw [sizesB]; simp only [List.append_assoc]
    rw [e]; exact rd_le _ _ _ _ _ (by simp [leN_length]) hn
  · have e : leN 4 67324752 ++ leN 2 10 ++ sizesB nm.length d.length ++ leN 2 z ++ nm ++ List.replicate z 0 ++ d = (leN 4 67324752 ++ leN 2 10 ++ sizesB nm.length d.length) ++ (leN 2 z ++ (nm ++ List.replicate z 0 ++ d)) := by simp only [List.append_assoc]
    rw [e]; exact rd_le _ _ _ _ _ (by simp [leN_length, sizesB_len]) (by omega)
  · have e : leN 4 67324752 ++ leN 2 10 ++ sizesB nm.length d.length ++ leN 2 z ++ nm ++ List.replicate z 0 ++ d = (leN 4 67324752 ++ leN 2 10 ++ sizesB nm.length d.length ++ leN 2 z) ++ (nm ++ (List.replicate z 0 ++ d)) := by simp only [List.append_assoc]
    rw [e]
    have h := win_at (leN 4 67324752 ++ leN 2 10 ++ sizesB nm.length d.length ++ leN 2 z) nm (List.replicate z 0 ++ d) 0 nm.length (by omega)
    rw [show (leN 4 67324752 ++ leN 2 10 ++ sizesB nm.length d.length ++ leN 2 z).length + 0 = 30 by simp [leN_length, sizesB_len]] at h
    rw [h]; simp [win]
  · have e : leN 4 67324752 ++ leN 2 10 ++ sizesB nm.length d.length ++ leN 2 z ++ nm ++ List.replicate z 0 ++ d = (leN 4 67324752 ++ leN 2 10 ++ sizesB nm.length d.length ++ leN 2 z ++ nm ++ List.replicate z 0) ++ (d ++ []) := by simp only [List.append_assoc, List.append_nil]
    rw [e]
    have h := win_at (leN 4 67324752 ++ leN 2 10 ++ sizesB nm.length d.length ++ leN 2 z ++ nm ++ List.replicate z 0) d [] 0 d.length (by omega)
    have hl : (leN 4 67324752 ++ leN 2 10 ++ sizesB nm.length d.length ++ leN 2 z ++ nm ++ List.replicate z 0).length = 30 + nm.length + z := by simp [leN_length, sizesB_len]; omega
    rw [Nat.add_zero, hl] at h
    rw [h]; simp [win]
end Go.Proofs.Ytegcdddfccmljaa
