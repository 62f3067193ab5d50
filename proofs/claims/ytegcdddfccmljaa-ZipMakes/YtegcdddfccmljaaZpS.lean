
/-
  Layer 7 (zip), in plain words: each file of an archive that was made is found in it.
-/
import Derived.Test.YtegcdddfccmljaaZpR
set_option linter.unusedVariables false
namespace Go.Proofs.Ytegcdddfccmljaa
open Go.RowKit Go.PlainAid
def layA : List Fl → Nat → List UInt8
  | [], _ => []
  | f :: t, p => ownB p f.name f.data ++ layA t (p + (ownB p f.name f.data).length)
def layC : List Fl → Nat → List UInt8
  | [], _ => []
  | f :: t, p => listB p f.name f.data ++ layC t (p + (ownB p f.name f.data).length)
def ents : List Fl → Nat → List En
  | [], _ => []
  | f :: t, p => ⟨f.name, 0, f.data.length, f.data.length, p⟩ :: ents t (p + (ownB p f.name f.data).length)
theorem chkF_zero {n d : Nat} (h : chkF n d = 0) : 0 < n ∧ n ≤ 256 ∧ d ≤ 262144 := by
  rcases chkF_or n d with ⟨_, h1⟩ | ⟨_, h1⟩
  · exact h1
  · exact absurd h h1
theorem makeZ_is : ∀ (fs : List Fl) (a c : List UInt8) (r : List UInt8 × List UInt8), makeZ fs a c = .ok r →
    r = (a ++ layA fs a.length, c ++ layC fs a.length) ∧ (∀ f ∈ fs, chkF f.name.length f.data.length = 0) ∧ (a.length + c.length + 22 ≤ 262144 → r.1.length + r.2.length + 22 ≤ 262144)
  | [], a, c, r, h => by
    rw [makeZ] at h
    injection h with h
    subst h
    exact ⟨by simp [layA, layC], fun f hf => by simp at hf, fun h => h⟩
  | f :: t, a, c, r, h => by
    rw [makeZ] at h
    by_cases h1 : chkF f.name.length f.data.length = 0
    · rw [if_pos h1] at h
      by_cases h2 : 262144 < (a ++ ownB a.length f.name f.data).length + (c ++ listB a.length f.name f.data).length + 22
      · rw [if_pos h2] at h; cases h
      · rw [if_neg h2] at h
        obtain ⟨k1, k2, k3⟩ := makeZ_is t _ _ r h
        refine ⟨?_, ?_, fun _ => k3 (by omega)⟩
        · rw [k1, layA, layC, List.length_append]; simp only [List.append_assoc]
        · intro g hg
          rcases List.mem_cons.1 hg with e | e
          · rw [e]; exact h1
          · exact k2 g e
    · rw [if_neg h1] at h; cases h
theorem layA_app : ∀ (F1 F2 : List Fl) (p : Nat), layA (F1 ++ F2) p = layA F1 p ++ layA F2 (p + (layA F1 p).length)
  | [], F2, p => by simp [layA]
  | f :: t, F2, p => by
    rw [List.cons_append, layA, layA, layA_app t F2, List.append_assoc, List.length_append, Nat.add_assoc]
theorem ents_app : ∀ (F1 F2 : List Fl) (p : Nat), ents (F1 ++ F2) p = ents F1 p ++ ents F2 (p + (layA F1 p).length)
  | [], F2, p => by simp [ents, layA]
  | f :: t, F2, p => by
    rw [List.cons_append, ents, ents, ents_app t F2, layA, List.cons_append, List.length_append, Nat.add_assoc]
theorem ents_len : ∀ (fs : List Fl) (p : Nat), (ents fs p).length = fs.length
  | [], _ => rfl
  | f :: t, p => by rw [ents, List.length_cons, List.length_cons, ents_len t]
theorem ents_name : ∀ (fs : List Fl) (p i : Nat) (h : i < fs.length), ((ents fs p)[i]'(by rw [ents_len]; exact h)).name = fs[i].name
  | [], _, i, h => by simp at h
  | f :: t, p, 0, h => rfl
  | f :: t, p, i + 1, h => by
    have := ents_name t (p + (ownB p f.name f.data).length) i (by simpa using h)
    simpa [ents] using this
theorem ents_mem_name : ∀ (fs : List Fl) (p : Nat) (e : En), e ∈ ents fs p → ∃ f ∈ fs, e.name = f.name
  | [], _, e, h => by simp [ents] at h
  | f :: t, p, e, h => by
    rw [ents] at h
    rcases List.mem_cons.1 h with rfl | h
    · exact ⟨f, List.mem_cons_self, rfl⟩
    · obtain ⟨g, hg, k⟩ := ents_mem_name t _ e h
      exact ⟨g, List.mem_cons_of_mem _ hg, k⟩
theorem entry_made (C0 S : List UInt8) (p : Nat) (nm d : List UInt8) (hp : p < 4294967296) (hn : nm.length ≤ 256) (hd : d.length ≤ 262144) :
    entryAt (C0 ++ (listB p nm d ++ S)) C0.length = some (⟨nm, 0, d.length, d.length, p⟩, 46 + nm.length) := by
  obtain ⟨g0, g10, g20, g24, g28, g30, g32, g42, g46⟩ := list_fields p nm d hp (by omega) (by omega)
  have hL := listB_len p nm d
  have r := fun k s (h : k + s ≤ 46) => rd_at C0 (listB p nm d) S k s (by omega)
  have r0 := r 0 4 (by omega)
  rw [Nat.add_zero] at r0
  unfold entryAt
  rw [r0, r 28 2 (by omega), r 30 2 (by omega), r 32 2 (by omega), r 10 2 (by omega), r 24 4 (by omega), r 20 4 (by omega), r 42 4 (by omega), g0, g10, g20, g24, g28, g30, g32, g42, win_at C0 (listB p nm d) S 46 nm.length (by omega), g46]
  rw [if_pos ⟨by simp; omega, rfl⟩, if_pos (by simp; omega)]
  rfl
theorem entries_made : ∀ (fs : List Fl) (p : Nat) (C0 : List UInt8), (∀ f ∈ fs, chkF f.name.length f.data.length = 0) → p + (layA fs p).length < 4294967296 →
    entries (C0 ++ layC fs p) fs.length C0.length = some (ents fs p)
  | [], p, C0, _, _ => by simp [layC, entries, ents]
  | f :: t, p, C0, h, hp => by
    obtain ⟨k1, k2, k3⟩ := chkF_zero (h f List.mem_cons_self)
    rw [layA, List.length_append] at hp
    have e : C0 ++ layC (f :: t) p = C0 ++ (listB p f.name f.data ++ layC t (p + (ownB p f.name f.data).length)) := rfl
    rw [e, List.length_cons, entries, entry_made C0 _ p f.name f.data (by omega) k2 k3]
    have ih := entries_made t (p + (ownB p f.name f.data).length) (C0 ++ listB p f.name f.data) (fun g hg => h g (List.mem_cons_of_mem _ hg)) (by omega)
    rw [List.append_assoc, List.length_append, listB_len] at ih
    show Option.map _ (entries _ t.length (C0.length + (46 + f.name.length))) = _
    rw [ih, ents]
    rfl
theorem lastOf_made (b A : List UInt8) (m s a : Nat) (hb : b = A ++ lastB m s a) (hm : m < 65536) (hs : s < 4294967296) (ha : a < 4294967296) : lastOf b = some A.length := by
  obtain ⟨g0, g20, _⟩ := last_fields m s a hm hs ha
  have hl : b.length = A.length + 22 := by rw [hb, List.length_append, lastB_len]
  have hb2 : b = A ++ (lastB m s a ++ []) := by rw [List.append_nil]; exact hb
  have r0 := rd_at A (lastB m s a) [] 0 4 (by rw [lastB_len]; omega)
  have r20 := rd_at A (lastB m s a) [] 20 2 (by rw [lastB_len]; omega)
  rw [← hb2] at r0 r20
  have e : lastOf b = lastFrom b (65535 + 1) 0 := rfl
  rw [e, lastFrom, if_neg (by omega), show b.length - (22 + 0) = A.length by omega, if_pos ⟨by rw [Nat.add_zero] at r0; rw [r0, g0], by rw [r20, g20]⟩]
theorem makeZ_err : ∀ (fs : List Fl) (a c : List UInt8) (x : Int), makeZ fs a c = .error x → x ≠ 0
  | [], a, c, x, h => by rw [makeZ] at h; cases h
  | f :: t, a, c, x, h => by
    rw [makeZ] at h
    by_cases h1 : chkF f.name.length f.data.length = 0
    · rw [if_pos h1] at h
      by_cases h2 : 262144 < (a ++ ownB a.length f.name f.data).length + (c ++ listB a.length f.name f.data).length + 22
      · rw [if_pos h2] at h; injection h with h; subst h; decide
      · rw [if_neg h2] at h; exact makeZ_err t _ _ x h
    · rw [if_neg h1] at h; injection h with h; subst h; exact h1
theorem makeN_err {fs : List Fl} {x : Int} (h : makeN fs = .error x) : x ≠ 0 := by
  unfold makeN at h
  split at h
  · injection h with h; subst h; decide
  split at h
  · rename_i e hM
    injection h with h
    subst h
    exact makeZ_err _ _ _ _ hM
  · cases h
/-- What is read of an archive that was made. -/
theorem read_made (fs : List Fl) (b : List UInt8) (h : makeN fs = .ok b) :
    ∃ S, b = layA fs 0 ++ S ∧ b.length ≤ 262144 ∧ (layA fs 0).length + 22 ≤ b.length ∧ (∀ f ∈ fs, chkF f.name.length f.data.length = 0) ∧ readZ b = some (ents fs 0, (layA fs 0).length) := by
  unfold makeN at h
  split at h
  · cases h
  rename_i hlen
  split at h
  · cases h
  rename_i a c hM
  injection h with h
  obtain ⟨k1, k2, k3⟩ := makeZ_is fs [] [] (a, c) hM
  simp only [List.nil_append, List.length_nil, Prod.mk.injEq] at k1
  obtain ⟨ka, kc⟩ := k1
  have k3' := k3 (by decide)
  simp only at k3'
  subst ka kc
  have hA : (layA fs 0).length ≤ 262144 := by omega
  have hC : (layC fs 0).length ≤ 262144 := by omega
  obtain ⟨g0, g20, g4, g6, g8, g10, g12, g16⟩ := last_fields fs.length (layC fs 0).length (layA fs 0).length (by omega) (by omega) (by omega)
  have hb : b = (layA fs 0 ++ layC fs 0) ++ lastB fs.length (layC fs 0).length (layA fs 0).length := h.symm
  have hbl : b.length = (layA fs 0).length + (layC fs 0).length + 22 := by rw [hb]; simp [lastB_len]; omega
  have hLO := lastOf_made b _ _ _ _ hb (by omega) (by omega) (by omega)
  have hb2 : b = (layA fs 0 ++ layC fs 0) ++ (lastB fs.length (layC fs 0).length (layA fs 0).length ++ []) := by rw [List.append_nil]; exact hb
  have r := fun k s (hk : k + s ≤ 22) => rd_at (layA fs 0 ++ layC fs 0) (lastB fs.length (layC fs 0).length (layA fs 0).length) [] k s (by rw [lastB_len]; exact hk)
  rw [← hb2] at r
  refine ⟨layC fs 0 ++ lastB fs.length (layC fs 0).length (layA fs 0).length, by rw [hb, List.append_assoc], by omega, by omega, k2, ?_⟩
  have hw : win b (layA fs 0).length (layC fs 0).length = layC fs 0 := by
    have e : b = layA fs 0 ++ (layC fs 0 ++ lastB fs.length (layC fs 0).length (layA fs 0).length) := by rw [hb, List.append_assoc]
    have k := win_at (layA fs 0) (layC fs 0) (lastB fs.length (layC fs 0).length (layA fs 0).length) 0 (layC fs 0).length (by omega)
    rw [← e, Nat.add_zero] at k
    rw [k]; simp [win]
  unfold readZ
  rw [if_neg (by omega), hLO]
  simp only
  rw [r 4 2 (by omega), r 6 2 (by omega), r 8 2 (by omega), r 10 2 (by omega), r 12 4 (by omega), r 16 4 (by omega), g4, g6, g8, g10, g12, g16, if_pos ⟨rfl, rfl⟩, if_pos ⟨rfl, by simp⟩, hw]
  have k := entries_made fs 0 [] k2 (by omega)
  rw [List.nil_append, List.length_nil] at k
  rw [k]
  rfl
/-- Each file of an archive that was made is found in it. -/
theorem find_made (fs F1 F2 : List Fl) (f : Fl) (b : List UInt8) (h : makeN fs = .ok b) (e : fs = F1 ++ f :: F2) (hf : ∀ g ∈ F1, g.name ≠ f.name) :
    ∃ p, findZ b f.name = (p, f.data.length, 0) ∧ p % 256 = 0 ∧ p + f.data.length + 22 ≤ b.length ∧ win b p f.data.length = f.data := by
  obtain ⟨S, hb, hbl, h22, hk, hR⟩ := read_made fs b h
  have hkf := chkF_zero (hk f (by rw [e]; simp))
  obtain ⟨q, hq⟩ : ∃ q, (layA F1 0).length = q := ⟨_, rfl⟩
  obtain ⟨T, hT⟩ : ∃ T, layA F2 (q + (ownB q f.name f.data).length) = T := ⟨_, rfl⟩
  have hA : layA fs 0 = layA F1 0 ++ (ownB q f.name f.data ++ T) := by rw [e, layA_app, Nat.zero_add, hq, layA, hT]
  have hE : ents fs 0 = ents F1 0 ++ (⟨f.name, 0, f.data.length, f.data.length, q⟩ :: ents F2 (q + (ownB q f.name f.data).length)) := by rw [e, ents_app, Nat.zero_add, hq, ents]
  have hfind : (ents fs 0).find? (named f.name) = some ⟨f.name, 0, f.data.length, f.data.length, q⟩ := by
    rw [hE, List.find?_append]
    have hn : (ents F1 0).find? (named f.name) = none := by
      rw [List.find?_eq_none]
      intro x hx hnx
      obtain ⟨g, hg, hgn⟩ := ents_mem_name F1 0 x hx
      have : x.name = f.name := by simpa [named] using hnx
      exact hf g hg (by rw [← hgn, this])
    rw [hn]
    simp [named]
  obtain ⟨g0, g8, g26, g28, g30, gd⟩ := own_fields q f.name f.data (by omega)
  have hpad := padN_is (q + 30 + f.name.length)
  obtain ⟨z, hz⟩ : ∃ z, padN (q + 30 + f.name.length) = z := ⟨_, rfl⟩
  have hOL := ownB_len q f.name f.data
  rw [hz] at g28 gd hpad hOL
  have hAl : (layA fs 0).length = q + ((ownB q f.name f.data).length + T.length) := by rw [hA]; simp [hq]
  have hwA : win b 0 (layA fs 0).length = layA fs 0 := by rw [hb]; simp [win]
  have hle : (layA fs 0).length ≤ b.length := by rw [hb]; simp
  have r := fun k s (hk : k + s ≤ 30 + f.name.length) => rd_at (layA F1 0) (ownB q f.name f.data) T k s (by omega)
  rw [hq, ← hA] at r
  have r0 := r 0 4 (by omega)
  rw [Nat.add_zero] at r0
  have w30 := win_at (layA F1 0) (ownB q f.name f.data) T 30 f.name.length (by omega)
  rw [hq, ← hA] at w30
  have hB : beginZ (layA fs 0) ⟨f.name, 0, f.data.length, f.data.length, q⟩ = some (q + 30 + f.name.length + z) := by
    unfold beginZ
    dsimp only
    rw [r0, r 8 2 (by omega), r 26 2 (by omega), r 28 2 (by omega), g0, g8, g26, g28, w30, g30, if_pos ⟨by omega, rfl, rfl⟩, if_pos ⟨by omega, rfl⟩, if_pos ⟨rfl, by omega⟩]
  refine ⟨q + 30 + f.name.length + z, ?_, hpad.1, by omega, ?_⟩
  · unfold findZ
    rw [hR]
    dsimp only
    rw [hfind]
    dsimp only
    rw [if_pos rfl, hwA, hB]
    dsimp only
    rw [if_pos hpad.1]
  · have k := win_at (layA F1 0) (ownB q f.name f.data) (T ++ S) (30 + f.name.length + z) f.data.length (by omega)
    have e2 : b = layA F1 0 ++ (ownB q f.name f.data ++ (T ++ S)) := by rw [hb, hA]; simp only [List.append_assoc]
    rw [hq, ← e2, gd] at k
    rw [show q + 30 + f.name.length + z = q + (30 + f.name.length + z) by omega]
    exact k
end Go.Proofs.Ytegcdddfccmljaa
