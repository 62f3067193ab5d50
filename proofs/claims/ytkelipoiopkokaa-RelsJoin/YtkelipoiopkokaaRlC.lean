
/-
  Layer 12 (rels): Decode.
-/
import Derived.Test.YtkelipoiopkokaaRlB
set_option linter.unusedVariables false
namespace Go.Proofs.Ytkelipoiopkokaa
open Go.RowKit Go.PlainAid Go.Sort
/-- What Decode answers. -/
def RelIs (w' : World) (B : Nat) (o : Option (List Rl)) (e : Ending) : Prop :=
  match o with
  | none => e = .returned (.tuple #[.slice none 0 0, .int .i64 120])
  | some L => ∃ v, e = .returned (.tuple #[v, .int .i64 0]) ∧ OwnR w' B v L
theorem relsZ_no {l : List UInt8} {rela : Bool} (h : l.length % sizeR rela ≠ 0 ∨ 512 < l.length / sizeR rela) : relsZ l rela = none := by
  unfold relsZ; rw [if_neg (by omega)]
theorem relsZ_yes {l : List UInt8} {rela : Bool} {m : Nat} (h : l.length = m * sizeR rela) (hm : m ≤ 512) : relsZ l rela = some (rowR l rela m) := by
  have := sizeR_pos rela
  unfold relsZ; rw [h, Nat.mul_mod_left, Nat.mul_div_cancel _ (by omega), if_pos ⟨rfl, hm⟩]
set_option maxHeartbeats 2000000 in
set_option maxRecDepth 20000 in
theorem rels_Decode (w : World) (v : Value) (l : List UInt8) (h : Arg w v l) (rela : Bool) (hl : l.length ≤ 1000000) :
    Calls Try.prog 7 #[v, .bool rela] w fun e w' => RelIs w' w.heap.size (relsZ l rela) e ∧ Below w.heap.size w w' := by
  obtain ⟨S, hS, hS1⟩ : ∃ S, sizeR rela = S ∧ (S = 16 ∨ S = 24) := ⟨_, rfl, by cases rela <;> simp [sizeR]⟩
  have hZ := rels_sizeOf w rela
  obtain ⟨a, cap, rfl, _⟩ := h.isSlice
  have HT := hide (fun W (hb : Below w.heap.size w W) p hp => rels_take W _ l (h.below' hb) p rela hp)
  have HB : Hid (Below w.heap.size w w) := Below.refl _ _
  have hdm := Nat.div_add_mod l.length S
  obtain ⟨m, hm⟩ : ∃ m, l.length / S = m := ⟨_, rfl⟩
  obtain ⟨r, hr⟩ : ∃ r, l.length % S = r := ⟨_, rfl⟩
  rw [hm, hr] at hdm
  have hno : r ≠ 0 ∨ 512 < m → Hid (relsZ l rela = none) := fun k => relsZ_no (by rw [hS, hm, hr]; exact k)
  have hyes : r = 0 → m ≤ 512 → Hid (relsZ l rela = some (rowR l rela m)) := fun k1 k2 => relsZ_yes (by rw [hS, Nat.mul_comm]; omega) k2
  have hrS : r < S := by rw [← hr]; exact Nat.mod_lt _ (by omega)
  rw [hS] at hZ HT
  obtain ⟨n, hn⟩ : ∃ n, l.length = n := ⟨_, rfl⟩
  rw [hn] at hl hdm HT ⊢
  obtain ⟨O, hO⟩ : ∃ O, relsZ l rela = O := ⟨_, rfl⟩
  rw [hO] at hno hyes ⊢
  have HS := hide hS
  clear h hm hr hn hO hS
  have HA : Hid (∀ p e W, OwnR W p e (rowR l rela 0) ↔ OwnR W p e []) := fun _ _ _ => Iff.rfl
  by_cases hbad : r ≠ 0 ∨ 512 < m
  · have HF := hno hbad
    clear hno hyes HT HA
    rcases hS1 with rfl | rfl
    all_goals
      go_enter Try.func7, Try.ntmps7
      go_wp2_with fail
      refine hZ.mono ?_
      rintro e W ⟨rfl, rfl⟩
      clear hZ
      go_wp2
      all_goals
        go_ret2
        exact ⟨by rw [HF.out]; rfl, HB.out⟩
  · have hr0 : r = 0 := by omega
    have hm5 : m ≤ 512 := by omega
    have HF := hyes hr0 hm5
    clear hno hyes hbad
    subst hr0
    rcases hS1 with rfl | rfl
    · go_enter Try.func7, Try.ntmps7
      go_wp2_with fail
      refine hZ.mono ?_
      rintro e W ⟨rfl, rfl⟩
      clear hZ
      go_wp2
      go_loopw [7, 8] (fun v7 v8 wr => ∃ i : Nat, i ≤ m ∧ v8 = .int .i64 ((i * 16 : Nat) : Int) ∧ Hid (OwnR wr w.heap.size v7 (rowR l rela i)) ∧ Hid (Below w.heap.size w wr)) (fun _ v8 _ => n - (intOf v8).toNat)
      case atStart => exact ⟨0, by omega, by simp, OwnR.nil _ _, Below.refl _ _⟩
      case round =>
        obtain ⟨i, hi, rfl, HO, HBr⟩ := hrel
        have e0 : ((i * 16 : Nat) : Int) = (i : Int) * 16 := by omega
        rw [e0]
        by_cases hlt : i < m
        · have hltI : (i : Int) * 16 < (n : Int) := by omega
          have hTk := HT.out wr HBr.out (i * 16) (by omega)
          rw [e0] at hTk
          have HO2 : Hid (∀ W v, OwnR W w.heap.size v (rowR l rela i ++ [rlAt l (i * 16) rela]) → OwnR W w.heap.size v (rowR l rela (i + 1))) := fun W v k => by rw [rowR_succ, HS.out]; exact k
          have HLn : Hid ((rowR l rela i).length ≤ 1000000) := by rw [Hid, rowR_len]; omega
          generalize rlAt l (i * 16) rela = rl at *
          go_wp2_with fail
          refine hTk.mono ?_
          rintro e w1 ⟨rfl, hb1⟩
          have HB1 : Hid (Below w.heap.size w w1) := HBr.out.trans (hb1.mono HBr.out.size)
          have HO1 := hide (HO.out.stay hb1)
          clear hTk hb1
          obtain ⟨n0, n1, n2, n3, b⟩ := rl
          unfold Rl.cells at *
          go_wp2_with (at_builtin; refine append_rl rfl _ _ rfl w.heap.size w1 _ (rowR l rela i) HO1.out ⟨n0, n1, n2, n3, b⟩ rfl _ (by simp) rfl HLn.out HB1.out.size ?_)
          intro v' w3 h1 h2
          have HB3 : Hid (Below w.heap.size w w3) := HB1.out.trans h2
          have HO3 := hide (HO2.out _ _ h1)
          clear h1 h2 HO HBr HB1 HO1
          go_wp2
          go_roundw
          case rel => exact ⟨i + 1, by omega, by go_num, HO3, HB3⟩
          case measure => simp [intOf]; omega
        · have him : i = m := by omega
          subst him
          go_wp2
          go_ret2
          exact ⟨by rw [HF.out]; exact ⟨_, rfl, HO.out⟩, HBr.out⟩
    · go_enter Try.func7, Try.ntmps7
      go_wp2_with fail
      refine hZ.mono ?_
      rintro e W ⟨rfl, rfl⟩
      clear hZ
      go_wp2
      go_loopw [7, 8] (fun v7 v8 wr => ∃ i : Nat, i ≤ m ∧ v8 = .int .i64 ((i * 24 : Nat) : Int) ∧ Hid (OwnR wr w.heap.size v7 (rowR l rela i)) ∧ Hid (Below w.heap.size w wr)) (fun _ v8 _ => n - (intOf v8).toNat)
      case atStart => exact ⟨0, by omega, by simp, OwnR.nil _ _, Below.refl _ _⟩
      case round =>
        obtain ⟨i, hi, rfl, HO, HBr⟩ := hrel
        have e0 : ((i * 24 : Nat) : Int) = (i : Int) * 24 := by omega
        rw [e0]
        by_cases hlt : i < m
        · have hltI : (i : Int) * 24 < (n : Int) := by omega
          have hTk := HT.out wr HBr.out (i * 24) (by omega)
          rw [e0] at hTk
          have HO2 : Hid (∀ W v, OwnR W w.heap.size v (rowR l rela i ++ [rlAt l (i * 24) rela]) → OwnR W w.heap.size v (rowR l rela (i + 1))) := fun W v k => by rw [rowR_succ, HS.out]; exact k
          have HLn : Hid ((rowR l rela i).length ≤ 1000000) := by rw [Hid, rowR_len]; omega
          generalize rlAt l (i * 24) rela = rl at *
          go_wp2_with fail
          refine hTk.mono ?_
          rintro e w1 ⟨rfl, hb1⟩
          have HB1 : Hid (Below w.heap.size w w1) := HBr.out.trans (hb1.mono HBr.out.size)
          have HO1 := hide (HO.out.stay hb1)
          clear hTk hb1
          obtain ⟨n0, n1, n2, n3, b⟩ := rl
          unfold Rl.cells at *
          go_wp2_with (at_builtin; refine append_rl rfl _ _ rfl w.heap.size w1 _ (rowR l rela i) HO1.out ⟨n0, n1, n2, n3, b⟩ rfl _ (by simp) rfl HLn.out HB1.out.size ?_)
          intro v' w3 h1 h2
          have HB3 : Hid (Below w.heap.size w w3) := HB1.out.trans h2
          have HO3 := hide (HO2.out _ _ h1)
          clear h1 h2 HO HBr HB1 HO1
          go_wp2
          go_roundw
          case rel => exact ⟨i + 1, by omega, by go_num, HO3, HB3⟩
          case measure => simp [intOf]; omega
        · have him : i = m := by omega
          subst him
          go_wp2
          go_ret2
          exact ⟨by rw [HF.out]; exact ⟨_, rfl, HO.out⟩, HBr.out⟩
end Go.Proofs.Ytkelipoiopkokaa
