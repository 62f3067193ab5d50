
/-
  Layer 12 (rels): the reference's Decode.
-/
import Derived.Test.YtkelipoiopkokaaRlC
set_option linter.unusedVariables false
namespace Go.Proofs.Ytkelipoiopkokaa
open Go.RowKit Go.PlainAid Go.Sort
theorem OwnR.set_far {w : World} {B : Nat} {v : Value} {l : List Rl} (h : OwnR w B v l) {g : Nat} (hg : ∀ k, v.ownBlock = some k → k ≠ g) (j : Nat) (x : Value) : OwnR (w.setCell ⟨g, j, none⟩ x) B v l := by
  unfold OwnR at h ⊢
  refine ⟨h.1, ?_⟩
  rcases h.2 with hn | ⟨k, cap, cur, rfl, hB, hg', rest⟩
  · exact .inl hn
  · refine .inr ⟨k, cap, cur, rfl, hB, ?_, rest⟩
    rw [Below.heap_setCell _ _ _ _ (hg k rfl)]; exact hg'
set_option maxHeartbeats 2000000 in
set_option maxRecDepth 20000 in
theorem ref12_Decode (w : World) (v : Value) (l : List UInt8) (h : Arg w v l) (rela : Bool) (hl : l.length ≤ 1000000) :
    Calls Try.prog 8 #[v, .bool rela] w fun e w' => RelIs w' w.heap.size (relsZ l rela) e ∧ Below w.heap.size w w' := by
  obtain ⟨S, hS, hS1⟩ : ∃ S, sizeR rela = S ∧ (S = 16 ∧ rela = false ∨ S = 24 ∧ rela = true) := ⟨_, rfl, by cases rela <;> simp [sizeR]⟩
  obtain ⟨a, cap, rfl, _⟩ := h.isSlice
  have HN := hide (fun W (hb : Below w.heap.size w W) (p s : Nat) (hp : (p : Int) ≤ 18446744073709551615) (hs : s ≤ 8) (hs0 : 0 < s) => ref8_N W _ l (h.below' hb) p s hp hs hs0)
  have HB : Hid (Below w.heap.size w w) := Below.refl _ _
  have hdm := Nat.div_add_mod l.length S
  obtain ⟨m, hm⟩ : ∃ m, l.length / S = m := ⟨_, rfl⟩
  obtain ⟨r, hr⟩ : ∃ r, l.length % S = r := ⟨_, rfl⟩
  rw [hm, hr] at hdm
  have hno : r ≠ 0 ∨ 512 < m → Hid (relsZ l rela = none) := fun k => relsZ_no (by rw [hS, hm, hr]; exact k)
  have hyes : r = 0 → m ≤ 512 → Hid (relsZ l rela = some (rowR l rela m)) := fun k1 k2 => relsZ_yes (by rw [hS, Nat.mul_comm]; omega) k2
  have hrS : r < S := by rw [← hr]; exact Nat.mod_lt _ (by omega)
  obtain ⟨n, hn⟩ : ∃ n, l.length = n := ⟨_, rfl⟩
  rw [hn] at hl hdm HN ⊢
  obtain ⟨O, hO⟩ : ∃ O, relsZ l rela = O := ⟨_, rfl⟩
  rw [hO] at hno hyes ⊢
  have HS := hide hS
  clear h hm hr hn hO hS
  by_cases hbad : r ≠ 0 ∨ 512 < m
  · have HF := hno hbad
    clear hno hyes HN
    rcases hS1 with ⟨rfl, rfl⟩ | ⟨rfl, rfl⟩
    all_goals
      go_enter Try.func8, Try.ntmps8
      go_wp2
      all_goals
        go_ret2
        exact ⟨by rw [HF.out]; rfl, HB.out⟩
  · have hr0 : r = 0 := by omega
    have hm5 : m ≤ 512 := by omega
    have HF := hyes hr0 hm5
    clear hno hyes hbad
    subst hr0
    rcases hS1 with ⟨rfl, rfl⟩ | ⟨rfl, rfl⟩
    · have hq : (n : Int) / 16 = (m : Int) := by omega
      go_enter Try.func8, Try.ntmps8
      go_wp2
      go_loopw [8, 9, 10] (fun v8 v9 _ wr => ∃ i : Nat, i ≤ m ∧ v9 = .int .u64 (i : Int) ∧ Hid (OwnR wr w.heap.size v8 (rowR l false i)) ∧ Hid (Below w.heap.size w wr)) (fun _ v9 _ _ => m - (intOf v9).toNat)
      case atStart => exact ⟨0, by omega, rfl, OwnR.nil _ _, Below.refl _ _⟩
      case round =>
        obtain ⟨i, hi, rfl, HO, HBr⟩ := hrel
        by_cases hlt : i < m
        · have hltI : (i : Int) < (m : Int) := by omega
          have k0 := HN.out wr HBr.out (i * 16) 8 (by omega) (by omega) (by omega)
          have k1 := HN.out wr HBr.out (i * 16 + 8) 4 (by omega) (by omega) (by omega)
          have k2 := HN.out wr HBr.out (i * 16 + 12) 4 (by omega) (by omega) (by omega)
          have K3 := hide (fun W hb => HN.out W hb (i * 16 + 16) 8 (by omega) (by omega) (by omega))
          have HE : Hid (rlAt l (i * 16) false = ⟨rd l (i * 16) 8, rd l (i * 16 + 8) 4, rd l (i * 16 + 12) 4, if false then IntKind.i64.wrap ((rd l (i * 16 + 16) 8 : Nat) : Int) else 0, false⟩) := rfl
          have b1 := rd4 l (i * 16 + 8)
          have b2 := rd4 l (i * 16 + 12)
          have e0 : ((i * 16 : Nat) : Int) = (i : Int) * 16 := by omega
          have e1 : ((i * 16 + 8 : Nat) : Int) = (i : Int) * 16 + 8 := by omega
          have e2 : ((i * 16 + 12 : Nat) : Int) = (i : Int) * 16 + 12 := by omega
          have e3 : ((i * 16 + 16 : Nat) : Int) = (i : Int) * 16 + 16 := by omega
          rw [e0] at k0
          rw [e1] at k1
          rw [e2] at k2
          rw [e3] at K3
          clear e0 e1 e2 e3
          generalize rd l (i * 16) 8 = n0 at *
          generalize rd l (i * 16 + 8) 4 = n1 at *
          generalize rd l (i * 16 + 12) 4 = n2 at *
          generalize rd l (i * 16 + 16) 8 = n3 at *
          obtain ⟨s3, hs3⟩ : ∃ s, IntKind.i64.wrap (n3 : Int) = s := ⟨_, rfl⟩
          rw [hs3] at HE
          have b1I : (n1 : Int) ≤ 4294967295 := by omega
          have b2I : (n2 : Int) ≤ 4294967295 := by omega
          have HO2 : Hid (∀ W v, OwnR W w.heap.size v (rowR l false i ++ [⟨n0, n1, n2, 0, false⟩]) → OwnR W w.heap.size v (rowR l false (i + 1))) := fun W v k => by rw [rowR_succ, HS.out, HE.out]; exact k
          have HLn : Hid ((rowR l false i).length ≤ 1000000) := by rw [Hid, rowR_len]; omega
          have HZ : Hid ((wr.alloc (.cells #[.int .u64 0, .int .u32 0, .int .u32 0, .int .i64 0, .bool false] 43)).heap[wr.heap.size]? = some (.cells #[.int .u64 0, .int .u32 0, .int .u32 0, .int .i64 0, .bool false] 43 (0, 0))) := heap_alloc_new _ _
          have HBZ : Hid (Below wr.heap.size wr (wr.alloc (.cells #[.int .u64 0, .int .u32 0, .int .u32 0, .int .i64 0, .bool false] 43))) := Below.alloc (Below.refl _ _) (Nat.le_refl _) _
          go_wp2_with fail
          refine k0.mono ?_
          rintro e w1 ⟨rfl, rfl⟩
          go_wp2_with fail
          refine k1.mono ?_
          rintro e w1 ⟨rfl, rfl⟩
          go_wp2_with fail
          refine k2.mono ?_
          rintro e w1 ⟨rfl, rfl⟩
          clear k0 k1 k2
          go_wp2_with ((with_reducible refine at_storeRl ?_); refine store_part rfl _ _ _ rfl wr.heap.size 0 43 _ [.int .u64 n0, .int .u32 n1, .int .u32 n2, .int .i64 0, .bool false] #[.int .u64 n0, .int .u32 n1, .int .u32 n2, .int .i64 0, .bool false] HZ.out rfl rfl rl_size (rl_one _ _ _ _ _) (Nat.le_refl 5) (by rfl) ?_)
          intro w1 h1 h2
          have hb1 : Below wr.heap.size wr w1 := HBZ.out.grown h2 (by simp) (fun k hk => by have := Option.some.inj hk; omega)
          have HB1 : Hid (Below w.heap.size w w1) := HBr.out.trans (hb1.mono HBr.out.size)
          have HO1 := hide (HO.out.stay hb1)
          have HG1 := hide h1
          have hgw : wr.heap.size < w1.heap.size := (Array.getElem?_eq_some_iff.1 h1).1
          clear hb1 h2
          have HL := hide (load_rl h1 rfl)
          clear h1
          go_wp2_with (first | ((with_reducible refine at_loadRl ?_); refine load_row rfl _ _ rfl wr.heap.size _ HL.out rfl ?_) | (at_builtin; refine append_rl rfl _ _ rfl w.heap.size w1 _ (rowR l false i) HO1.out ⟨n0, n1, n2, 0, false⟩ rfl _ (by simp) rfl HLn.out HB1.out.size ?_))
          intro v' w3 h1 h2
          have HB3 : Hid (Below w.heap.size w w3) := HB1.out.trans h2
          have HO3 := hide (HO2.out _ _ h1)
          clear h1 h2 HO HBr HB1 HO1
          go_wp2
          go_roundw
          case rel => exact ⟨i + 1, by omega, by go_num, HO3, HB3⟩
          case measure => simp [intOf]; omega
        · have him : i = m := by omega
          subst him
          go_wp2
          go_ret2
          exact ⟨by rw [HF.out]; exact ⟨_, rfl, HO.out⟩, HBr.out⟩
    · have hq : (n : Int) / 24 = (m : Int) := by omega
      go_enter Try.func8, Try.ntmps8
      go_wp2
      go_loopw [8, 9, 10] (fun v8 v9 _ wr => ∃ i : Nat, i ≤ m ∧ v9 = .int .u64 (i : Int) ∧ Hid (OwnR wr w.heap.size v8 (rowR l true i)) ∧ Hid (Below w.heap.size w wr)) (fun _ v9 _ _ => m - (intOf v9).toNat)
      case atStart => exact ⟨0, by omega, rfl, OwnR.nil _ _, Below.refl _ _⟩
      case round =>
        obtain ⟨i, hi, rfl, HO, HBr⟩ := hrel
        by_cases hlt : i < m
        · have hltI : (i : Int) < (m : Int) := by omega
          have k0 := HN.out wr HBr.out (i * 24) 8 (by omega) (by omega) (by omega)
          have k1 := HN.out wr HBr.out (i * 24 + 8) 4 (by omega) (by omega) (by omega)
          have k2 := HN.out wr HBr.out (i * 24 + 12) 4 (by omega) (by omega) (by omega)
          have K3 := hide (fun W hb => HN.out W hb (i * 24 + 16) 8 (by omega) (by omega) (by omega))
          have HE : Hid (rlAt l (i * 24) true = ⟨rd l (i * 24) 8, rd l (i * 24 + 8) 4, rd l (i * 24 + 12) 4, if true then IntKind.i64.wrap ((rd l (i * 24 + 16) 8 : Nat) : Int) else 0, true⟩) := rfl
          have b1 := rd4 l (i * 24 + 8)
          have b2 := rd4 l (i * 24 + 12)
          have e0 : ((i * 24 : Nat) : Int) = (i : Int) * 24 := by omega
          have e1 : ((i * 24 + 8 : Nat) : Int) = (i : Int) * 24 + 8 := by omega
          have e2 : ((i * 24 + 12 : Nat) : Int) = (i : Int) * 24 + 12 := by omega
          have e3 : ((i * 24 + 16 : Nat) : Int) = (i : Int) * 24 + 16 := by omega
          rw [e0] at k0
          rw [e1] at k1
          rw [e2] at k2
          rw [e3] at K3
          clear e0 e1 e2 e3
          generalize rd l (i * 24) 8 = n0 at *
          generalize rd l (i * 24 + 8) 4 = n1 at *
          generalize rd l (i * 24 + 12) 4 = n2 at *
          generalize rd l (i * 24 + 16) 8 = n3 at *
          obtain ⟨s3, hs3⟩ : ∃ s, IntKind.i64.wrap (n3 : Int) = s := ⟨_, rfl⟩
          rw [hs3] at HE
          have b1I : (n1 : Int) ≤ 4294967295 := by omega
          have b2I : (n2 : Int) ≤ 4294967295 := by omega
          have HO2 : Hid (∀ W v, OwnR W w.heap.size v (rowR l true i ++ [⟨n0, n1, n2, s3, true⟩]) → OwnR W w.heap.size v (rowR l true (i + 1))) := fun W v k => by rw [rowR_succ, HS.out, HE.out]; exact k
          have HLn : Hid ((rowR l true i).length ≤ 1000000) := by rw [Hid, rowR_len]; omega
          have HZ : Hid ((wr.alloc (.cells #[.int .u64 0, .int .u32 0, .int .u32 0, .int .i64 0, .bool false] 43)).heap[wr.heap.size]? = some (.cells #[.int .u64 0, .int .u32 0, .int .u32 0, .int .i64 0, .bool false] 43 (0, 0))) := heap_alloc_new _ _
          have HBZ : Hid (Below wr.heap.size wr (wr.alloc (.cells #[.int .u64 0, .int .u32 0, .int .u32 0, .int .i64 0, .bool false] 43))) := Below.alloc (Below.refl _ _) (Nat.le_refl _) _
          go_wp2_with fail
          refine k0.mono ?_
          rintro e w1 ⟨rfl, rfl⟩
          go_wp2_with fail
          refine k1.mono ?_
          rintro e w1 ⟨rfl, rfl⟩
          go_wp2_with fail
          refine k2.mono ?_
          rintro e w1 ⟨rfl, rfl⟩
          clear k0 k1 k2
          go_wp2_with ((with_reducible refine at_storeRl ?_); refine store_part rfl _ _ _ rfl wr.heap.size 0 43 _ [.int .u64 n0, .int .u32 n1, .int .u32 n2, .int .i64 0, .bool true] #[.int .u64 n0, .int .u32 n1, .int .u32 n2, .int .i64 0, .bool true] HZ.out rfl rfl rl_size (rl_one _ _ _ _ _) (Nat.le_refl 5) (by rfl) ?_)
          intro w1 h1 h2
          have hb1 : Below wr.heap.size wr w1 := HBZ.out.grown h2 (by simp) (fun k hk => by have := Option.some.inj hk; omega)
          have HB1 : Hid (Below w.heap.size w w1) := HBr.out.trans (hb1.mono HBr.out.size)
          have HO1 := hide (HO.out.stay hb1)
          have HG1 := hide h1
          have hgw : wr.heap.size < w1.heap.size := (Array.getElem?_eq_some_iff.1 h1).1
          clear hb1 h2
          have f3 := frozen_blk h1 3
          have x3 := cells_of_block h1 3 _ rfl
          clear h1
          go_wp2_with fail
          refine (K3.out w1 HB1.out).mono ?_
          rintro e W ⟨rfl, rfl⟩
          have HB2 : Hid (Below w.heap.size w (w1.setCell ⟨wr.heap.size, 3, none⟩ (.int .i64 s3))) := HB1.out.setCell (p := ⟨wr.heap.size, 3, none⟩) HBr.out.size _
          have HG2 := hide (rl_set3 HG1.out (.int .i64 s3))
          have HL := hide (load_rl HG2.out rfl)
          have HO4 : Hid (OwnR (w1.setCell ⟨wr.heap.size, 3, none⟩ (.int .i64 s3)) w.heap.size _ (rowR l true i)) := HO1.out.set_far (fun k hk => by have := (HO.out.base k hk).2; omega) _ _
          go_wp2_with (first | ((with_reducible refine at_loadRl ?_); refine load_row rfl _ _ rfl wr.heap.size _ HL.out rfl ?_) | (at_builtin; refine append_rl rfl _ _ rfl w.heap.size (w1.setCell ⟨wr.heap.size, 3, none⟩ (.int .i64 s3)) _ (rowR l true i) HO4.out ⟨n0, n1, n2, s3, true⟩ rfl _ (by simp) rfl HLn.out HB2.out.size ?_))
          intro v' w3 h1 h2
          have HB3 : Hid (Below w.heap.size w w3) := HB2.out.trans h2
          have HO3 := hide (HO2.out _ _ h1)
          clear h1 h2 HO HBr HB1 HO1
          go_wp2
          go_roundw
          case rel => exact ⟨i + 1, by omega, by go_num, HO3, HB3⟩
          case measure => simp [intOf]; omega
        · have him : i = m := by omega
          subst him
          go_wp2
          go_ret2
          exact ⟨by rw [HF.out]; exact ⟨_, rfl, HO.out⟩, HBr.out⟩
end Go.Proofs.Ytkelipoiopkokaa
