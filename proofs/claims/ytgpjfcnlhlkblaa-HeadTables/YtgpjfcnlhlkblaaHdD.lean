
/-
  Layer 8 (head): the program headers of a file.
-/
import Derived.Test.YtgpjfcnlhlkblaaHdC
set_option linter.unusedVariables false
namespace Go.Proofs.Ytgpjfcnlhlkblaa
open Go.RowKit Go.PlainAid
theorem flatH_set (L : List Ph) (i : Nat) (hi : i < L.length) (e : Ph) : (flatH L).take (i * 7) ++ e.cells ++ (flatH L).drop (i * 7 + 7) = flatH (L.set i e) := by
  have h1 : L = L.take i ++ L[i] :: L.drop (i + 1) := by rw [List.getElem_cons_drop hi, List.take_append_drop]
  have h2 : L.set i e = L.take i ++ e :: L.drop (i + 1) := by
    rw [List.set_eq_take_append_cons_drop, if_pos hi]
  have e1 : ∀ (X Y : List Ph) (y : Ph), flatH (X ++ y :: Y) = flatH X ++ (y.cells ++ flatH Y) := fun X Y y => by rw [flatH_app]; rfl
  have hl : (flatH (L.take i)).length = i * 7 := by rw [flatH_len, List.length_take, Nat.min_eq_left (by omega)]
  rw [h2, e1]
  conv => lhs; rw [h1, e1]
  rw [← hl, List.take_left, List.drop_length_add_append, show (7 : Nat) = L[i].cells.length from rfl, List.drop_left]
  simp
/-- A whole program header is stored into a row that is known. -/
theorem store_ph {ops : Array Oper} {rest : List Oper} {o : Oper} {a : Act} {Q : Exit → Act → World → Prop} {w : World} (hgd : o.guard = none) (x y : Operand) (ho : o.op = .store 32 x y)
    (g i : Nat) (L : List Ph) (e : Ph) (hg : w.heap[g]? = some (.cells (flatH L).toArray 32 (0, 0))) (hi : i < L.length) (hx : a.eval x = .pointer (some ⟨g, i * 7, none⟩)) (hy : a.eval y = .agg e.cells.toArray)
    (h : ∀ w', w'.heap[g]? = some (.cells (flatH (L.set i e)).toArray 32 (0, 0)) → w.grownBy w' (some g) → wpList Try.prog ops Q rest (a.put o.dst undef) w') : wpList Try.prog ops Q (o :: rest) a w := by
  have hlen : i * 7 + 7 ≤ (flatH L).length := by rw [flatH_len]; omega
  have hst := run_storeCells_at Try.prog g (i * 7) 32 e.cells 0 (flatH L).toArray w hg (by show i * 7 + 0 + 7 ≤ _; simpa using hlen) (fun v hv => e.one v hv)
  have hr : (Instr.storeAt 32 (.pointer (some ⟨g, i * 7, none⟩)) (.agg e.cells.toArray)).run Try.prog w = .ok () (w.setRow g (flatH (L.set i e)).toArray) := by
    have hsz : ∀ w, (Go.sizeOf 32).run Try.prog w = .ok 7 w := Try.sizeOf32
    have hcl : e.cells.length = 7 := rfl
    simp only [Nat.add_zero, hcl] at hst
    simp only [Instr.storeAt, Instr.sureAddr, Sem.run_bind, Sem.run_pure, Result.andThen_ok, storeVar, hsz, Value.cells, List.size_toArray, hcl]
    rw [flatH_set L i hi e] at hst
    simpa using hst
  refine wpList_plain hgd fun _ hK => ?_
  unfold Oper.wp execOp
  simp only [ho, hx, hy, Sem.run_bind, Sem.run_pure, Result.andThen_ok, hr]
  exact hK _ _ (h _ (setRow_heap w g _ _ _ _ hg) ⟨rfl, rfl, rfl, by simp, fun k _ hk => setRow_other w g k _ (fun e => hk (by rw [e]))⟩)
theorem made_phs (n : Nat) : (madeCells (Value.cells (.agg noPh.cells.toArray)) (n * 7)).toList = flatH (List.replicate n noPh) := by
  have hm : ∀ (zc : Array Value) (N : Nat), (madeCells zc N).toList = (List.range N).map (fun i => zc[i % zc.size]!) := fun zc N => by unfold madeCells; simp
  rw [hm]
  apply List.ext_getElem?
  intro j
  by_cases hj : j < n * 7
  · have h1 : j / 7 < n := by omega
    have h2 : j % 7 < 7 := by omega
    have h3 : j = (j / 7) * 7 + j % 7 := by omega
    have e : (flatH (List.replicate n noPh))[j]? = noPh.cells[j % 7]? := by
      rw [h3, flatH_get _ (j / 7) (by simpa using h1) (j % 7) h2, ← h3]
      simp
    rw [List.getElem?_map, List.getElem?_range hj, e, List.getElem?_eq_getElem (by exact h2)]
    show some ((noPh.cells.toArray)[j % 7]!) = _
    rw [getElem!_pos _ _ (by exact h2)]
    rfl
  · rw [List.getElem?_eq_none (by simpa using hj), List.getElem?_eq_none (by rw [flatH_len]; simpa using hj)]
theorem OwnH.of_block {w : World} {B g : Nat} {L : List Ph} (hg : w.heap[g]? = some (.cells (flatH L).toArray 32 (0, 0))) (hB : B ≤ g) (hL : L.length ≤ 1000) : OwnH w B (.slice (some ⟨g, 0, none⟩) L.length L.length) L := by
  unfold OwnH
  refine ⟨by rw [flatH_len], .inr ⟨g, L.length, (flatH L).toArray, rfl, hB, hg, Nat.le_refl _, by unfold maxLen; omega, by simp [flatH_len], ?_⟩⟩
  rw [List.take_of_length_le (by simp [flatH_len])]
theorem OwnH.block {w : World} {B g n : Nat} {L : List Ph} (h : w.ownsRow B 32 7 (.slice (some ⟨g, 0, none⟩) n n) n (flatH L)) (hn : L.length = n) : w.heap[g]? = some (.cells (flatH L).toArray 32 (0, 0)) := by
  rcases h.2 with ⟨e, _⟩ | ⟨g', cap', cur, e, _, hg, _, _, hc, ht⟩
  · cases e
  · injection e with e1 e2 e3
    injection e1 with e1
    injection e1 with e1
    subst e1 e3
    rw [hg]
    have : cur.toList = flatH L := by rw [← ht, List.take_of_length_le (by simp [hc])]
    rw [← this]
theorem make_phs {ops : Array Oper} {rest : List Oper} {o : Oper} {a : Act} {Q : Exit → Act → World → Prop} {w : World} (hgd : o.guard = none) (l c : Operand) (ho : o.op = Op.makeSlice 23 l c)
    (n : Nat) (hn : n ≤ 1000) (hl : a.eval l = .int .u64 (n : Int)) (hc : a.eval c = .int .u64 (n : Int))
    (hK : ∀ w', w'.heap[w.heap.size]? = some (.cells (flatH (List.replicate n noPh)).toArray 32 (0, 0)) → Below w.heap.size w w' → wpList Try.prog ops Q rest (a.put o.dst (.slice (some ⟨w.heap.size, 0, none⟩) n n)) w') : wpList Try.prog ops Q (o :: rest) a w := by
  obtain ⟨i, hi, hz0, hz1, hz2⟩ := info_parts infoH
  refine wpList_make_full (P := Try.prog) w hgd l c 23 ho w.heap.size 32 i _ 7 Try.underlying23 hi hz0 hz1 .u64 .u64 n n n hl hc rfl rfl (by rw [hz2]; omega) (by unfold maxLen; omega) (Nat.le_refl _) ?_
  intro w' h1 h2
  rw [made_phs] at h1
  exact hK w' (OwnH.block h1 (by simp)) ((Below.refl _ w).grown h2 (Nat.le_refl _) (by simp))
/-- What Table answers. -/
def TableIs (w' : World) (B : Nat) (o : Except Nat (List Ph)) (e : Ending) : Prop :=
  match o with
  | .error n => e = .returned (.tuple #[.slice none 0 0, .int .i64 n])
  | .ok ps => ∃ v, e = .returned (.tuple #[v, .int .i64 0]) ∧ OwnH w' B v ps
theorem Arg.below' {w w' : World} {v : Value} {l : List UInt8} (h : Arg w v l) (hb : Below w.heap.size w w') : Arg w' v l := h.below hb rfl
theorem tab_next (l : List UInt8) (p m i : Nat) (hi : i < m) : ((tabFrom l p i) ++ List.replicate (m - i) noPh).set i (phAt l (p + i * 56)) = (tabFrom l p (i + 1)) ++ List.replicate (m - (i + 1)) noPh := by
  have hl : (tabFrom l p i).length = i := by simp [tabFrom]
  rw [show m - i = (m - (i + 1)) + 1 by omega, List.replicate_succ, List.set_append_right _ _ (by omega), hl, Nat.sub_self, List.set_cons_zero]
  have e : tabFrom l p (i + 1) = tabFrom l p i ++ [phAt l (p + i * 56)] := by unfold tabFrom; rw [List.range_succ, List.map_append]; rfl
  rw [e, List.append_assoc]
  rfl
theorem grown_below {w w0 w1 : World} {g : Nat} (hg : w.heap.size ≤ g) (h0 : Below w.heap.size w w0) (h : w0.grownBy w1 (some g)) : Below w.heap.size w w1 :=
  h0.grown h h0.size (fun k hk => by injection hk with hk; omega)
set_option maxHeartbeats 4000000 in
set_option maxRecDepth 20000 in
theorem head_Table (w : World) (v : Value) (l : List UInt8) (h : Arg w v l) (hl : l.length ≤ 140737488351232) :
    Calls Try.prog 9 #[v] w fun e w' => TableIs w' w.heap.size (tableZ l) e ∧ Below w.heap.size w w' := by
  have HA := hide h
  obtain ⟨a, cap, rfl, _⟩ := h.isSlice
  have hK := head_checkKind w _ l h
  have k32 := head_eight w _ l h 32 (by omega)
  have k52 := head_two w _ l h 52 (by omega)
  have k54 := head_two w _ l h 54 (by omega)
  have k56 := head_two w _ l h 56 (by omega)
  have b56 := rd2 l 56
  have b32 := rd8 l 32
  obtain ⟨O, hO⟩ : ∃ O, tableZ l = O := ⟨_, rfl⟩
  rw [hO]
  unfold tableZ fits at hO
  obtain ⟨p, hp⟩ : ∃ p, rd l 32 8 = p := ⟨_, rfl⟩
  obtain ⟨m, hm⟩ : ∃ m, rd l 56 2 = m := ⟨_, rfl⟩
  rw [hp, hm] at hO
  rw [hp] at k32 b32
  rw [hm] at k56 b56
  generalize kindE l = K at *
  generalize rd l 52 2 = q52 at *
  generalize rd l 54 2 = q54 at *
  have hI := num_Inside (p : Int) ((m : Int) * 56) 0 (l.length : Int) w (by omega) (by omega) (by omega) (by omega) (by omega) (by omega)
  have eI : inB (p : Int) ((m : Int) * 56) 0 (l.length : Int) = decide (p + m * 56 ≤ l.length) := by unfold inB; rw [decide_eq_decide]; omega
  rw [eI] at hI
  obtain ⟨n, hn⟩ : ∃ n, l.length = n := ⟨_, rfl⟩
  have HN := hide hn
  rw [hn] at hO hI HA hK k32 k52 k54 k56 hl ⊢
  clear h eI hp hm hn
  have mI : (m : Int) < 65536 := by omega
  by_cases cK : K = 0
  rotate_left
  · rw [if_pos cK] at hO
    subst hO
    have bK : ((K : Int) != 0) = true := by simp; omega
    have HBR := hide (Below.refl w.heap.size w)
    clear cK
    go_enter Try.func9, Try.ntmps9
    go_wp2_with fail
    refine hK.mono ?_
    rintro e w1 ⟨rfl, rfl⟩
    go_wp2
    go_ret2
    exact ⟨rfl, HBR.out⟩
  subst cK
  rw [if_neg (by simp)] at hO
  have HBR := hide (Below.refl w.heap.size w)
  by_cases c52 : q52 = 64
  rotate_left
  · rw [decide_eq_false c52] at hO
    simp only [Bool.false_and, Bool.false_eq_true, if_false] at hO
    subst hO
    have b52 : ((q52 : Int) != 64) = true := by simp; omega
    clear c52
    go_enter Try.func9, Try.ntmps9
    go_wp2_with fail
    refine hK.mono ?_
    rintro e w1 ⟨rfl, rfl⟩
    go_wp2_with fail
    refine k32.mono ?_
    rintro e w1 ⟨rfl, rfl⟩
    go_wp2_with fail
    refine k56.mono ?_
    rintro e w1 ⟨rfl, rfl⟩
    go_wp2_with fail
    refine k52.mono ?_
    rintro e w1 ⟨rfl, rfl⟩
    go_wp2
    go_ret2
    exact ⟨rfl, HBR.out⟩
  subst c52
  by_cases c54 : q54 = 56
  rotate_left
  · rw [decide_eq_false c54] at hO
    simp only [Bool.and_false, Bool.false_and, Bool.false_eq_true, if_false] at hO
    subst hO
    have b54 : ((q54 : Int) != 56) = true := by simp; omega
    clear c54
    go_enter Try.func9, Try.ntmps9
    go_wp2_with fail
    refine hK.mono ?_
    rintro e w1 ⟨rfl, rfl⟩
    go_wp2_with fail
    refine k32.mono ?_
    rintro e w1 ⟨rfl, rfl⟩
    go_wp2_with fail
    refine k56.mono ?_
    rintro e w1 ⟨rfl, rfl⟩
    go_wp2_with fail
    refine k52.mono ?_
    rintro e w1 ⟨rfl, rfl⟩
    go_wp2_with fail
    refine k54.mono ?_
    rintro e w1 ⟨rfl, rfl⟩
    go_wp2
    go_ret2
    exact ⟨rfl, HBR.out⟩
  subst c54
  by_cases c1 : 1 ≤ m
  rotate_left
  · rw [decide_eq_false c1] at hO
    simp only [Bool.and_false, Bool.false_and, Bool.false_eq_true, if_false] at hO
    subst hO
    obtain rfl : m = 0 := by omega
    go_enter Try.func9, Try.ntmps9
    go_wp2_with fail
    refine hK.mono ?_
    rintro e w1 ⟨rfl, rfl⟩
    go_wp2_with fail
    refine k32.mono ?_
    rintro e w1 ⟨rfl, rfl⟩
    go_wp2_with fail
    refine k56.mono ?_
    rintro e w1 ⟨rfl, rfl⟩
    go_wp2_with fail
    refine k52.mono ?_
    rintro e w1 ⟨rfl, rfl⟩
    go_wp2_with fail
    refine k54.mono ?_
    rintro e w1 ⟨rfl, rfl⟩
    go_wp2
    go_ret2
    exact ⟨rfl, HBR.out⟩
  have d1 : decide ((m : Int) < 1) = false := decide_eq_false (by omega)
  have n1 : ¬ m < 1 := by omega
  by_cases c16 : m ≤ 16
  rotate_left
  · rw [decide_eq_false c16] at hO
    simp only [Bool.and_false, Bool.false_and, Bool.false_eq_true, if_false] at hO
    subst hO
    have d16 : (16 : Int) < (m : Int) := by omega
    clear c16
    go_enter Try.func9, Try.ntmps9
    go_wp2_with fail
    refine hK.mono ?_
    rintro e w1 ⟨rfl, rfl⟩
    go_wp2_with fail
    refine k32.mono ?_
    rintro e w1 ⟨rfl, rfl⟩
    go_wp2_with fail
    refine k56.mono ?_
    rintro e w1 ⟨rfl, rfl⟩
    go_wp2_with fail
    refine k52.mono ?_
    rintro e w1 ⟨rfl, rfl⟩
    go_wp2_with fail
    refine k54.mono ?_
    rintro e w1 ⟨rfl, rfl⟩
    go_wp2
    go_ret2
    exact ⟨rfl, HBR.out⟩
  have d16 : decide ((16 : Int) < (m : Int)) = false := decide_eq_false (by omega)
  have m16 : (m : Int) ≤ 16 := by omega
  have m1 : 1 ≤ (m : Int) := by omega
  rw [decide_eq_true c1, decide_eq_true c16] at hO
  simp only [Bool.and_true, Bool.true_and, decide_true] at hO
  by_cases cI : p + m * 56 ≤ n
  rotate_left
  · rw [decide_eq_false cI] at hO hI
    simp only [Bool.false_eq_true, if_false] at hO
    subst hO
    clear cI c1 c16 n1
    go_enter Try.func9, Try.ntmps9
    go_wp2_with fail
    refine hK.mono ?_
    rintro e w1 ⟨rfl, rfl⟩
    go_wp2_with fail
    refine k32.mono ?_
    rintro e w1 ⟨rfl, rfl⟩
    go_wp2_with fail
    refine k56.mono ?_
    rintro e w1 ⟨rfl, rfl⟩
    go_wp2_with fail
    refine k52.mono ?_
    rintro e w1 ⟨rfl, rfl⟩
    go_wp2_with fail
    refine k54.mono ?_
    rintro e w1 ⟨rfl, rfl⟩
    go_wp2_with fail
    refine hI.mono ?_
    rintro e w1 ⟨rfl, rfl⟩
    go_wp2
    go_ret2
    exact ⟨rfl, HBR.out⟩
  rw [decide_eq_true cI] at hO hI
  rw [if_pos rfl] at hO
  have pI : (p : Int) + (m : Int) * 56 ≤ (n : Int) := by omega
  have nI : (n : Int) ≤ 140737488351232 := by omega
  have HO := hide hO
  clear hO c1 n1
  go_enter Try.func9, Try.ntmps9
  go_wp2_with fail
  refine hK.mono ?_
  rintro e w1 ⟨rfl, rfl⟩
  go_wp2_with fail
  refine k32.mono ?_
  rintro e w1 ⟨rfl, rfl⟩
  go_wp2_with fail
  refine k56.mono ?_
  rintro e w1 ⟨rfl, rfl⟩
  go_wp2_with fail
  refine k52.mono ?_
  rintro e w1 ⟨rfl, rfl⟩
  go_wp2_with fail
  refine k54.mono ?_
  rintro e w1 ⟨rfl, rfl⟩
  go_wp2_with fail
  refine hI.mono ?_
  rintro e w1 ⟨rfl, rfl⟩
  go_wp2_with (refine make_phs rfl _ _ rfl m (by omega) rfl rfl ?_)
  intro w1 hg1 hb1
  have HG1 := hide hg1
  have HB1 := hide hb1
  clear hg1 hb1 hK k32 k52 k54 k56 hI
  go_wp2
  go_loopw [8, 47] (fun _ vi wr => ∃ i : Nat, i ≤ m ∧ vi = .int .i64 i ∧ Hid (Below w.heap.size w wr) ∧ Hid (wr.heap[w.heap.size]? = some (.cells (flatH (tabFrom l p i ++ List.replicate (m - i) noPh)).toArray 32 (0, 0)))) (fun _ vi _ => m - (intOf vi).toNat)
  case atStart => exact ⟨0, by omega, rfl, HB1, HG1⟩
  case round =>
    obtain ⟨i, hi, rfl, HW, HG⟩ := hrel
    by_cases hlt : i < m
    · have hltI : (i : Int) < (m : Int) := by omega
      have hlen : (tabFrom l p i ++ List.replicate (m - i) noPh).length = m := by simp [tabFrom]; omega
      have h1 := head_one wr _ l (HA.out.below' HW.out) (p + i * 56) (by omega)
      have e1 : ((p + i * 56 : Nat) : Int) = (p : Int) + (i : Int) * 56 := by omega
      rw [e1] at h1
      have HX := hide (tab_next l p m i hlt)
      generalize phAt l (p + i * 56) = ph at *
      have HL := hide hlen
      clear e1 hlen
      go_wp2_with fail
      refine h1.mono ?_
      rintro e w2 ⟨rfl, hb2⟩
      have HW2 : Hid (Below w.heap.size w w2) := HW.out.trans (hb2.mono HW.out.size)
      have HG2 : Hid (w2.heap[w.heap.size]? = some (.cells (flatH (tabFrom l p i ++ List.replicate (m - i) noPh)).toArray 32 (0, 0))) := by
        rw [Hid, hb2.block _ (Array.getElem?_eq_some_iff.1 HG.out).1]; exact HG.out
      clear hb2 h1 HG HW
      go_wp2_with (refine store_ph rfl _ _ rfl w.heap.size i _ ph HG2.out (by rw [HL.out]; exact hlt) rfl rfl ?_)
      intro w3 hg3 hb3
      rw [HX.out] at hg3
      have HG3 := hide hg3
      have HW3 := hide (grown_below (Nat.le_refl _) HW2.out hb3)
      clear hg3 hb3
      go_wp2
      go_roundw
      case rel => exact ⟨i + 1, by omega, by go_num, HW3, HG3⟩
      case measure => simp [intOf]; omega
    · have hltI : ¬ (i : Int) < (m : Int) := by omega
      have he : i = m := by omega
      subst he
      have hg := HG.out
      rw [Nat.sub_self, List.replicate_zero, List.append_nil] at hg
      have ho := OwnH.of_block hg (Nat.le_refl _) (by simp [tabFrom]; omega)
      rw [show (tabFrom l p i).length = i by simp [tabFrom]] at ho
      have HOW := hide ho
      clear hg ho HG
      go_wp2
      go_ret2
      exact ⟨by rw [← HO.out]; exact ⟨_, rfl, HOW.out⟩, HW.out⟩
end Go.Proofs.Ytgpjfcnlhlkblaa
