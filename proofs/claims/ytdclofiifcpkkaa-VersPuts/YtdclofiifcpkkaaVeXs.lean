
/-
  VeX VeXb VeXc VeXd VeXe
-/
import Derived.Test.YtdclofiifcpkkaaVeTwo
import Derived.Test.YtdclofiifcpkkaaSyOne
import Derived.Lib.QuietBelow
import Derived.Deep.CutRange
import Derived.Test.YtdclofiifcpkkaaVeSup
import Derived.BigQuiet
set_option linter.unusedVariables false
namespace Go.Proofs.Ytdclofiifcpkkaa
open Go.RowKit Go.PlainAid Go.Sort
theorem u16_and (n k : Nat) (hn : n < 65536) (hk : k < 65536) : bits .and .u16 (n : Int) (k : Int) = ((n &&& k : Nat) : Int) := by
  show IntKind.u16.wrap ((BitVec.ofInt 16 (n : Int) &&& BitVec.ofInt 16 (k : Int)).toNat : Int) = _
  have h1 : (BitVec.ofInt 16 (n : Int)).toNat = n := by rw [BitVec.ofInt_natCast, BitVec.toNat_ofNat]; exact Nat.mod_eq_of_lt (by omega)
  have h2 : (BitVec.ofInt 16 (k : Int)).toNat = k := by rw [BitVec.ofInt_natCast, BitVec.toNat_ofNat]; exact Nat.mod_eq_of_lt (by omega)
  have h3 : n &&& k ≤ n := Nat.and_le_left
  rw [BitVec.toNat_and, h1, h2]
  rw [IntKind.wrap_u16]
  omega
theorem low15 (n : Nat) (hn : n < 65536) : bits .and .u16 (n : Int) 32767 = ((n % 32768 : Nat) : Int) := by
  have := u16_and n 32767 hn (by decide)
  rw [show (32767 : Nat) = 2 ^ 15 - 1 by decide, Nat.and_two_pow_sub_one_eq_mod] at this
  exact this
theorem top1 (n : Nat) (hn : n < 65536) : (bits .and .u16 (n : Int) 32768 != 0) = decide (32768 ≤ n) := by
  have h := u16_and n 32768 hn (by decide)
  have e : bits .and .u16 (n : Int) 32768 = ((n / 32768 * 32768 : Nat) : Int) := by
    refine Eq.trans h ?_
    congr 1
    apply Nat.eq_of_testBit_eq
    intro j
    rw [show (32768 : Nat) = 2 ^ 15 by decide, Nat.testBit_and, Nat.testBit_two_pow, Nat.testBit_mul_two_pow, Nat.testBit_div_two_pow]
    by_cases h1 : 15 ≤ j
    · by_cases h2 : 15 = j
      · subst h2; simp
      · have : n.testBit j = false := Nat.testBit_lt_two_pow (Nat.lt_of_lt_of_le (show n < 2 ^ 16 by omega) (Nat.pow_le_pow_right (by decide) (by omega)))
        rw [show j - 15 + 15 = j by omega, this]; simp
    · simp [h1]; omega
  rw [e]
  by_cases c : 32768 ≤ n
  · rw [decide_eq_true c]; simp; omega
  · rw [decide_eq_false c]; simp; omega
theorem at_loadT {T : TypeId} {ops : Array Oper} {rest : List Oper} {a : Act} {Q : Exit → Act → World → Prop} {w : World} {ty : TypeId} {x : Operand} {d : Option Tmp} {ps : String} {af : Array Edge}
    (h : wpList Try.prog ops Q ({ dst := d, op := .load T x, type := ty, pos := ps, after := af, guard := none } :: rest) a w) : wpList Try.prog ops Q ({ dst := d, op := .load T x, type := ty, pos := ps, after := af, guard := none } :: rest) a w := h
theorem at_buildY {T : TypeId} {ops : Array Oper} {rest : List Oper} {a : Act} {Q : Exit → Act → World → Prop} {w : World} {ty : TypeId} {x : Array (Nat × Operand)} {d : Option Tmp} {ps : String} {af : Array Edge}
    (h : wpList Try.prog ops Q ({ dst := d, op := .build T x, type := ty, pos := ps, after := af, guard := none } :: rest) a w) : wpList Try.prog ops Q ({ dst := d, op := .build T x, type := ty, pos := ps, after := af, guard := none } :: rest) a w := h
/-- A value is stored into a known row. -/
theorem store_v {ops : Array Oper} {rest : List Oper} {o : Oper} {a : Act} {Q : Exit → Act → World → Prop} {w : World} (hgd : o.guard = none) (T : TypeId) (x y : Operand) (ho : o.op = .store T x y)
    (g k : Nat) (U : TypeId) (cur : Array Value) (v : Value) (cs : List Value) (new : Array Value) (hg : w.heap[g]? = some (.cells cur U (0, 0))) (hx : a.eval x = .pointer (some ⟨g, k, none⟩)) (hy : a.eval y = v) (hcs : v.cells = cs.toArray)
    (hsz : ∀ w, (Go.sizeOf T).run Try.prog w = .ok cs.length w) (hone : ∀ v ∈ cs, v.oneCell' = true) (hfit : k + cs.length ≤ cur.size) (hnew : (cur.toList.take k ++ cs ++ cur.toList.drop (k + cs.length)).toArray = new)
    (h : ∀ w', w'.heap[g]? = some (.cells new U (0, 0)) → w.grownBy w' (some g) → wpList Try.prog ops Q rest (a.put o.dst undef) w') : wpList Try.prog ops Q (o :: rest) a w := by
  subst hnew
  have hst := run_storeCells_at Try.prog g k U cs 0 cur w hg (by simpa using hfit) hone
  have hr : (Instr.storeAt T (.pointer (some ⟨g, k, none⟩)) v).run Try.prog w = .ok () (w.setRow g (cur.toList.take k ++ cs ++ cur.toList.drop (k + cs.length)).toArray) := by
    simp only [Nat.add_zero] at hst
    simp only [Instr.storeAt, Instr.sureAddr, Sem.run_bind, Sem.run_pure, Result.andThen_ok, storeVar, hsz, hcs, List.size_toArray]
    simpa using hst
  refine wpList_plain hgd fun _ hK => ?_
  unfold Oper.wp execOp
  simp only [ho, hx, hy, Sem.run_bind, Sem.run_pure, Result.andThen_ok, hr]
  exact hK _ _ (h _ (setRow_heap w g _ _ _ _ hg) ⟨rfl, rfl, rfl, by simp, fun k _ hk => setRow_other w g k _ (fun e => hk (by rw [e]))⟩)
theorem sy_size : ∀ w, (Go.sizeOf 48).run Try.prog w = .ok 7 w := Try.sizeOf48
theorem int_sizeY : ∀ w, (Go.sizeOf 3).run Try.prog w = .ok 1 w := Try.sizeOf3
theorem bool_sizeY : ∀ w, (Go.sizeOf 4).run Try.prog w = .ok 1 w := Try.sizeOf4
theorem str_sizeY : ∀ w, (Go.sizeOf 9).run Try.prog w = .ok 1 w := Try.sizeOf9
theorem load_sy {w : World} {g : Nat} {cs : Array Value} (h : w.heap[g]? = some (.cells cs 48 (0, 0))) (hs : cs.size = 7) : (loadVar 48 ⟨g, 0, none⟩).run Try.prog w = .ok (.agg cs) w :=
  run_loadVar_row w g 48 48 cs (0, 0) _ h Try.underlying48 rfl (by rw [hs]; kernel_rfl)
def syC (s : Sy) : Array Value := s.cells.toArray
theorem syC_size (s : Sy) : (syC s).size = 7 := rfl
set_option maxHeartbeats 1000000 in
theorem ve_isOwn (w : World) (s : Vv) : Calls Try.prog 50 #[.agg (s.cells .u16).toArray] w fun e w' => e = .returned (.bool s.frm.isEmpty) ∧ Below w.heap.size w w' := by
  have HB : Hid (Below w.heap.size w (w.alloc (.cells (s.cells .u16).toArray 114))) := (Below.refl _ w).alloc (Nat.le_refl _) _
  obtain ⟨nu, nm, fr⟩ := s
  unfold Vv.cells txb at *
  cases fr with
  | nil =>
    go_enter Try.func50, Try.ntmps50
    go_wp2
    go_ret
    exact ⟨rfl, HB.out⟩
  | cons x y =>
    have hxb : ((x :: y) == []) = false := rfl
    have hxe : (x :: y).isEmpty = false := rfl
    rw [hxe]
    generalize (x :: y) = t at *
    go_enter Try.func50, Try.ntmps50
    go_wp2
    go_ret
    exact ⟨rfl, HB.out⟩
set_option maxHeartbeats 2000000 in
theorem ve_with1 (w : World) (s : Vv) (O P n : Nat) (d : Bool) (hO : w.cell? ⟨O, 0, none⟩ = some (.int .u16 (n : Nat))) (hP : w.cell? ⟨P, 4, none⟩ = some (.bool d)) :
    Calls Try.prog 49 #[.agg (s.cells .u16).toArray, .pointer (some ⟨O, 0, none⟩), .pointer (some ⟨P, 0, none⟩)] w fun e w' => e = .returned (.bool (meant n d s)) ∧ Below w.heap.size w w' := by
  obtain ⟨m, sn, fr⟩ := s
  have HB : Hid (Below w.heap.size w (w.alloc (.cells (Vv.cells .u16 ⟨m, sn, fr⟩).toArray 114))) := (Below.refl _ w).alloc (Nat.le_refl _) _
  have hOl := World.block_lt_of_cell? _ _ hO
  have hPl := World.block_lt_of_cell? _ _ hP
  have HO : Hid ((w.alloc (.cells (Vv.cells .u16 ⟨m, sn, fr⟩).toArray 114)).cell? ⟨O, 0, none⟩ = some (.int .u16 (n : Nat))) := by rw [Hid, HB.out.cell (p := ⟨O, 0, none⟩) hOl]; exact hO
  have HP : Hid ((w.alloc (.cells (Vv.cells .u16 ⟨m, sn, fr⟩).toArray 114)).cell? ⟨P, 4, none⟩ = some (.bool d)) := by rw [Hid, HB.out.cell (p := ⟨P, 4, none⟩) hPl]; exact hP
  have H0 : Hid ((w.alloc (.cells (Vv.cells .u16 ⟨m, sn, fr⟩).toArray 114)).cell? ⟨w.heap.size, 0, none⟩ = some (.int .u16 m)) := by rw [Hid, World.cell?_alloc_at _ _ _ _ (by simp)]; rfl
  have H1 : Hid ((w.alloc (.cells (Vv.cells .u16 ⟨m, sn, fr⟩).toArray 114)).cell? ⟨w.heap.size, 1, none⟩ = some (.string (txb sn))) := by rw [Hid, World.cell?_alloc_at _ _ _ _ (by simp)]; rfl
  have H2 : Hid ((w.alloc (.cells (Vv.cells .u16 ⟨m, sn, fr⟩).toArray 114)).cell? ⟨w.heap.size, 2, none⟩ = some (.string (txb fr))) := by rw [Hid, World.cell?_alloc_at _ _ _ _ (by simp)]; rfl
  have HC := hide (fun W => ve_isOwn W ⟨m, sn, fr⟩)
  unfold meant
  unfold Vv.cells at *
  simp only at HC ⊢
  obtain ⟨q, hq⟩ : ∃ q, fr.isEmpty = q := ⟨_, rfl⟩
  rw [hq] at HC ⊢
  clear hO hP hOl hPl hq
  have hcs : (m = n) ∨ (m ≠ n) := Classical.em _
  rcases hcs with rfl | hne
  · have hdd : decide (m = m) = true := decide_eq_true rfl
    rw [hdd]
    clear hdd
    have e1 : ((m : Int) == (m : Int)) = true := by simp
    go_enter Try.func49, Try.ntmps49
    go_wp2_with fail
    try simp only [List.append_eq, List.cons_append, List.nil_append]
    refine wp_region_quiet_below (by kernel_rfl) (by kernel_rfl) ?_
    have x0 := cell_regrown H0.out
    have x1 := cell_regrown H1.out
    have x2 := cell_regrown H2.out
    have x3 := cell_regrown HO.out
    have x4 := cell_regrown HP.out
    repeat (go_big_quiet_step (exact Calls.regrown_of (HC.out _)))
    refine wpQuiet_nil ?_
    intro _ hwq
    obtain ⟨⟨dq, osq⟩, hwq2⟩ := hwq
    subst hwq2
    have HB2 := hide (HB.out.trans ((below_regrown _ dq osq).mono HB.out.size))
    clear x0 x1 x2 x3 x4 H0 H1 H2 HO HP HC
    generalize grow _ _ = w2 at *
    go_wp2
    go_ret
    exact ⟨by cases q <;> cases d <;> rfl, HB2.out⟩
  · have hdd : decide (m = n) = false := decide_eq_false hne
    rw [hdd]
    clear hdd
    have e1 : ((m : Int) == (n : Int)) = false := by rw [beq_eq_false_iff_ne]; omega
    go_enter Try.func49, Try.ntmps49
    go_wp2_with fail
    try simp only [List.append_eq, List.cons_append, List.nil_append]
    refine wp_region_quiet_below (by kernel_rfl) (by kernel_rfl) ?_
    have x0 := cell_regrown H0.out
    have x1 := cell_regrown H1.out
    have x2 := cell_regrown H2.out
    have x3 := cell_regrown HO.out
    have x4 := cell_regrown HP.out
    repeat (go_big_quiet_step (exact Calls.regrown_of (HC.out _)))
    refine wpQuiet_nil ?_
    intro _ hwq
    obtain ⟨⟨dq, osq⟩, hwq2⟩ := hwq
    subst hwq2
    have HB2 := hide (HB.out.trans ((below_regrown _ dq osq).mono HB.out.size))
    clear x0 x1 x2 x3 x4 H0 H1 H2 HO HP HC
    generalize grow _ _ = w2 at *
    go_wp2
    go_ret
    exact ⟨rfl, HB2.out⟩
end Go.Proofs.Ytdclofiifcpkkaa
namespace Go.Proofs.Ytdclofiifcpkkaa
open Go.RowKit Go.PlainAid Go.Sort
theorem ix_find (p : Vv → Bool) (zs : List Vv) : (ixV p zs = -1 ∧ zs.find? p = none) ∨ ∃ i : Nat, ∃ h : i < zs.length, ixV p zs = (i : Int) ∧ zs.find? p = some zs[i] := by
  cases h : zs.findIdx? p with
  | none =>
    left
    refine ⟨by unfold ixV; rw [h], ?_⟩
    rw [List.findIdx?_eq_none_iff] at h
    rw [List.find?_eq_none]
    intro x hx
    rw [h x hx]; simp
  | some i =>
    right
    have e : ixV p zs = (i : Int) := by unfold ixV; rw [h]
    obtain ⟨h1, h2, h3⟩ := List.findIdx?_eq_some_iff_getElem.1 h
    exact ⟨i, h1, e, List.find?_eq_some_iff_getElem.2 ⟨h2, i, h1, rfl, fun j hj => by have := h3 j hj; simpa using this⟩⟩
def wvR : Option Sy → Value
  | none => .tuple #[.agg noSy.cells.toArray, .bool false]
  | some t => .tuple #[.agg t.cells.toArray, .bool true]
theorem wv_eg : ∀ args w, (callFunc 49 args).run Try.prog w = .ok (.enter 49 args) w := fun args w => by kernel_rfl
theorem build_y0 (w : World) : (Instr.build 48 #[]).run Try.prog w = .ok (.agg noSy.cells.toArray) w := by kernel_rfl
theorem alloc_y0 (w : World) : (Instr.alloc 48 true (.tuple #[])).run Try.prog w = .ok (.pointer (some ⟨w.heap.size, 0, none⟩)) (w.alloc (.cells noSy.cells.toArray 48)) := by kernel_rfl
/-- What withVersion holds: the symbol, the answer's place, the number. -/
structure Wv (w wx : World) (s r : Sy) (m : Nat) : Prop where
  b : Below w.heap.size w wx
  s : wx.heap[w.heap.size]? = some (.cells s.cells.toArray 48 (0, 0))
  r : wx.heap[w.heap.size + 1]? = some (.cells r.cells.toArray 48 (0, 0))
  m : wx.heap[w.heap.size + 2]? = some (.cells #[.int .u16 (m : Nat)] 23 (0, 0))
theorem Wv.size {w wx : World} {s r : Sy} {m : Nat} (h : Wv w wx s r m) : w.heap.size + 2 < wx.heap.size := (Array.getElem?_eq_some_iff.1 h.m).1
theorem Wv.stay {w wx wy : World} {s r : Sy} {m : Nat} (h : Wv w wx s r m) (hb : Below wx.heap.size wx wy) : Wv w wy s r m :=
  ⟨h.b.trans (hb.mono h.b.size), block_stay h.s hb, block_stay h.r hb, block_stay h.m hb⟩
theorem Wv.begin (w : World) (s : Sy) (m : Nat) : Wv w (((w.alloc (.cells s.cells.toArray 48)).alloc (.cells noSy.cells.toArray 48)).alloc (.cells #[.int .u16 (m : Nat)] 23)) s noSy m := by
  have e1 : (w.alloc (.cells s.cells.toArray 48)).heap.size = w.heap.size + 1 := by simp
  have e2 : ((w.alloc (.cells s.cells.toArray 48)).alloc (.cells noSy.cells.toArray 48)).heap.size = w.heap.size + 2 := by simp
  refine ⟨(((Below.refl _ w).alloc (Nat.le_refl _) _).alloc (by simp) _).alloc (by rw [e2]; omega) _, ?_, ?_, ?_⟩
  · rw [heap_alloc_old _ _ (by rw [e2]; omega), heap_alloc_old _ _ (by simp)]; exact heap_alloc_new _ _
  · rw [heap_alloc_old _ _ (by simp), ← e1]; exact heap_alloc_new _ _
  · rw [← e2]; exact heap_alloc_new _ _
/-- The symbol is turned. -/
theorem Wv.setS {w wx wy : World} {s r t : Sy} {m : Nat} (h : Wv w wx s r m) (hg : wy.heap[w.heap.size]? = some (.cells t.cells.toArray 48 (0, 0))) (hb : wx.grownBy wy (some w.heap.size)) : Wv w wy t r m :=
  ⟨grown_below (Nat.le_refl _) h.b hb, hg, (hb.block _ (Array.getElem?_eq_some_iff.1 h.r).1 (by intro e; injection e with e; omega)).trans h.r, (hb.block _ (Array.getElem?_eq_some_iff.1 h.m).1 (by intro e; injection e with e; omega)).trans h.m⟩
/-- The answer is laid. -/
theorem Wv.setR {w wx wy : World} {s r t : Sy} {m : Nat} (h : Wv w wx s r m) (hg : wy.heap[w.heap.size + 1]? = some (.cells t.cells.toArray 48 (0, 0))) (hb : wx.grownBy wy (some (w.heap.size + 1))) : Wv w wy s t m :=
  ⟨grown_below (by omega) h.b hb, (hb.block _ (Array.getElem?_eq_some_iff.1 h.s).1 (by intro e; injection e with e; omega)).trans h.s, hg, (hb.block _ (Array.getElem?_eq_some_iff.1 h.m).1 (by intro e; injection e with e; omega)).trans h.m⟩
theorem mid_of3 (w : World) (A B C : Obj) : (((w.alloc A).alloc B).alloc C).heap[w.heap.size + 1]? = some B := by
  have e1 : (w.alloc A).heap.size = w.heap.size + 1 := by simp
  rw [heap_alloc_old _ _ (by simp), ← e1]; exact heap_alloc_new _ _
theorem below3 (w : World) (A B C : Obj) : Below w.heap.size w (((w.alloc A).alloc B).alloc C) := (((Below.refl _ w).alloc (Nat.le_refl _) _).alloc (by simp) _).alloc (by simp; omega) _
set_option maxHeartbeats 4000000 in
set_option maxRecDepth 20000 in
theorem ve_withV (w : World) (s : Sy) (n : Nat) (hn : n < 65536) (v : Value) (vs : List Vv) (hz : ArgV .u16 w v vs) :
    Calls Try.prog 17 #[.agg s.cells.toArray, .int .u16 (n : Nat), v] w fun e w' => e = .returned (wvR (withV vs s n)) ∧ Below w.heap.size w w' := by
  have hlow := low15 n hn
  have htop := top1 n hn
  obtain ⟨nm, vr, hd, bd, df, vl, sz⟩ := s
  obtain ⟨m, hm⟩ : ∃ m, n % 32768 = m := ⟨_, rfl⟩
  rw [hm] at hlow
  have HW : Hid (withV vs ⟨nm, vr, hd, bd, df, vl, sz⟩ n = if m = 0 then some ⟨nm, vr, hd, if df then 0 else bd, df, vl, sz⟩ else if m = 1 then some ⟨nm, [], hd || (decide (32768 ≤ n) && df), bd, df, vl, sz⟩ else match vs.find? (meant m df) with | none => none | some v => some ⟨nm, v.name, hd || (decide (32768 ≤ n) && df), bd, df, vl, sz⟩) := by rw [Hid, withV, hm]; rfl
  generalize decide (32768 ≤ n) = tb at *
  generalize withV vs ⟨nm, vr, hd, bd, df, vl, sz⟩ n = O at *
  have HV := Wv.begin w ⟨nm, vr, hd, bd, df, vl, sz⟩ m
  have HZ := hide hz
  obtain ⟨va, vn, vc, rfl⟩ : ∃ a n c, v = .slice a n c := by obtain ⟨a, c, e⟩ := hz.form; exact ⟨_, _, _, e⟩
  clear hz hm hn
  simp only [Sy.cells, noSy] at *
  by_cases h0 : m = 0
  · subst h0
    cases df with
    | true =>
      have HX : Hid (O = some ⟨nm, vr, hd, 0, true, vl, sz⟩) := HW.out
      clear HW HV
      go_enter Try.func17, Try.ntmps17
      go_wp2
      refine bodyPost_ret (results_cell2 rfl _ _ (w.heap.size + 1) _ _ _ _ rfl (mid_of3 _ _ _ _) Try.underlying48 rfl (by kernel_rfl)) rfl ?_
      exact ⟨by rw [HX.out]; rfl, below3 _ _ _ _⟩
    | false =>
      have HX : Hid (O = some ⟨nm, vr, hd, bd, false, vl, sz⟩) := HW.out
      clear HW HV
      go_enter Try.func17, Try.ntmps17
      go_wp2
      refine bodyPost_ret (results_cell2 rfl _ _ (w.heap.size + 1) _ _ _ _ rfl (mid_of3 _ _ _ _) Try.underlying48 rfl (by kernel_rfl)) rfl ?_
      exact ⟨by rw [HX.out]; rfl, below3 _ _ _ _⟩
  · have HX : Hid (O = if m = 1 then some ⟨nm, [], hd || (tb && df), bd, df, vl, sz⟩ else match vs.find? (meant m df) with | none => none | some v => some ⟨nm, v.name, hd || (tb && df), bd, df, vl, sz⟩) := by rw [Hid, HW.out, if_neg h0]
    have hm0 : ((m : Int) == 0) = false := by rw [beq_eq_false_iff_ne]; omega
    have HV := hide HV
    clear HW h0
    go_enter Try.func17, Try.ntmps17
    go_upto_region 6 with fail
    go_cut [24] from 10 (fun v24 wx => v24 = .bool (tb && df) ∧ Hid (Wv w wx ⟨nm, vr, hd, bd, df, vl, sz⟩ ⟨[], [], false, 0, false, 0, 0⟩ m))
    case first =>
      cases tb with
      | false =>
        go_wp2
        go_meet
        case rel => exact ⟨rfl, HV⟩
      | true =>
        go_wp2
        go_meet
        case rel => exact ⟨rfl, HV⟩
    case rest =>
    obtain ⟨rfl, HV1⟩ := hcut
    clear HV
    have HV := HV1
    clear HV1 hlow htop hm0
    go_upto_if 24 with fail
    go_cut [] from 10 (fun wx => Hid (Wv w wx ⟨nm, vr, hd || (tb && df), bd, df, vl, sz⟩ ⟨[], [], false, 0, false, 0, 0⟩ m))
    case first =>
      cases hc : (tb && df) with
      | true =>
        obtain ⟨rfl, rfl⟩ : tb = true ∧ df = true := by simpa using hc
        go_wp2_with (first
          | ((with_reducible refine at_storeT (T := 4) ?_); refine store_v rfl _ _ _ rfl w.heap.size 2 48 _ (.bool true) [.bool true] #[.string ⟨nm.toArray⟩, .string ⟨vr.toArray⟩, .bool true, .int .i64 bd, .bool true, .int .u64 vl, .int .u64 sz] HV.out.s rfl rfl rfl bool_sizeY (by intro u hu; rw [List.mem_singleton.1 hu]; rfl) (Nat.le_of_ble_eq_true rfl) (by rfl) ?_))
        intro w4 hg4 hb4
        have H4 := hide (HV.out.setS (t := ⟨nm, vr, true, bd, true, vl, sz⟩) hg4 hb4)
        clear HV hg4 hb4
        go_wp2
        go_meet
        case rel => simpa using H4
      | false =>
        go_wp2
        go_meet
        case rel => rw [hc, Bool.or_false]; exact HV
    case rest =>
      have HV := hcut
      clear hcut
      generalize (hd || (tb && df)) = hx at *
      have c0 := cells_of_block HV.out.m 0 (.int .u16 (m : Nat)) rfl
      by_cases h1 : m = 1
      · have HR : Hid (O = some ⟨nm, [], hx, bd, df, vl, sz⟩) := by rw [Hid, HX.out, if_pos h1]
        have hm1 : ((m : Int) == 1) = true := by simp [h1]
        clear HX h1
        go_wp2_with (first
          | ((with_reducible refine at_storeT (T := 9) ?_); refine store_v rfl _ _ _ rfl w.heap.size 1 48 _ (.string ⟨#[]⟩) [.string ⟨#[]⟩] #[.string ⟨nm.toArray⟩, .string ⟨#[]⟩, .bool hx, .int .i64 bd, .bool df, .int .u64 vl, .int .u64 sz] HV.out.s rfl rfl rfl str_sizeY (by intro u hu; rw [List.mem_singleton.1 hu]; rfl) (Nat.le_of_ble_eq_true rfl) (by rfl) ?_))
        intro w4 hg4 hb4
        have H4 := hide (HV.out.setS (t := ⟨nm, [], hx, bd, df, vl, sz⟩) hg4 hb4)
        clear HV hg4 hb4 c0
        go_wp2_with (first
          | ((with_reducible refine at_loadT (T := 48) ?_); refine load_row rfl _ _ rfl w.heap.size #[.string ⟨nm.toArray⟩, .string ⟨#[]⟩, .bool hx, .int .i64 bd, .bool df, .int .u64 vl, .int .u64 sz] (load_sy H4.out.s rfl) rfl ?_)
          | ((with_reducible refine at_storeT (T := 48) ?_); refine store_part rfl _ _ _ rfl (w.heap.size + 1) 0 48 _ (Sy.cells ⟨nm, [], hx, bd, df, vl, sz⟩) (Sy.cells ⟨nm, [], hx, bd, df, vl, sz⟩).toArray H4.out.r rfl rfl sy_size (Sy.one _) (Nat.le_of_ble_eq_true rfl) (by rfl) ?_))
        intro w5 hg5 hb5
        have H5 := hide (H4.out.setR (t := ⟨nm, [], hx, bd, df, vl, sz⟩) hg5 hb5)
        clear H4 hg5 hb5
        go_wp2
        refine bodyPost_ret (results_cell2 rfl _ _ (w.heap.size + 1) _ _ _ _ rfl H5.out.r Try.underlying48 rfl (by kernel_rfl)) rfl ?_
        exact ⟨by rw [HR.out]; rfl, H5.out.b⟩
      · have HR : Hid (O = match vs.find? (meant m df) with | none => none | some v => some ⟨nm, v.name, hx, bd, df, vl, sz⟩) := by rw [Hid, HX.out, if_neg h1]
        have hm1 : ((m : Int) == 1) = false := by rw [beq_eq_false_iff_ne]; omega
        have c4 := cells_of_block HV.out.s 4 (.bool df) rfl
        have hZ1 := HZ.out.below HV.out.b
        have hI := lib_IndexV wc 49 #[.pointer (some ⟨w.heap.size + 2, 0, none⟩), .pointer (some ⟨w.heap.size, 0, none⟩)] (meant m df) wv_eg (.slice va vn vc) vs hZ1
          (fun X s _ hX => (ve_with1 X s (w.heap.size + 2) w.heap.size m df ((hX.cell (p := ⟨w.heap.size + 2, 0, none⟩) (World.block_lt_of_cell? _ _ c0)).trans c0) ((hX.cell (p := ⟨w.heap.size, 4, none⟩) (World.block_lt_of_cell? _ _ c4)).trans c4)).mono (fun e w' hh => ⟨hh.1, hX.trans (hh.2.mono hX.size)⟩))
        have hF := ix_find (meant m df) vs
        have HZ1 := hide hZ1
        have HVW := HV
        generalize ixV (meant m df) vs = ix at *
        generalize vs.find? (meant m df) = fo at *
        have HFF := hide hF
        clear HX h1 hZ1 c4 hF HVW
        go_wp2_with fail
        refine hI.mono ?_
        rintro e w6 ⟨rfl, hb6⟩
        have H6 := hide (HV.out.stay hb6)
        have HZ6 := hide (HZ1.out.below hb6)
        clear hI hb6 HV HZ1 c0 HZ
        rcases HFF.out with ⟨rfl, rfl⟩ | ⟨i, hi, rfl, rfl⟩
        · have HRR : Hid (O = none) := HR.out
          clear HR HFF
          go_wp2_with (first
            | ((with_reducible refine at_buildY (T := 48) ?_); refine build_eq rfl _ _ rfl (.agg noSy.cells.toArray) ?hr ?_; (simp only [List.map_toArray, List.map_nil]; exact build_y0 _))
            | ((with_reducible refine at_storeT (T := 48) ?_); refine store_part rfl _ _ _ rfl (w.heap.size + 1) 0 48 _ noSy.cells noSy.cells.toArray H6.out.r rfl rfl sy_size (Sy.one _) (Nat.le_of_ble_eq_true rfl) (by rfl) ?_))
          intro w7 hg7 hb7
          have H7 := hide (H6.out.setR (t := noSy) hg7 hb7)
          clear H6 hg7 hb7
          go_wp2
          refine bodyPost_ret (results_cell2 rfl _ _ (w.heap.size + 1) _ _ _ _ rfl H7.out.r Try.underlying48 rfl (by kernel_rfl)) rfl ?_
          exact ⟨by rw [HRR.out]; rfl, H7.out.b⟩
        · have HRR : Hid (O = some ⟨nm, vs[i].name, hx, bd, df, vl, sz⟩) := HR.out
          obtain ⟨g, rfl, p1, p2, _, y0, y1, y2⟩ := HZ6.out.at i hi
          obtain ⟨y, hy⟩ : ∃ y, vs[i].name = y := ⟨_, rfl⟩
          have hvn : vs.length = vn := by
            obtain ⟨a', c', e⟩ := HZ6.out.form
            injection e with _ e _; exact e.symm
          rw [hvn] at hi p1
          have hiI : (i : Int) < (vn : Int) := by omega
          have hi0 : ¬ (i : Int) < 0 := by omega
          rw [hy] at y1 HRR
          unfold txb at y1
          clear HR HFF y0 y2 hy hvn
          go_wp2_with (first
            | ((with_reducible refine at_storeT (T := 9) ?_); refine store_v rfl _ _ _ rfl w.heap.size 1 48 _ (.string ⟨y.toArray⟩) [.string ⟨y.toArray⟩] #[.string ⟨nm.toArray⟩, .string ⟨y.toArray⟩, .bool hx, .int .i64 bd, .bool df, .int .u64 vl, .int .u64 sz] H6.out.s rfl rfl rfl str_sizeY (by intro u hu; rw [List.mem_singleton.1 hu]; rfl) (Nat.le_of_ble_eq_true rfl) (by rfl) ?_))
          intro w7 hg7 hb7
          have H7 := hide (H6.out.setS (t := ⟨nm, y, hx, bd, df, vl, sz⟩) hg7 hb7)
          clear H6 hg7 hb7 y1 HZ6
          go_wp2_with (first
            | ((with_reducible refine at_loadT (T := 48) ?_); refine load_row rfl _ _ rfl w.heap.size #[.string ⟨nm.toArray⟩, .string ⟨y.toArray⟩, .bool hx, .int .i64 bd, .bool df, .int .u64 vl, .int .u64 sz] (load_sy H7.out.s rfl) rfl ?_)
            | ((with_reducible refine at_storeT (T := 48) ?_); refine store_part rfl _ _ _ rfl (w.heap.size + 1) 0 48 _ (Sy.cells ⟨nm, y, hx, bd, df, vl, sz⟩) (Sy.cells ⟨nm, y, hx, bd, df, vl, sz⟩).toArray H7.out.r rfl rfl sy_size (Sy.one _) (Nat.le_of_ble_eq_true rfl) (by rfl) ?_))
          intro w8 hg8 hb8
          have H8 := hide (H7.out.setR (t := ⟨nm, y, hx, bd, df, vl, sz⟩) hg8 hb8)
          clear H7 hg8 hb8
          go_wp2
          refine bodyPost_ret (results_cell2 rfl _ _ (w.heap.size + 1) _ _ _ _ rfl H8.out.r Try.underlying48 rfl (by kernel_rfl)) rfl ?_
          exact ⟨by rw [HRR.out]; rfl, H8.out.b⟩
end Go.Proofs.Ytdclofiifcpkkaa
namespace Go.Proofs.Ytdclofiifcpkkaa
open Go.RowKit Go.PlainAid Go.Sort
/-- What Put answers. -/
def PutIs (w w' : World) (B : Nat) : Option (List Sy) → Ending → Prop
  | none, e => e = .returned (.tuple #[.slice none 0 0, .int .i64 110])
  | some D, e => ∃ v', e = .returned (.tuple #[v', .int .i64 0]) ∧ OwnSy w' B v' D
theorem le_U16_rd (w : World) (v : Value) (l : List UInt8) (h : Arg w v l) (p : Nat) (hp : (p : Int) ≤ 18446744073709551615) :
    Calls Try.prog 16 #[v, .int .u64 p] w fun e w' => ∃ q, e = .returned (.tuple #[.int .u16 (rd l p 2), q]) ∧ w = w' := by
  by_cases hi : p + 2 ≤ l.length
  · rw [rd_in hi]
    exact (le_U16_yes w v l h p hi).mono fun e w' hh => ⟨_, hh.1, hh.2⟩
  · have e0 : rd l p 2 = 0 := if_neg hi
    rw [e0]
    exact (le_U16_no w v l h p hp hi).mono fun e w' hh => ⟨_, hh.1, hh.2⟩
theorem pv_some (vs : List Vv) (x : List UInt8) (S : List Sy) (i : Nat) (h : ∀ j (hj : j < S.length), j < i → (pv vs x j S[j]).isSome = true) (hi : i < S.length) (t : Sy) (e : pv vs x i S[i] = some t) : ∀ j (hj : j < S.length), j < i + 1 → (pv vs x j S[j]).isSome = true := fun j hj hl => by
  by_cases c : j = i
  · subst c; rw [e]; rfl
  · exact h j hj (by omega)
/-- What Put holds: the row it turns, the numbers, the versions. -/
structure PutAt (w wr : World) (C g n cap : Nat) (L : List Sy) (vp : Value) (pl : List UInt8) (vl : Value) (vs : List Vv) : Prop where
  b : Below w.heap.size w wr
  s : OwnSy wr w.heap.size (.slice (some ⟨g, 0, none⟩) n cap) L
  p : Own wr C vp pl
  v : OwnV 114 .u16 wr w.heap.size vl vs
theorem PutAt.stay {w wr wx : World} {C g n cap : Nat} {L : List Sy} {vp : Value} {pl : List UInt8} {vl : Value} {vs : List Vv} (h : PutAt w wr C g n cap L vp pl vl vs) (hb : Below wr.heap.size wr wx) : PutAt w wx C g n cap L vp pl vl vs :=
  ⟨h.b.trans (hb.mono h.b.size), h.s.stay hb, h.p.stay hb, h.v.stay hb⟩
theorem PutAt.set {w wr wx : World} {C g n cap : Nat} {L L' : List Sy} {vp : Value} {pl : List UInt8} {vl : Value} {vs : List Vv} (h : PutAt w wr C g n cap L vp pl vl vs) (hs : OwnSy wx w.heap.size (.slice (some ⟨g, 0, none⟩) n cap) L') (hb : wr.grownBy wx (some g))
    (h1 : w.heap.size ≤ g) (h2 : g < C) (h3 : ∀ k, Value.ownBlock vl = some k → k ≠ g) : PutAt w wx C g n cap L' vp pl vl vs := by
  refine ⟨grown_below h1 h.b hb, hs, ?_, ?_⟩
  · obtain ⟨hp1, hp2⟩ := h.p
    refine ⟨hp1, ?_⟩
    rcases hp2 with hn | ⟨k, cap', cur, rfl, hB, hg, rest⟩
    · exact .inl hn
    · refine .inr ⟨k, cap', cur, rfl, hB, ?_, rest⟩
      rw [hb.block k (Array.getElem?_eq_some_iff.1 hg).1 (fun e => by injection e with e; omega)]; exact hg
  · obtain ⟨hp1, hp2⟩ := h.v
    refine ⟨hp1, ?_⟩
    rcases hp2 with hn | ⟨k, cap', cur, rfl, hB, hg, rest⟩
    · exact .inl hn
    · refine .inr ⟨k, cap', cur, rfl, hB, ?_, rest⟩
      rw [hb.block k (Array.getElem?_eq_some_iff.1 hg).1 (fun e => by injection e with e; exact h3 k rfl e)]; exact hg
set_option maxHeartbeats 4000000 in
set_option maxRecDepth 20000 in
theorem ve_Put (w : World) (b : Value) (l : List UInt8) (hb : Arg w b l) (m : Nat) (v : Value) (d r : Ph) (ps : List Ph) (h : ArgH w v ps) (ok : ∀ p ∈ ps, p.ok) (sm : ∀ p ∈ ps, p.off + p.filesz ≤ 1000000) (lo : ∀ p ∈ ps, p.vaddr + p.filesz ≤ 16384)
    (cs : Array Value) (hz : cs.size = 40) (x s : Nat) (h7 : cs[7]? = some (.int .u64 x)) (h8 : cs[8]? = some (.int .u64 s)) (hx : x < 18446744073709551616) (hs : s < 18446744073709551616)
    (vq : Vq) (h13 : cs[13]? = some (.int .u64 vq.def')) (h14 : cs[14]? = some (.int .u64 vq.need)) (h15 : cs[15]? = some (.int .u64 vq.defs)) (h16 : cs[16]? = some (.int .u64 vq.needs)) (hq1 : vq.def' < 18446744073709551616) (hq2 : vq.need < 18446744073709551616) (hq3 : vq.defs < 18446744073709551616) (hq4 : vq.needs < 18446744073709551616)
    (y : Nat) (h12 : cs[12]? = some (.int .u64 y)) (hy : y < 18446744073709551616)
    (vS : Value) (S : List Sy) (hS : ArgSy w vS S) (hne : S ≠ []) (hlen : S.length ≤ 1000) (hlm : l.length ≤ 1000000) :
    Calls Try.prog 7 #[b, .agg (hdCells m v d r).toArray, .agg cs, vS] w fun e w' => PutIs w w' w.heap.size (vputZ l ps (partZ l ps x s).1 (partZ l ps x s).2 vq y S) e ∧ Below w.heap.size w w' := by
  have HB : Hid (Below w.heap.size w ((w.alloc (.cells (hdCells m v d r).toArray 30)).alloc (.cells cs 35))) := ((Below.refl _ w).alloc (Nat.le_refl _) _).alloc (by simp) _
  have HG : Hid (((w.alloc (.cells (hdCells m v d r).toArray 30)).alloc (.cells cs 35)).heap[w.heap.size]? = some (.cells (hdCells m v d r).toArray 30 (0, 0))) := by
    rw [Hid, heap_alloc_old _ _ (by simp)]; exact heap_alloc_new _ _
  have hs1 : (w.alloc (.cells (hdCells m v d r).toArray 30)).heap.size = w.heap.size + 1 := by simp
  have HD : Hid (((w.alloc (.cells (hdCells m v d r).toArray 30)).alloc (.cells cs 35)).heap[w.heap.size + 1]? = some (.cells cs 35 (0, 0))) := by
    rw [Hid, ← hs1]; exact heap_alloc_new _ _
  have kL := ve_List _ b l (hb.below' HB.out) m v d r ps (h.below HB.out) ok sm lo cs hz x s h7 h8 hx hs vq h13 h14 h15 h16 hq1 hq2 hq3 hq4
  have HGOOD := hide (fun L => ver_is_good (l := l) (ps := ps) (S := (partZ l ps x s).1) (sb := (partZ l ps x s).2) (q := vq) (L := L))
  obtain ⟨VO, hVO⟩ : ∃ o, verZ l ps (partZ l ps x s).1 (partZ l ps x s).2 vq = o := ⟨_, rfl⟩
  have HPU := hide (vput_of l ps (partZ l ps x s).1 (partZ l ps x s).2 vq y S)
  rw [hVO] at kL HGOOD HPU
  obtain ⟨PO, hPO⟩ : ∃ o, vputZ l ps (partZ l ps x s).1 (partZ l ps x s).2 vq y S = o := ⟨_, rfl⟩
  rw [hPO] at HPU ⊢
  have HZ := hide hz
  have H12 : Hid (∀ X : World, X.heap[w.heap.size + 1]? = some (.cells cs 35 (0, 0)) → X.cell? ⟨w.heap.size + 1, 12, none⟩ = some (.int .u64 y)) := fun X hX => cells_of_block hX 12 _ h12
  obtain ⟨n, hn⟩ : ∃ n, S.length = n := ⟨_, rfl⟩
  have HN := hide hn
  obtain ⟨gS, capS, rfl, hcap, hcapm, hgS, hcS⟩ : ∃ g cap, vS = .slice (some ⟨g, 0, none⟩) n cap ∧ n ≤ cap ∧ cap ≤ maxLen ∧ g < w.heap.size ∧ ∀ j (hj : j < S.length) k, k < 7 → w.cell? ⟨g, j * 7 + k, none⟩ = S[j].cells[k]? := by
    rcases hS.2 with ⟨_, hh⟩ | ⟨g, cap, e, q1, q2, q3, q4⟩
    · exact absurd hh hne
    · rw [hn] at e q1; exact ⟨g, cap, e, q1, q2, q3, q4⟩
  have hcells : ∀ j u, (flatY S)[j]? = some u → w.cell? ⟨gS, j, none⟩ = some u := fun j u hj => by
    have hj5 : j < S.length * 7 := by rw [← flatY_len]; exact (List.getElem?_eq_some_iff.1 hj).1
    have e := hcS (j / 7) (by omega) (j % 7) (Nat.mod_lt _ (by decide))
    have e2 := flatY_get S (j / 7) (by omega) (j % 7) (Nat.mod_lt _ (by decide))
    rw [show j / 7 * 7 + j % 7 = j by omega] at e e2
    rw [e, ← e2, hj]
  have HCL := hide (fun W (hW : Below w.heap.size w W) => lib_CloneS W gS n capS (flatY S) (by rw [flatY_len, hn]) (flatY_one S) (by omega) (fun j u hj => (hW.cell (p := ⟨gS, j, none⟩) hgS).trans (hcells j u hj)))
  have HPT := hide (fun W (hW : Below w.heap.size w W) => head_Part W b l (hb.below' hW) m v d r ps (h.below hW) ok y (2 * n) hy (by omega))
  have HPB : Hid ((partZ l ps y (2 * n)).2 = rcB l ps y (2 * n)) := rfl
  have HPLN : Hid ((rc l ps y (2 * n)).length ≤ 140737488351232) := by have := rc_len l ps y (2 * n); unfold Hid; omega
  have HPL : Hid ((partZ l ps y (2 * n)).1 = rc l ps y (2 * n)) := rfl
  have hn0 : 1 ≤ n := by rw [← hn]; exact List.length_pos_iff.2 hne
  have hnI : (n : Int) ≤ 1000 := by omega
  have hnI1 : (1 : Int) ≤ (n : Int) := by omega
  obtain ⟨ba, bn, bc, rfl⟩ : ∃ a n c, b = .slice a n c := by obtain ⟨a, c, e, _⟩ := hb.isSlice; exact ⟨_, _, _, e⟩
  unfold vputO at HPU
  rw [hn] at HPU
  clear hb h ok sm lo h7 h8 h13 h14 h15 h16 hx hs hs1 hz hq1 hq2 hq3 hq4 h12 hy hVO hPO hS hne hcS hcells hgS hn
  go_enter Try.func7, Try.ntmps7
  go_wp2_with (first
    | ((with_reducible refine at_load ?_); refine load_row rfl _ _ rfl w.heap.size _ (load_hd HG.out rfl) rfl ?_)
    | ((with_reducible refine at_loadD ?_); refine load_row rfl _ _ rfl (w.heap.size + 1) _ (load_dy HD.out HZ.out) rfl ?_))
  refine kL.mono ?_
  rintro e W1 ⟨hE, hb1⟩
  have HB1 : Hid (Below w.heap.size w W1) := HB.out.trans (hb1.mono HB.out.size)
  have HD1 := hide (block_stay HD.out hb1)
  have HG1 := hide (block_stay HG.out hb1)
  have HW1 : Hid (w.heap.size ≤ W1.heap.size) := HB1.out.size
  have HBs := hide HB.out.size
  clear kL hb1 HB HG HD
  cases VO with
  | none =>
    have hE' : e = _ := hE
    subst hE'
    have HX : Hid (PO = none) := HPU.out
    clear hE HPU HGOOD HCL HPT
    go_wp2
    go_ret2
    exact ⟨by rw [HX.out]; rfl, HB1.out⟩
  | some vs =>
    obtain ⟨vl, rfl, hOV⟩ := hE
    have hl32 : vs.length ≤ 32 := good_len (HGOOD.out vs rfl)
    obtain ⟨la, ln, lc, rfl⟩ : ∃ a n c, vl = .slice a n c := by obtain ⟨a, c, e⟩ := hOV.form; exact ⟨_, _, _, e⟩
    have HOV := hide (hOV.low HBs.out)
    have HVL : Hid (vs.length ≤ 65536) := Nat.le_trans hl32 (by decide)
    have HVB : Hid (∀ k, Value.ownBlock (.slice la ln lc) = some k → k < W1.heap.size) := fun k hk => (World.ownsRow.lt hOV k hk).2
    have HX : Hid (PO = if y = 0 then some S else if rcB l ps y (2 * n) = false then none else putL (pv vs (rc l ps y (2 * n))) 0 S) := HPU.out
    have kC := HCL.out W1 HB1.out
    clear HPU HGOOD HCL hOV hl32
    go_wp2_with fail
    refine kC.mono ?_
    rintro e W2 ⟨v2, rfl, ow2, hb2⟩
    have HB2 : Hid (Below w.heap.size w W2) := HB1.out.trans (hb2.mono HB1.out.size)
    have HD2 := hide (block_stay HD1.out hb2)
    have HG2 := hide (block_stay HG1.out hb2)
    have HOV2 := hide (HOV.out.stay hb2)
    have HO1 := hide ow2
    have ow3 : OwnSy W2 w.heap.size v2 S := by
      unfold OwnSy
      rw [HN.out]
      refine ⟨ow2.1, ?_⟩
      rcases ow2.2 with hn | ⟨gg, cap', cur, rfl, hB, rest⟩
      · exact .inl hn
      · exact .inr ⟨gg, cap', cur, rfl, Nat.le_trans HW1.out hB, rest⟩
    have HO2 := hide ow3
    have c12 := H12.out W2 HD2.out
    clear kC hb2 ow2 ow3 HD1 HG1 HOV
    by_cases hy0 : y = 0
    · subst hy0
      have HR : Hid (PO = some S) := by rw [Hid, HX.out, if_pos rfl]
      clear HX HPT
      go_wp2
      go_ret2
      exact ⟨by rw [HR.out]; exact ⟨_, rfl, HO2.out⟩, HB2.out⟩
    · have hyI : ((y : Int) == 0) = false := by rw [beq_eq_false_iff_ne]; omega
      have HR : Hid (PO = if rcB l ps y (2 * n) = false then none else putL (pv vs (rc l ps y (2 * n))) 0 S) := by rw [Hid, HX.out, if_neg hy0]
      have kP := HPT.out W2 HB2.out
      rw [HPB.out, HPL.out, show ((2 * n : Nat) : Int) = (n : Int) * 2 by omega] at kP
      generalize rcB l ps y (2 * n) = pb at *
      generalize rc l ps y (2 * n) = pl at *
      obtain ⟨g2, cap2, hv2, hg2B, hg2L, hg2c, hg2m⟩ : ∃ g cap, v2 = .slice (some ⟨g, 0, none⟩) n cap ∧ W1.heap.size ≤ g ∧ g < W2.heap.size ∧ n ≤ cap ∧ cap ≤ 9223372036854775807 := by
        rcases HO1.out.2 with ⟨_, hh⟩ | ⟨gg, cap', cur, e, hB, hg, q1, q2, _⟩
        · omega
        · exact ⟨gg, cap', e, hB, (Array.getElem?_eq_some_iff.1 hg).1, q1, by unfold maxLen at q2; omega⟩
      subst hv2
      have HG2B := hide hg2B
      have HG2G := hide hg2B
      have HG2L := hide hg2L
      clear HX HPT hy0
      go_wp2_with (first
        | ((with_reducible refine at_load ?_); refine load_row rfl _ _ rfl w.heap.size _ (load_hd HG2.out rfl) rfl ?_))
      refine kP.mono ?_
      rintro e W3 ⟨⟨v3, rfl, hP3⟩, hb3⟩
      have HB3 : Hid (Below w.heap.size w W3) := HB2.out.trans (hb3.mono HB2.out.size)
      have HO3 := hide (HO2.out.stay hb3)
      have HOV3 := hide (HOV2.out.stay hb3)
      clear kP hb3 HO2 HOV2 c12 HB2 HD2 HG2
      cases pb with
      | false =>
        have HX : Hid (PO = none) := HR.out
        clear HR hP3
        go_wp2
        go_ret2
        exact ⟨by rw [HX.out]; rfl, HB3.out⟩
      | true =>
        have HX : Hid (PO = putL (pv vs pl) 0 S) := HR.out
        have HOB := hide hP3
        have HVN : Hid (∀ k, Value.ownBlock (.slice la ln lc) = some k → k ≠ g2) := fun k hk e => by have := HVB.out k hk; have := HG2B.out; omega
        clear HR hP3 HVB HG2B hg2B hg2L HO1
        obtain ⟨pa, pn, pc, rfl⟩ : ∃ a n c, v3 = .slice a n c := by obtain ⟨a, c, e, _⟩ := (HOB.out.arg HPLN.out).isSlice; exact ⟨_, _, _, e⟩
        go_wp2
        go_loopw [15] (fun vi wr => ∃ i : Nat, vi = .int .i64 i ∧ 1 ≤ i ∧ i ≤ n ∧ Hid (PutAt w wr W2.heap.size g2 n cap2 (mixS (pv vs pl) 0 i S) (.slice pa pn pc) pl (.slice la ln lc) vs) ∧ Hid (∀ j (hj : j < S.length), j < i → (pv vs pl j S[j]).isSome = true))
          (fun vi _ => n - (intOf vi).toNat)
        case atStart =>
          refine ⟨1, rfl, by omega, by omega, ?_, ?_⟩
          · have e : mixS (pv vs pl) 0 1 S = S := by
              rw [← mixS_set (pv vs pl) S 0 (by rw [HN.out]; omega) (S[0]'(by rw [HN.out]; omega)) rfl, mixS_zero, List.set_getElem_self]
            rw [Hid, e]
            exact ⟨HB3.out, HO3.out, HOB.out, HOV3.out⟩
          · intro j hj h1
            have : j = 0 := by omega
            subst this; rfl
        case round =>
          obtain ⟨i, rfl, hi1, hi, HP, HS⟩ := hrel
          by_cases hlt : i < n
          · have hltI : (i : Int) < (n : Int) := by omega
            have hi0 : (0 : Int) ≤ (i : Int) := by omega
            have hil : i < S.length := by rw [HN.out]; exact hlt
            have hml := mixS_len (pv vs pl) S 0 i
            have hget := mixS_get (pv vs pl) S 0 i i hil
            rw [if_neg (by omega)] at hget
            obtain ⟨g, hga, p1, p2, _, y0, y1, y2, y3, y4, y5, y6⟩ := (HP.out.s.arg (by rw [hml, HN.out]; omega)).at i (by rw [hml]; exact hil)
            simp only [Option.some.injEq, Addr.mk.injEq, and_true] at hga
            subst hga
            rw [hget] at y0 y1 y2 y3 y4 y5 y6
            have HPV : Hid (pv vs pl i S[i] = withV vs S[i] (rd pl (i * 2) 2)) := by rw [Hid, pv, if_neg (by omega), Nat.mul_comm]
            obtain ⟨sy, hsy⟩ : ∃ sy, S[i] = sy := ⟨_, rfl⟩
            have HSY := hide hsy
            rw [hsy] at y0 y1 y2 y3 y4 y5 y6 HPV
            have kU := le_U16_rd wr (.slice pa pn pc) pl (HP.out.p.arg HPLN.out) (i * 2) (by omega)
            rw [show ((i * 2 : Nat) : Int) = (i : Int) * 2 by omega] at kU
            have hq := rd2 pl (i * 2)
            generalize rd pl (i * 2) 2 = q at *
            have kW := ve_withV wr sy q hq (.slice la ln lc) vs (HP.out.v.arg HVL.out)
            obtain ⟨O, hO⟩ : ∃ O, withV vs sy q = O := ⟨_, rfl⟩
            rw [hO] at kW HPV
            obtain ⟨nm, vr, hd, bd, df, vl', sz⟩ := sy
            simp only [Sy.cells] at kW
            simp only at y0 y1 y2 y3 y4 y5 y6
            clear hsy hml hget hO hq p1
            go_wp2_with fail
            refine kU.mono ?_
            rintro e w1 ⟨q2, rfl, rfl⟩
            go_wp2_with fail
            refine kW.mono ?_
            rintro e w2 ⟨rfl, hb2⟩
            have HQ2 := hide (HP.out.stay hb2)
            clear kU kW hb2 y0 y1 y2 y3 y4 y5 y6 HP
            cases O with
            | none =>
              obtain ⟨cur, hcur, hfit, hput⟩ := HQ2.out.s.put i (by rw [mixS_len]; exact hil) noSy
              have HBW := hide HQ2.out.b
              have HX2 : Hid (PO = none) := by rw [Hid, HX.out]; exact putL_none _ _ _ i hil (by rw [Nat.zero_add, HSY.out]; exact HPV.out)
              unfold wvR
              go_wp2_with (first
                | ((with_reducible refine at_storeT (T := 48) ?_); refine store_part rfl _ _ _ rfl g2 (i * 7) 48 _ noSy.cells _ hcur rfl rfl sy_size (Sy.one _) hfit rfl ?_))
              intro w5 hg5 hb5
              have HB5 := hide (grown_below (Nat.le_trans HW1.out HG2G.out) HBW.out hb5)
              clear hg5 hb5 hput hcur hfit HQ2
              go_wp2
              go_ret2
              exact ⟨by rw [HX2.out]; rfl, HB5.out⟩
            | some t =>
              obtain ⟨cur, hcur, hfit, hput⟩ := HQ2.out.s.put i (by rw [mixS_len]; exact hil) t
              have HPUT := hide hput
              have hpv : pv vs pl i S[i] = some t := by rw [HSY.out]; exact HPV.out
              have HMS := hide (mixS_set (pv vs pl) S i hil t hpv)
              have HSS := hide (pv_some vs pl S i HS.out hil t hpv)
              clear hpv hput
              unfold wvR
              go_wp2_with (first
                | ((with_reducible refine at_storeT (T := 48) ?_); refine store_part rfl _ _ _ rfl g2 (i * 7) 48 _ t.cells _ hcur rfl rfl sy_size (Sy.one _) hfit rfl ?_))
              intro w5 hg5 hb5
              have HQ5 : Hid (PutAt w w5 W2.heap.size g2 n cap2 (mixS (pv vs pl) 0 (i + 1) S) (.slice pa pn pc) pl (.slice la ln lc) vs) := by
                rw [Hid, ← HMS.out]
                exact HQ2.out.set (HPUT.out w5 (by rw [List.append_assoc]; exact hg5)) hb5 (Nat.le_trans HW1.out HG2G.out) HG2L.out HVN.out
              clear hg5 hb5 hcur hfit HQ2 HPUT HMS
              go_wp2
              go_roundw
              case rel => exact ⟨i + 1, by go_num, by omega, by omega, HQ5, HSS⟩
              case measure => simp [intOf]; omega
          · have hltI : ¬ (i : Int) < (n : Int) := by omega
            have he : i = n := by omega
            subst he
            have HX2 : Hid (PO = some (mixS (pv vs pl) 0 i S)) := by
              rw [Hid, HX.out, putL_some (pv vs pl) S 0 (fun k hk => by rw [Nat.zero_add]; exact HS.out k hk (by rw [← HN.out]; exact hk)), HN.out]
            clear hi1 hi hlt
            go_wp2
            go_ret2
            exact ⟨by rw [HX2.out]; exact ⟨_, rfl, HP.out.s⟩, HP.out.b⟩
end Go.Proofs.Ytdclofiifcpkkaa
namespace Go.Proofs.Ytdclofiifcpkkaa
open Go.RowKit Go.PlainAid Go.Sort
set_option maxHeartbeats 4000000 in
theorem ref10_Same (w : World) (v1 v2 : Value) (ls : List Sy) (h1 : ArgSy w v1 ls) (h2 : ArgSy w v2 ls) :
    Calls Try.prog 9 #[v1, v2] w fun e w' => e = .returned (.bool true) ∧ Below w.heap.size w w' := by
  have HA1 := hide h1
  have HA2 := hide h2
  have hl := h1.1
  obtain ⟨a1, c1, rfl⟩ := h1.form
  obtain ⟨a2, c2, rfl⟩ := h2.form
  obtain ⟨n, hn⟩ : ∃ n, ls.length = n := ⟨_, rfl⟩
  have HN := hide hn
  rw [hn] at hl HA1 HA2 ⊢
  have b1 : ((n : Int) != (n : Int)) = false := by simp
  clear h1 h2 hn
  go_enter Try.func9, Try.ntmps9
  go_wp2
  go_loopw [5] (fun vi wr => ∃ i : Nat, i ≤ n ∧ vi = .int .i64 i ∧ Hid (Below w.heap.size w wr)) (fun vi _ => n - (intOf vi).toNat)
  case atStart => exact ⟨0, by omega, rfl, Below.refl _ _⟩
  case round =>
    obtain ⟨i, hi, rfl, HB⟩ := hrel
    by_cases hlt : i < n
    · have hltI : (i : Int) < (n : Int) := by omega
      have hil : i < ls.length := by rw [HN.out]; exact hlt
      obtain ⟨g1, rfl, p1, p2, _, y0, y1, y2, y3, y4, y5, y6⟩ := (HA1.out.below HB.out).at i hil
      obtain ⟨g2, rfl, p3, p4, _, z0, z1, z2, z3, z4, z5, z6⟩ := (HA2.out.below HB.out).at i hil
      rw [HN.out] at p1 p3
      generalize ls[i] = p at *
      obtain ⟨nm, vr, hd, bd, df, vl, sz⟩ := p
      simp only at y0 y1 y2 y3 y4 y5 y6 z0 z1 z2 z3 z4 z5 z6
      go_wp2_with fail
      go_quiet (fail)
      have HB2 : Hid (Below w.heap.size w (wr.drewN nq)) := bel_drewN HB.out _
      clear y0 y1 y2 y3 y4 y5 y6 z0 z1 z2 z3 z4 z5 z6
      go_wp2
      go_roundw
      case rel => exact ⟨i + 1, by omega, by go_num, HB2⟩
      case measure => simp [intOf]; omega
    · have hltI : ¬ (i : Int) < (n : Int) := by omega
      go_wp2
      go_ret
      exact ⟨rfl, HB.out⟩
end Go.Proofs.Ytdclofiifcpkkaa
namespace Go.Proofs.Ytdclofiifcpkkaa
open Go.RowKit Go.PlainAid Go.Sort
def PutIsR (w' : World) : Option (List Sy) → Ending → Prop
  | none, e => e = .returned (.tuple #[.slice none 0 0, .int .i64 110])
  | some D, e => ∃ v', e = .returned (.tuple #[v', .int .i64 0]) ∧ ArgSy w' v' D
/-- A new block holds a symbol. -/
structure NewY (wr wx : World) (t : Sy) : Prop where
  b : Below wr.heap.size wr wx
  s : wx.heap[wr.heap.size]? = some (.cells t.cells.toArray 48 (0, 0))
theorem NewY.set {wr wx wy : World} {t u : Sy} (h : NewY wr wx t) (hg : wy.heap[wr.heap.size]? = some (.cells u.cells.toArray 48 (0, 0))) (hb : wx.grownBy wy (some wr.heap.size)) : NewY wr wy u :=
  ⟨grown_below (Nat.le_refl _) h.b hb, hg⟩
theorem NewY.stay {wr wx wy : World} {t : Sy} (h : NewY wr wx t) (hb : Below wx.heap.size wx wy) : NewY wr wy t := ⟨h.b.trans (hb.mono h.b.size), block_stay h.s hb⟩
/-- What was found among the first k of them. -/
def Fnd (vs : List Vv) (n : Nat) (d : Bool) (k : Nat) (fb : Bool) (ver : List UInt8) : Prop :=
  (fb = false ∧ ver = [] ∧ ∀ j (hj : j < vs.length), j < k → meant n d vs[j] = false) ∨ (fb = true ∧ ∃ j, ∃ hj : j < vs.length, j < k ∧ meant n d vs[j] = true ∧ ver = vs[j].name)
theorem Fnd.skip {vs : List Vv} {n : Nat} {d : Bool} {k : Nat} {fb : Bool} {ver : List UInt8} (h : Fnd vs n d k fb ver) (hk : k < vs.length) (hm : meant n d vs[k] = false) : Fnd vs n d (k + 1) fb ver := by
  rcases h with ⟨a, b, c⟩ | ⟨a, j, hj, b, c, e⟩
  · refine .inl ⟨a, b, fun j hj hl => ?_⟩
    by_cases q : j = k
    · subst q; exact hm
    · exact c j hj (by omega)
  · exact .inr ⟨a, j, hj, by omega, c, e⟩
theorem Fnd.take {vs : List Vv} {n : Nat} {d : Bool} {k : Nat} (hk : k < vs.length) (hm : meant n d vs[k] = true) : Fnd vs n d (k + 1) true vs[k].name := .inr ⟨rfl, k, hk, by omega, hm, rfl⟩
theorem Fnd.done {vs : List Vv} {n : Nat} {d : Bool} {fb : Bool} {ver : List UInt8} (h : Fnd vs n d vs.length fb ver) (ha : apartB vs = true) :
    (fb = false ∧ vs.find? (meant n d) = none) ∨ (fb = true ∧ ∃ v, vs.find? (meant n d) = some v ∧ ver = v.name) := by
  rcases h with ⟨a, b, c⟩ | ⟨a, j, hj, b, c, e⟩
  · refine .inl ⟨a, List.find?_eq_none.2 fun x hx => ?_⟩
    obtain ⟨j, hj, rfl⟩ := List.mem_iff_getElem.1 hx
    rw [c j hj hj]; simp
  · exact .inr ⟨a, vs[j], find_at ha j hj c, e⟩
set_option maxHeartbeats 4000000 in
set_option maxRecDepth 20000 in
theorem rf_Put (w : World) (b : Value) (l : List UInt8) (hb : Arg w b l) (m : Nat) (v : Value) (d r : Ph) (ps : List Ph) (h : ArgH w v ps) (ok : ∀ p ∈ ps, p.ok) (sm : ∀ p ∈ ps, p.off + p.filesz ≤ 1000000) (lo : ∀ p ∈ ps, p.vaddr + p.filesz ≤ 16384)
    (cs : Array Value) (hz : cs.size = 40) (x s : Nat) (h7 : cs[7]? = some (.int .u64 x)) (h8 : cs[8]? = some (.int .u64 s)) (hx : x < 18446744073709551616) (hs : s < 18446744073709551616)
    (vq : Vq) (h13 : cs[13]? = some (.int .u64 vq.def')) (h14 : cs[14]? = some (.int .u64 vq.need)) (h15 : cs[15]? = some (.int .u64 vq.defs)) (h16 : cs[16]? = some (.int .u64 vq.needs)) (hq1 : vq.def' < 18446744073709551616) (hq2 : vq.need < 18446744073709551616) (hq3 : vq.defs < 18446744073709551616) (hq4 : vq.needs < 18446744073709551616)
    (y : Nat) (h12 : cs[12]? = some (.int .u64 y)) (hy : y < 18446744073709551616)
    (vS : Value) (S : List Sy) (hS : ArgSy w vS S) (hbare : ∀ s ∈ S, bareS s) (hlen : S.length ≤ 1000) (hlm : l.length ≤ 1000000) :
    Calls Try.prog 8 #[b, .agg (hdCells m v d r).toArray, .agg cs, vS] w fun e w' => PutIsR w' (vputZ l ps (partZ l ps x s).1 (partZ l ps x s).2 vq y S) e ∧ Below w.heap.size w w' := by
  have HB : Hid (Below w.heap.size w ((w.alloc (.cells (hdCells m v d r).toArray 30)).alloc (.cells cs 35))) := ((Below.refl _ w).alloc (Nat.le_refl _) _).alloc (by simp) _
  have HG : Hid (((w.alloc (.cells (hdCells m v d r).toArray 30)).alloc (.cells cs 35)).heap[w.heap.size]? = some (.cells (hdCells m v d r).toArray 30 (0, 0))) := by
    rw [Hid, heap_alloc_old _ _ (by simp)]; exact heap_alloc_new _ _
  have hs1 : (w.alloc (.cells (hdCells m v d r).toArray 30)).heap.size = w.heap.size + 1 := by simp
  have HD : Hid (((w.alloc (.cells (hdCells m v d r).toArray 30)).alloc (.cells cs 35)).heap[w.heap.size + 1]? = some (.cells cs 35 (0, 0))) := by
    rw [Hid, ← hs1]; exact heap_alloc_new _ _
  have kL := rf_List _ b l (hb.below' HB.out) m v d r ps (h.below HB.out) ok sm lo cs hz x s h7 h8 hx hs vq h13 h14 h15 h16 hq1 hq2 hq3 hq4
  have HGOOD := hide (fun L => ver_is_good (l := l) (ps := ps) (S := (partZ l ps x s).1) (sb := (partZ l ps x s).2) (q := vq) (L := L))
  obtain ⟨VO, hVO⟩ : ∃ o, verZ l ps (partZ l ps x s).1 (partZ l ps x s).2 vq = o := ⟨_, rfl⟩
  have HPU := hide (vput_of l ps (partZ l ps x s).1 (partZ l ps x s).2 vq y S)
  rw [hVO] at kL HGOOD HPU
  obtain ⟨PO, hPO⟩ : ∃ o, vputZ l ps (partZ l ps x s).1 (partZ l ps x s).2 vq y S = o := ⟨_, rfl⟩
  rw [hPO] at HPU ⊢
  have HZ := hide hz
  have H12 : Hid (∀ X : World, X.heap[w.heap.size + 1]? = some (.cells cs 35 (0, 0)) → X.cell? ⟨w.heap.size + 1, 12, none⟩ = some (.int .u64 y)) := fun X hX => cells_of_block hX 12 _ h12
  obtain ⟨n, hn⟩ : ∃ n, S.length = n := ⟨_, rfl⟩
  have HN := hide hn
  obtain ⟨sa, sc, rfl⟩ : ∃ a c, vS = .slice a n c := by obtain ⟨a, c, e⟩ := hS.form; rw [hn] at e; exact ⟨_, _, e⟩
  have HSS := hide hS
  have HBR := hide hbare
  have HPT := hide (fun W (hW : Below w.heap.size w W) => ref8_Part W b l (hb.below' hW) m v d r ps (h.below hW) ok sm y (2 * n) hy (by omega))
  have HPB : Hid ((partZ l ps y (2 * n)).2 = rcB l ps y (2 * n)) := rfl
  have HPLN : Hid ((rc l ps y (2 * n)).length ≤ 140737488351232) := by have := rc_len l ps y (2 * n); unfold Hid; omega
  have HPL : Hid ((partZ l ps y (2 * n)).1 = rc l ps y (2 * n)) := rfl
  have hnI : (n : Int) ≤ 1000 := by omega
  obtain ⟨ba, bn, bc, rfl⟩ : ∃ a n c, b = .slice a n c := by obtain ⟨a, c, e, _⟩ := hb.isSlice; exact ⟨_, _, _, e⟩
  unfold vputO at HPU
  rw [hn] at HPU
  clear hb h ok sm lo h7 h8 h13 h14 h15 h16 hx hs hs1 hz hq1 hq2 hq3 hq4 h12 hy hVO hPO hS hbare hn
  go_enter Try.func8, Try.ntmps8
  go_wp2_with (first
    | ((with_reducible refine at_load ?_); refine load_row rfl _ _ rfl w.heap.size _ (load_hd HG.out rfl) rfl ?_)
    | ((with_reducible refine at_loadD ?_); refine load_row rfl _ _ rfl (w.heap.size + 1) _ (load_dy HD.out HZ.out) rfl ?_))
  refine kL.mono ?_
  rintro e W1 ⟨hE, hb1⟩
  have HB1 : Hid (Below w.heap.size w W1) := HB.out.trans (hb1.mono HB.out.size)
  have HD1 := hide (block_stay HD.out hb1)
  have HG1 := hide (block_stay HG.out hb1)
  clear kL hb1 HB HG HD
  cases VO with
  | none =>
    have hE' : e = _ := hE
    subst hE'
    have HX : Hid (PO = none) := HPU.out
    clear hE HPU HGOOD HPT
    go_wp2
    go_ret2
    exact ⟨by rw [HX.out]; rfl, HB1.out⟩
  | some vs =>
    obtain ⟨vl, rfl, hOV⟩ := hE
    have hl32 : vs.length ≤ 32 := good_len (HGOOD.out vs rfl)
    have HAP := hide (good_apart (HGOOD.out vs rfl))
    obtain ⟨la, lc, rfl⟩ : ∃ a c, vl = .slice a vs.length c := by obtain ⟨a, c, e⟩ := hOV.form; exact ⟨_, _, e⟩
    have HOV := hide (hOV.arg (Nat.le_trans hl32 (by decide)))
    obtain ⟨ln, hln⟩ : ∃ ln, vs.length = ln := ⟨_, rfl⟩
    have HLN := hide hln
    rw [hln] at HOV hl32 ⊢
    have HX : Hid (PO = if y = 0 then some S else if rcB l ps y (2 * n) = false then none else putL (pv vs (rc l ps y (2 * n))) 0 S) := HPU.out
    have c12 := H12.out W1 HD1.out
    clear HPU HGOOD hOV hln
    by_cases hy0 : y = 0
    · subst hy0
      have HR : Hid (PO = some S) := by rw [Hid, HX.out, if_pos rfl]
      clear HX HPT
      go_wp2
      go_ret2
      exact ⟨by rw [HR.out]; exact ⟨_, rfl, HSS.out.below HB1.out⟩, HB1.out⟩
    · have hyI : ((y : Int) == 0) = false := by rw [beq_eq_false_iff_ne]; omega
      have HR : Hid (PO = if rcB l ps y (2 * n) = false then none else putL (pv vs (rc l ps y (2 * n))) 0 S) := by rw [Hid, HX.out, if_neg hy0]
      have kP := HPT.out W1 HB1.out
      rw [HPB.out, HPL.out, show ((2 * n : Nat) : Int) = 2 * (n : Int) by omega] at kP
      generalize rcB l ps y (2 * n) = pb at *
      generalize rc l ps y (2 * n) = pl at *
      clear HX HPT hy0
      go_wp2_with (first
        | ((with_reducible refine at_load ?_); refine load_row rfl _ _ rfl w.heap.size _ (load_hd HG1.out rfl) rfl ?_))
      refine kP.mono ?_
      rintro e W3 ⟨⟨v3, rfl, hP3⟩, hb3⟩
      have HB3 : Hid (Below w.heap.size w W3) := HB1.out.trans (hb3.mono HB1.out.size)
      have HOV3 := hide (HOV.out.below hb3)
      have HSS3 := hide (HSS.out.below HB3.out)
      clear kP hb3 HOV HSS c12 HD1 HG1
      cases pb with
      | false =>
        have HX : Hid (PO = none) := HR.out
        clear HR hP3
        go_wp2
        go_ret2
        exact ⟨by rw [HX.out]; rfl, HB3.out⟩
      | true =>
        have HX : Hid (PO = putL (pv vs pl) 0 S) := HR.out
        have HOB := hide (hP3.arg HPLN.out)
        clear HR hP3
        obtain ⟨pa, pn, pc, rfl⟩ : ∃ a n c, v3 = .slice a n c := by obtain ⟨a, c, e, _⟩ := HOB.out.isSlice; exact ⟨_, _, _, e⟩
        go_wp2
        go_loopw [14, 15] (fun vo vi wr => ∃ (i : Nat) (oa : Option Addr) (oc : Nat), vi = .int .i64 i ∧ vo = .slice oa i oc ∧ i ≤ n ∧ Hid (Below W3.heap.size W3 wr) ∧ Hid (OwnSy wr W3.heap.size (.slice oa i oc) ((mixS (pv vs pl) 0 i S).take i)) ∧ Hid (∀ j (hj : j < S.length), j < i → (pv vs pl j S[j]).isSome = true))
          (fun _ vi _ => n - (intOf vi).toNat)
        case atStart => exact ⟨0, none, 0, rfl, rfl, by omega, Below.refl _ _, OwnSy.nil _ _, fun j _ hh => absurd hh (by omega)⟩
        case round =>
          obtain ⟨i, oa, oc, rfl, rfl, hi, HBi, HO, HS⟩ := hrel
          by_cases hlt : i < n
          · have hltI : (i : Int) < (n : Int) := by omega
            have hil : i < S.length := by rw [HN.out]; exact hlt
            obtain ⟨g, rfl, p1, p2, _, y0, y1, y2, y3, y4, y5, y6⟩ := (HSS3.out.below HBi.out).at i hil
            rw [HN.out] at p1
            have HBA := HBR.out S[i] (List.getElem_mem hil)
            have HPV : Hid (pv vs pl i S[i] = if i = 0 then some S[i] else withV vs S[i] (rd pl (2 * i) 2)) := rfl
            obtain ⟨sy, hsy⟩ : ∃ sy, S[i] = sy := ⟨_, rfl⟩
            have HSY := hide hsy
            rw [hsy] at y0 y1 y2 y3 y4 y5 y6 HPV HBA
            have HNN := hide (fun W (hW : Below wr.heap.size wr W) => ref8_N W (.slice pa pn pc) pl ((HOB.out.below' HBi.out).below' hW) (2 * i) 2 (by omega) (by decide) (by decide))
            rw [show ((2 * i : Nat) : Int) = 2 * (i : Int) by omega] at HNN
            have hq := rd2 pl (2 * i)
            generalize rd pl (2 * i) 2 = q at *
            obtain ⟨nm, vr, hd, bd, df, vl', sz⟩ := sy
            obtain ⟨hvr, hhd⟩ := HBA
            simp only at hvr hhd
            subst hvr hhd
            simp only at y0 y1 y2 y3 y4 y5 y6
            obtain ⟨mm, hmm⟩ : ∃ mm, q % 32768 = mm := ⟨_, rfl⟩
            have hmmI : (q : Int) % 32768 = (mm : Int) := by omega
            have HM : Hid (mm < 32768) := by unfold Hid; omega
            have HW : Hid (pv vs pl i S[i] = if i = 0 then some ⟨nm, [], false, bd, df, vl', sz⟩ else if mm = 0 then some ⟨nm, [], false, if df then 0 else bd, df, vl', sz⟩ else if mm = 1 then some ⟨nm, [], false || (decide (32768 ≤ q) && df), bd, df, vl', sz⟩ else match vs.find? (meant mm df) with | none => none | some v => some ⟨nm, v.name, false || (decide (32768 ≤ q) && df), bd, df, vl', sz⟩) := by
              rw [Hid, HSY.out, HPV.out]
              unfold withV
              rw [hmm]
              rfl
            clear hsy hmm HPV p1
            have HNY : Hid (NewY wr (wr.alloc (.cells #[.string ⟨nm.toArray⟩, .string ⟨#[]⟩, .bool false, .int .i64 bd, .bool df, .int .u64 vl', .int .u64 sz] 48)) ⟨nm, [], false, bd, df, vl', sz⟩) := ⟨below1 _ _, heap_alloc_new _ _⟩
            obtain ⟨bA, HBA⟩ : ∃ bA : Int, Hid (bA = if 0 < i ∧ mm = 0 ∧ df = true then 0 else bd) := ⟨_, rfl⟩
            obtain ⟨hB, HHB⟩ : ∃ hB : Bool, Hid (hB = (decide (0 < i) && decide (0 < mm) && (decide (32768 ≤ q) && df))) := ⟨_, rfl⟩
            have hqI : (q : Int) ≤ 65535 := by omega
            have hw : IntKind.u64.wrap (2 * (i : Int)) = 2 * (i : Int) := by rw [IntKind.wrap_u64]; omega
            -- the number; bound to be Local
            obtain ⟨tb, htb⟩ : ∃ tb, decide (32768 ≤ q) = tb := ⟨_, rfl⟩
            have hgq : decide ((q : Int) ≥ 32768) = tb := by rw [← htb, decide_eq_decide]; omega
            rw [htb] at HHB HW
            obtain ⟨k1, HK1⟩ : ∃ k1 : Bool, Hid (k1 = (decide (0 < i) && decide (mm = 0) && df)) := ⟨_, rfl⟩
            obtain ⟨k2, HK2⟩ : ∃ k2 : Bool, Hid (k2 = (decide (0 < i) && decide (0 < mm))) := ⟨_, rfl⟩
            obtain ⟨k3, HK3⟩ : ∃ k3 : Bool, Hid (k3 = (decide (0 < i) && decide (1 < mm))) := ⟨_, rfl⟩
            clear htb hq
            go_upto_region 17 with (first | (go_at_call 20; refine (HNN.out _ (below1 _ _)).mono ?_; rintro e w9 ⟨rfl, hw9⟩; rw [← hw9]; clear hw9))
            go_cut [17, 77] from 49 to 132 (fun v17 v77 wx => v17 = .int .u64 (mm : Nat) ∧ v77 = .bool k1 ∧ Hid (NewY wr wx ⟨nm, [], false, bd, df, vl', sz⟩))
            case first =>
              by_cases c1 : 0 < i
              · have c1I : (0 : Int) < (i : Int) := by omega
                by_cases c2 : mm = 0
                · subst c2
                  have HK : Hid (k1 = df) := by rw [Hid, HK1.out, decide_eq_true c1]; rfl
                  clear HK1
                  go_wp2
                  go_meet
                  case rel => exact ⟨by first | rfl | rw [hmmI], by rw [HK.out], HNY⟩
                · have c2I : ((mm : Int) == 0) = false := by simp; omega
                  have HK : Hid (k1 = false) := by rw [Hid, HK1.out, decide_eq_false c2]; simp
                  clear HK1 c2
                  go_wp2
                  go_meet
                  case rel => exact ⟨by first | rfl | rw [hmmI], by rw [HK.out], HNY⟩
              · have c1I : ¬ (0 : Int) < (i : Int) := by omega
                have HK : Hid (k1 = false) := by rw [Hid, HK1.out, decide_eq_false c1]; rfl
                clear HK1
                go_wp2
                go_meet
                case rel => exact ⟨by first | rfl | rw [hmmI], by rw [HK.out], HNY⟩
            case rest =>
            obtain ⟨rfl, rfl, HN0⟩ := hcut
            clear HNY HNN y0 y1 y2 y3 y4 y5 y6 hw hqI hmmI hgq
            go_upto_if 77 with fail
            go_cut [] from 49 to 132 (fun wx => Hid (NewY wr wx ⟨nm, [], false, bA, df, vl', sz⟩))
            case first =>
              cases k1 with
              | true =>
                have hc : (decide (0 < i) && decide (mm = 0) && df) = true := HK1.out.symm
                simp only [Bool.and_eq_true, decide_eq_true_eq] at hc
                have HA : Hid (bA = 0) := by rw [Hid, HBA.out, if_pos ⟨hc.1.1, hc.1.2, hc.2⟩]
                clear HBA hc
                go_wp2_with (first
                  | ((with_reducible refine at_storeT (T := 3) ?_); refine store_v rfl _ _ _ rfl wr.heap.size 3 48 _ (.int .i64 0) [.int .i64 0] #[.string ⟨nm.toArray⟩, .string ⟨#[]⟩, .bool false, .int .i64 0, .bool df, .int .u64 vl', .int .u64 sz] HN0.out.s rfl rfl rfl int_sizeY (by intro u hu; rw [List.mem_singleton.1 hu]; rfl) (Nat.le_of_ble_eq_true rfl) (by rfl) ?_))
                intro w4 hg4 hb4
                have H4 := hide (HN0.out.set (u := ⟨nm, [], false, 0, df, vl', sz⟩) hg4 hb4)
                clear HN0 hg4 hb4
                go_wp2
                go_meet
                case rel => rw [HA.out]; exact H4
              | false =>
                have HA : Hid (bA = bd) := by
                  rw [Hid, HBA.out, if_neg]
                  rintro ⟨c1, c2, c3⟩
                  have := HK1.out
                  rw [decide_eq_true c1, decide_eq_true c2, c3] at this
                  cases this
                clear HBA
                go_wp2
                go_meet
                case rel => rw [HA.out]; exact HN0
            case rest =>
              have HN1 := hcut
              clear hcut HN0
              -- hidden
              go_upto_region 19 with fail
              go_cut [84] from 49 to 132 (fun v84 wx => v84 = .bool k2 ∧ Hid (NewY wr wx ⟨nm, [], false, bA, df, vl', sz⟩))
              case first =>
                by_cases c1 : 0 < i
                · have c1I : (0 : Int) < (i : Int) := by omega
                  by_cases c2 : 0 < mm
                  · have c2I : (0 : Int) < (mm : Int) := by omega
                    have HK : Hid (k2 = true) := by rw [Hid, HK2.out, decide_eq_true c1, decide_eq_true c2]; rfl
                    clear HK2
                    go_wp2
                    go_meet
                    case rel => exact ⟨by rw [HK.out], HN1⟩
                  · have c2I : ¬ (0 : Int) < (mm : Int) := by omega
                    have HK : Hid (k2 = false) := by rw [Hid, HK2.out, decide_eq_false c2]; simp
                    clear HK2
                    go_wp2
                    go_meet
                    case rel => exact ⟨by rw [HK.out], HN1⟩
                · have c1I : ¬ (0 : Int) < (i : Int) := by omega
                  have HK : Hid (k2 = false) := by rw [Hid, HK2.out, decide_eq_false c1]; rfl
                  clear HK2
                  go_wp2
                  go_meet
                  case rel => exact ⟨by rw [HK.out], HN1⟩
              case rest =>
              obtain ⟨rfl, HN1b⟩ := hcut
              clear HN1
              have HN1 := HN1b
              clear HN1b
              go_upto_if 84 with fail
              go_cut [] from 49 to 132 (fun wx => Hid (NewY wr wx ⟨nm, [], hB, bA, df, vl', sz⟩))
              case first =>
                cases k2 with
                | true =>
                  have HH : Hid (hB = (tb && df)) := by rw [Hid, HHB.out, ← HK2.out]; rfl
                  have k4 := cells_of_block HN1.out.s 4 (.bool df) rfl
                  clear HHB
                  cases tb with
                  | true =>
                    go_wp2_with (first
                      | ((with_reducible refine at_storeT (T := 4) ?_); refine store_v rfl _ _ _ rfl wr.heap.size 2 48 _ (.bool df) [.bool df] #[.string ⟨nm.toArray⟩, .string ⟨#[]⟩, .bool df, .int .i64 bA, .bool df, .int .u64 vl', .int .u64 sz] HN1.out.s rfl rfl rfl bool_sizeY (by intro u hu; rw [List.mem_singleton.1 hu]; rfl) (Nat.le_of_ble_eq_true rfl) (by rfl) ?_))
                    intro w4 hg4 hb4
                    have H4 := hide (HN1.out.set (u := ⟨nm, [], df, bA, df, vl', sz⟩) hg4 hb4)
                    clear HN1 hg4 hb4
                    go_wp2
                    go_meet
                    case rel => rw [HH.out, Bool.true_and]; exact H4
                  | false =>
                    go_wp2_with (first
                      | ((with_reducible refine at_storeT (T := 4) ?_); refine store_v rfl _ _ _ rfl wr.heap.size 2 48 _ (.bool false) [.bool false] #[.string ⟨nm.toArray⟩, .string ⟨#[]⟩, .bool false, .int .i64 bA, .bool df, .int .u64 vl', .int .u64 sz] HN1.out.s rfl rfl rfl bool_sizeY (by intro u hu; rw [List.mem_singleton.1 hu]; rfl) (Nat.le_of_ble_eq_true rfl) (by rfl) ?_))
                    intro w4 hg4 hb4
                    have H4 := hide (HN1.out.set (u := ⟨nm, [], false, bA, df, vl', sz⟩) hg4 hb4)
                    clear HN1 hg4 hb4
                    go_wp2
                    go_meet
                    case rel => rw [HH.out, Bool.false_and]; exact H4
                | false =>
                  have HH : Hid (hB = false) := by rw [Hid, HHB.out, ← HK2.out]; rfl
                  clear HHB
                  go_wp2
                  go_meet
                  case rel => rw [HH.out]; exact HN1
              case rest =>
                have HN2 := hcut
                clear hcut HN1
                -- its version
                go_upto_region 21 with fail
                go_cut [96] from 49 to 132 (fun v96 wx => v96 = .bool k3 ∧ Hid (NewY wr wx ⟨nm, [], hB, bA, df, vl', sz⟩))
                case first =>
                  by_cases c1 : 0 < i
                  · have c1I : (0 : Int) < (i : Int) := by omega
                    by_cases c2 : 1 < mm
                    · have c2I : (1 : Int) < (mm : Int) := by omega
                      have HK : Hid (k3 = true) := by rw [Hid, HK3.out, decide_eq_true c1, decide_eq_true c2]; rfl
                      clear HK3
                      go_wp2
                      go_meet
                      case rel => exact ⟨by rw [HK.out], HN2⟩
                    · have c2I : ¬ (1 : Int) < (mm : Int) := by omega
                      have HK : Hid (k3 = false) := by rw [Hid, HK3.out, decide_eq_false c2]; simp
                      clear HK3
                      go_wp2
                      go_meet
                      case rel => exact ⟨by rw [HK.out], HN2⟩
                  · have c1I : ¬ (0 : Int) < (i : Int) := by omega
                    have HK : Hid (k3 = false) := by rw [Hid, HK3.out, decide_eq_false c1]; rfl
                    clear HK3
                    go_wp2
                    go_meet
                    case rel => exact ⟨by rw [HK.out], HN2⟩
                case rest =>
                obtain ⟨rfl, HN2b⟩ := hcut
                clear HN2
                have HN2 := HN2b
                clear HN2b
                go_upto_if 96 with fail
                go_cut [] from 49 to 132 (fun wx => ∃ t, Hid (pv vs pl i S[i] = some t) ∧ Hid (NewY wr wx t))
                case first =>
                  cases k3 with
                  | true =>
                    obtain ⟨c1, c2⟩ : 0 < i ∧ 1 < mm := by
                      have := HK3.out.symm
                      simpa using this
                    have HA : Hid (bA = bd) := by rw [Hid, HBA.out, if_neg (by omega)]
                    have HP : Hid (pv vs pl i S[i] = match vs.find? (meant mm df) with | none => none | some v => some ⟨nm, v.name, hB, bA, df, vl', sz⟩) := by
                      rw [Hid, HW.out, if_neg (by omega), if_neg (by omega), if_neg (by omega), HA.out, HHB.out, decide_eq_true c1, decide_eq_true (show 0 < mm by omega)]; rfl
                    have HOVr := hide (HOV3.out.below HBi.out)
                    clear HW HBA HHB HK1 HK2 HK3 c1 c2 HM
                    go_wp2
                    go_loopw [19, 20] (fun vf vk wx => ∃ (k : Nat) (fb : Bool) (ver : List UInt8), vk = .int .i64 k ∧ vf = .bool fb ∧ k ≤ ln ∧ Hid (NewY wr wx ⟨nm, ver, hB, bA, df, vl', sz⟩) ∧ Hid (Fnd vs mm df k fb ver))
                      (fun _ vk _ => ln - (intOf vk).toNat)
                    case atStart => exact ⟨0, false, [], rfl, rfl, by omega, HN2, .inl ⟨rfl, rfl, fun j _ hh => absurd hh (by omega)⟩⟩
                    case round =>
                      obtain ⟨k, fb, ver, rfl, rfl, hk, HNK, HF⟩ := hrel
                      by_cases hltk : k < ln
                      · have hltkI : (k : Int) < (ln : Int) := by omega
                        have hkl : k < vs.length := by rw [HLN.out]; exact hltk
                        obtain ⟨g9, rfl, r1, r2, _, z0, z1, z2⟩ := (HOVr.out.below HNK.out.b).at k hkl
                        rw [HLN.out] at r1
                        have k4 := cells_of_block HNK.out.s 4 (.bool df) rfl
                        have HSK := hide (fun hm => HF.out.skip hkl hm)
                        have HTK := hide (fun hm => Fnd.take (n := mm) (d := df) hkl hm)
                        obtain ⟨⟨xn, xm, xf⟩, hx⟩ : ∃ x, vs[k] = x := ⟨_, rfl⟩
                        rw [hx] at z0 z1 z2 HSK HTK
                        simp only at z0 z1 z2
                        unfold txb at z1 z2
                        have k1y := cells_of_block HNK.out.s 1 (.string ⟨ver.toArray⟩) rfl
                        clear hx hkl k1y
                        have HFR := hide (show xf.isEmpty = xf.isEmpty from rfl)
                        clear HFR
                        by_cases hne : xn = mm
                        · subst hne
                          have e1 : ((xn : Int) == (xn : Int)) = true := by simp
                          have hfr : ∃ eb, (xf == []) = eb ∧ xf.isEmpty = eb := by cases xf <;> exact ⟨_, rfl, rfl⟩
                          obtain ⟨eb, he1, he2⟩ := hfr
                          have hmt : meant xn df ⟨xn, xm, xf⟩ = (eb == df) := by unfold meant; simp only [he2, decide_true, Bool.true_and]
                          rw [hmt] at HSK HTK
                          have HNX := hide (Below.refl wr.heap.size wr)
                          clear hmt he2
                          cases hed : (eb == df) with
                          | true =>
                            rw [hed] at HTK
                            go_wp2_with fail
                            go_quiet (fail)
                            have z1' : (wr.drewN nq).cell? ⟨g9, k * 3 + 1, none⟩ = some (.string ⟨xm.toArray⟩) := z1
                            have HNQ := hide (HNK.out.stay (bel_drewN (Below.refl _ _) nq))
                            clear z0 z1 z2 k4 HNK he1 e1
                            go_wp2_with (first
                              | ((with_reducible refine at_storeT (T := 9) ?_); refine store_v rfl _ _ _ rfl _ 1 48 _ (.string ⟨xm.toArray⟩) [.string ⟨xm.toArray⟩] #[.string ⟨nm.toArray⟩, .string ⟨xm.toArray⟩, .bool hB, .int .i64 bA, .bool df, .int .u64 vl', .int .u64 sz] HNQ.out.s rfl rfl rfl str_sizeY (by intro u hu; rw [List.mem_singleton.1 hu]; rfl) (Nat.le_of_ble_eq_true rfl) (by rfl) ?_))
                            intro w4 hg4 hb4
                            have H4 := hide (HNQ.out.set (u := ⟨nm, xm, hB, bA, df, vl', sz⟩) hg4 hb4)
                            clear HNQ hg4 hb4 z1'
                            go_wp2
                            go_roundw
                            case rel => exact ⟨k + 1, true, xm, by go_num, rfl, by omega, H4, HTK.out (by trivial)⟩
                            case measure => simp [intOf]; omega
                          | false =>
                            rw [hed] at HSK
                            go_wp2_with fail
                            go_quiet (fail)
                            have HNQ := hide (HNK.out.stay (bel_drewN (Below.refl _ _) nq))
                            clear z0 z1 z2 k4 HNK he1 e1
                            go_wp2
                            go_roundw
                            case rel => exact ⟨k + 1, fb, ver, by go_num, rfl, by omega, HNQ, HSK.out (by trivial)⟩
                            case measure => simp [intOf]; omega
                        · have e1 : ((xn : Int) == (mm : Int)) = false := by rw [beq_eq_false_iff_ne]; omega
                          have hmt : meant mm df ⟨xn, xm, xf⟩ = false := by unfold meant; simp only; rw [decide_eq_false hne]; rfl
                          rw [hmt] at HSK
                          clear hmt hne
                          go_wp2_with fail
                          go_quiet (fail)
                          have HNQ := hide (HNK.out.stay (bel_drewN (Below.refl _ _) nq))
                          clear z0 z1 z2 k4 HNK e1
                          go_wp2
                          go_roundw
                          case rel => exact ⟨k + 1, fb, ver, by go_num, rfl, by omega, HNQ, HSK.out (by trivial)⟩
                          case measure => simp [intOf]; omega
                      · have hltkI : ¬ (k : Int) < (ln : Int) := by omega
                        have he : k = ln := by omega
                        subst he
                        rcases (show Fnd vs mm df vs.length fb ver by rw [HLN.out]; exact HF.out).done HAP.out with ⟨rfl, hfi⟩ | ⟨rfl, v9, hfi, hvv⟩
                        · have HX2 : Hid (PO = none) := by rw [Hid, HX.out]; exact putL_none _ _ _ i hil (by rw [Nat.zero_add, HP.out, hfi])
                          have HBZ := hide (HB3.out.trans ((HBi.out.trans (HNK.out.b.mono HBi.out.size)).mono HB3.out.size))
                          clear hfi
                          go_wp2
                          go_ret2
                          exact ⟨by rw [HX2.out]; rfl, HBZ.out⟩
                        · have HPV : Hid (pv vs pl i S[i] = some ⟨nm, ver, hB, bA, df, vl', sz⟩) := by rw [Hid, HP.out, hfi, hvv]
                          clear hfi hvv
                          go_wp2
                          go_meet
                          case rel => exact ⟨_, HPV, HNK⟩
                  | false =>
                    have c : ¬ (0 < i ∧ 1 < mm) := fun c => by
                      have := HK3.out
                      rw [decide_eq_true c.1, decide_eq_true c.2] at this
                      cases this
                    have HPV : Hid (pv vs pl i S[i] = some ⟨nm, [], hB, bA, df, vl', sz⟩) := by
                      rw [Hid, HW.out]
                      by_cases c1 : i = 0
                      · rw [if_pos c1, HBA.out, if_neg (by omega), HHB.out, decide_eq_false (show ¬ 0 < i by omega)]; rfl
                      · rw [if_neg c1]
                        by_cases c2 : mm = 0
                        · rw [if_pos c2, HBA.out, HHB.out, decide_eq_false (show ¬ 0 < mm by omega)]
                          cases df with
                          | true => simp [c2, show 0 < i by omega]
                          | false => simp [c2]
                        · rw [if_neg c2, if_pos (by omega), HBA.out, if_neg (by omega), HHB.out, decide_eq_true (show 0 < i by omega), decide_eq_true (show 0 < mm by omega)]; rfl
                    clear HW HBA HHB c
                    go_wp2
                    go_meet
                    case rel => exact ⟨_, HPV, HN2⟩
                case rest =>
                  obtain ⟨t, HPV, HNT⟩ := hcut
                  have HSS := hide (pv_some vs pl S i HS.out hil t HPV.out)
                  have HMX := hide (mixS_snoc (pv vs pl) S i hil)
                  have HGD : Hid ((pv vs pl i S[i]).getD S[i] = t) := by rw [Hid, HPV.out]; rfl
                  have HLL : Hid (((mixS (pv vs pl) 0 i S).take i).length ≤ 1000000) := by rw [Hid, List.length_take, mixS_len, HN.out]; omega
                  have HOZ := hide (HO.out.stay HNT.out.b)
                  have HBZ : Hid (Below W3.heap.size W3 wc) := HBi.out.trans (HNT.out.b.mono HBi.out.size)
                  obtain ⟨tn, tv, th, tbn, td, tvl, tsz⟩ := t
                  clear HN2 HW HBA HHB HM HK1 HK2 HK3
                  go_wp2_with (first
                    | ((with_reducible refine at_loadT (T := 48) ?_); refine load_row rfl _ _ rfl wr.heap.size #[.string ⟨tn.toArray⟩, .string ⟨tv.toArray⟩, .bool th, .int .i64 tbn, .bool td, .int .u64 tvl, .int .u64 tsz] (load_sy HNT.out.s rfl) rfl ?_)
                    | (at_builtin; refine append_sy rfl _ _ rfl W3.heap.size wc _ _ HOZ.out ⟨tn, tv, th, tbn, td, tvl, tsz⟩ rfl _ rfl rfl HLL.out HBZ.out.size ?_))
                  intro v' w9 ho9 hb9
                  have HO9 : Hid (OwnSy w9 W3.heap.size v' ((mixS (pv vs pl) 0 (i + 1) S).take (i + 1))) := by rw [Hid, HMX.out, HGD.out]; exact ho9
                  obtain ⟨a9, c9, rfl⟩ : ∃ a c, v' = .slice a (i + 1) c := by
                    obtain ⟨a, c, e⟩ := HO9.out.form
                    rw [List.length_take, mixS_len, Nat.min_eq_left (by rw [HN.out]; omega)] at e
                    exact ⟨_, _, e⟩
                  have HB9 : Hid (Below W3.heap.size W3 w9) := HBZ.out.trans (hb9)
                  clear ho9 hb9 HOZ HNT HPV
                  go_wp2
                  go_roundw
                  case rel => exact ⟨i + 1, a9, c9, by go_num, rfl, by omega, HB9, HO9, HSS⟩
                  case measure => simp [intOf]; omega
          · have hltI : ¬ (i : Int) < (n : Int) := by omega
            have he : i = n := by omega
            subst he
            have HX2 : Hid (PO = some (mixS (pv vs pl) 0 i S)) := by
              rw [Hid, HX.out, putL_some (pv vs pl) S 0 (fun k hk => by rw [Nat.zero_add]; exact HS.out k hk (by rw [← HN.out]; exact hk)), HN.out]
            have HOO : Hid (OwnSy wr W3.heap.size (.slice oa i oc) (mixS (pv vs pl) 0 i S)) := by
              have := HO.out
              rw [List.take_of_length_le (by rw [mixS_len, HN.out]; exact Nat.le_refl _)] at this
              exact this
            have HLL : Hid ((mixS (pv vs pl) 0 i S).length ≤ 65536) := by rw [Hid, mixS_len, HN.out]; omega
            clear hi hlt
            go_wp2
            go_ret2
            exact ⟨by rw [HX2.out]; exact ⟨_, rfl, HOO.out.arg HLL.out⟩, HB3.out.trans (HBi.out.mono HB3.out.size)⟩
end Go.Proofs.Ytdclofiifcpkkaa
