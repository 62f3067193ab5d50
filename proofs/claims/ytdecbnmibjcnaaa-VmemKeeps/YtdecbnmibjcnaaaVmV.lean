
/-
  A room is taken: Reserve keeps its contract.
-/
import Derived.Test.YtdecbnmibjcnaaaVmU
set_option linter.unusedVariables false
namespace Go.Proofs.Ytdecbnmibjcnaaa
open Go.RowKit Go.PlainAid Go.Sort
/-- A page that isn't there. -/
def blank : Sh := ⟨false, 0, List.replicate 256 0⟩
theorem blank_ok : blank.ok := ⟨by decide, by decide, List.length_replicate⟩
set_option maxRecDepth 100000 in
theorem Try.infoSh : (Try.prog.info? 88).map (fun i => (i.zero, i.size, i.bytes)) = some (some (.agg blank.cells.toArray), 258, 272) := by kernel_rfl
theorem made_sheets (n : Nat) : (madeCells (Value.agg blank.cells.toArray).cells (n * 258)).toList = flatS (List.replicate n blank) := by
  have hb : blank.cells.length = 258 := blank.cells_len blank_ok.len
  have he : ∀ s ∈ List.replicate n blank, s.data.length = 256 := fun s hs => by rw [(List.mem_replicate.1 hs).2]; exact blank_ok.len
  rw [made_list]
  apply List.ext_getElem?
  intro j
  rw [List.getElem?_map]
  by_cases hj : j < n * 258
  · have h1 : j / 258 < n := by omega
    have h2 : j % 258 < 258 := by omega
    have h3 : j = (j / 258) * 258 + j % 258 := by omega
    rw [List.getElem?_range hj]
    have e : (flatS (List.replicate n blank))[j]? = blank.cells[j % 258]? := by
      rw [h3, flatS_get _ he (j / 258) (by simpa using h1) (j % 258) h2, ← h3]
      simp
    rw [e, List.getElem?_eq_getElem (by omega)]
    show some ((blank.cells.toArray)[j % blank.cells.toArray.size]!) = _
    have e2 : blank.cells.toArray.size = 258 := by simpa using hb
    have e3 : j % blank.cells.toArray.size = j % 258 := by rw [e2]
    rw [e3, getElem!_pos _ _ (by omega)]
    simp
  · rw [List.getElem?_eq_none (by simpa using hj), List.getElem?_eq_none (by rw [flatS_len _ he]; simpa using hj)]
    rfl
theorem make_sheets {ops : Array Oper} {rest : List Oper} {o : Oper} {a : Act} {Q : Exit → Act → World → Prop} {w : World} (hgd : o.guard = none) (l c : Operand) (ho : o.op = Op.makeSlice 83 l c)
    (n : Nat) (hn : n ≤ 64) (hl : a.eval l = .int .i64 (n : Int)) (hc : a.eval c = .int .i64 (n : Int))
    (hK : ∀ w', Holds w' w.heap.size 88 (flatS (List.replicate n blank)) → Below w.heap.size w w' → wpList Try.prog ops Q rest (a.put o.dst (.slice (some ⟨w.heap.size, 0, none⟩) n n)) w') : wpList Try.prog ops Q (o :: rest) a w := by
  obtain ⟨i, hi, hz0, hz1, hz2⟩ := info_parts Try.infoSh
  refine wpList_make_full (P := Try.prog) w hgd l c 83 ho w.heap.size 88 i (.agg blank.cells.toArray) 258 Try.underlying83 hi hz0 hz1 .i64 .i64 n n n hl hc rfl rfl (by rw [hz2]; omega) (by unfold maxLen; omega) (Nat.le_refl _) ?_
  intro w' h1 h2
  refine hK w' ?_ ((Below.refl _ w).grown h2 (Nat.le_refl _) (by simp))
  have h3 := Holds.of_own h1
  rw [made_sheets] at h3
  exact h3
/-- Where there is always a gap. -/
theorem gapAt_bound {l : List Rm} (hs : ∀ r ∈ l, r.pages.length ≤ 64) (f n : Nat) : gapAt l f n ≤ f + l.length * (n + 16384) := by
  induction l generalizing f with
  | nil => simp [gapAt]
  | cons r l ih =>
    unfold gapAt
    split
    · omega
    · rename_i h
      have h1 := ih (fun x hx => hs x (List.mem_cons_of_mem _ hx)) (max f r.fin)
      have h2 := hs r List.mem_cons_self
      have h3 : r.fin ≤ f + n + 16384 := by unfold Rm.fin Rm.size; omega
      rw [List.length_cons, Nat.add_mul, Nat.one_mul]
      omega
theorem Sp.ok.gap2 {sp : Sp} (hk : sp.ok) (n : Nat) (hn : n ≤ 64) : gapAt sp.rooms 256 (n * 256) + n * 256 ≤ 1099511627776 := by
  have h1 := gapAt_bound (fun r hr => (hk.each r hr).most) 256 (n * 256)
  have h2 := hk.len
  have h3 : sp.rooms.length * (n * 256 + 16384) ≤ 1024 * 32768 := Nat.mul_le_mul h2 (by omega)
  omega
/-- Where a new room begins. -/
def rvAt (sp : Sp) (h n : Nat) : Nat := if gapAt sp.rooms (startOf h) (n * 256) + n * 256 ≤ 1099511627776 then gapAt sp.rooms (startOf h) (n * 256) else gapAt sp.rooms 256 (n * 256)
/-- What Reserve answers, and the space behind it. -/
def rvE (sp : Sp) (n : Nat) : Nat := if n < 1 ∨ 64 < n then 51 else if sp.budget < used sp.rooms + n then 50 else 0
def rvP (sp : Sp) (h n : Nat) : Nat := if rvE sp n = 0 then rvAt sp h n else 0
def rvR (sp : Sp) (h n blk : Nat) : Rm := ⟨rvAt sp h n, blk, n, List.replicate n blank⟩
def rvS (sp : Sp) (h n blk : Nat) : Sp := if rvE sp n = 0 then { sp with rooms := sp.rooms.take (begun sp.rooms (rvAt sp h n)) ++ rvR sp h n blk :: sp.rooms.drop (begun sp.rooms (rvAt sp h n)) } else sp
theorem startOf_le (h : Nat) : startOf h ≤ 1099511627776 := by unfold startOf; omega
/-- What Reserve leaves. -/
def Took (w : World) (S : Nat) (v : Value) (sp : Sp) (h n : Nat) (w' : World) : Prop := ∃ v' blk, SpAt w' S v' (rvS sp h n blk) ∧ w.heap.size ≤ blk ∧ ∀ g, v'.ownBlock = some g → Same w v.ownBlock g
set_option maxHeartbeats 4000000 in
theorem vm_Reserve_no (w : World) (S : Nat) (v : Value) (sp : Sp) (h : SpAt w S v sp) (hk : sp.ok) (ht n : Nat) (hh : (ht : Int) ≤ 18446744073709551615) (hn : n ≤ 100) (he : n < 1 ∨ 64 < n) :
    Calls Try.prog 31 #[.pointer (some ⟨S, 0, none⟩), .int .u64 ht, .int .i64 n] w fun e w' => e = .returned (.tuple #[.int .u64 (rvP sp ht n), .int .i64 (rvE sp n)]) ∧ Took w S v sp ht n w' ∧ Turn (· ∈ foot S v sp.rooms) w w' := by
  have HE : Hid (rvE sp n = 51 ∧ rvP sp ht n = 0 ∧ ∀ b, rvS sp ht n b = sp) := by
    have e : rvE sp n = 51 := by unfold rvE; rw [if_pos he]
    refine ⟨e, ?_, fun b => ?_⟩
    · unfold rvP; rw [e]; rfl
    · unfold rvS; rw [e]; rfl
  have fin : Took w S v sp ht n w ∧ Turn (· ∈ foot S v sp.rooms) w w := ⟨⟨v, w.heap.size, by rw [HE.out.2.2]; exact h, Nat.le_refl _, fun g hg => .inl hg⟩, Turn.refl _ _⟩
  have HF : Hid (Took w S v sp ht n w ∧ Turn (· ∈ foot S v sp.rooms) w w) := fin
  clear h fin
  rcases he with he | he
  · have h1 : (n : Int) < 1 := by omega
    go_enter Try.func31, Try.ntmps31
    go_wp2
    go_ret2
    exact ⟨by rw [HE.out.1, HE.out.2.1]; rfl, HF.out.1, HF.out.2⟩
  · have h1 : ¬ (n : Int) < 1 := by omega
    have h2 : (64 : Int) < (n : Int) := by omega
    go_enter Try.func31, Try.ntmps31
    go_wp2
    go_ret2
    exact ⟨by rw [HE.out.1, HE.out.2.1]; rfl, HF.out.1, HF.out.2⟩
set_option maxHeartbeats 4000000 in
theorem vm_Reserve (w : World) (S : Nat) (v : Value) (sp : Sp) (h : SpAt w S v sp) (hk : sp.ok) (ht n : Nat) (hh : (ht : Int) ≤ 18446744073709551615) (hn : n ≤ 100) :
    Calls Try.prog 31 #[.pointer (some ⟨S, 0, none⟩), .int .u64 ht, .int .i64 n] w fun e w' => e = .returned (.tuple #[.int .u64 (rvP sp ht n), .int .i64 (rvE sp n)]) ∧ Took w S v sp ht n w' ∧ Turn (· ∈ foot S v sp.rooms) w w' := by
  by_cases he : n < 1 ∨ 64 < n
  · exact vm_Reserve_no w S v sp h hk ht n hh hn he
  · have h1 : ¬ (n : Int) < 1 := by omega
    have h2 : ¬ (64 : Int) < (n : Int) := by omega
    have hu : used sp.rooms ≤ 1024 := by have := hk.use; have := hk.b1; omega
    have hbu := hk.b1
    have HSP : Hid (SpAt w S v sp) := h
    have HU : Hid (∀ W, Below w.heap.size w W → Calls Try.prog 20 #[.pointer (some ⟨S, 0, none⟩)] W fun e w' => e = .returned (.int .i64 (used sp.rooms : Nat)) ∧ Below W.heap.size W w') := fun W hb => vm_Used W S v sp (h.stay hb) hk
    have hc0 := h.c0
    have hlt := h.lt
    by_cases hb : sp.budget < used sp.rooms + n
    · have HE : Hid (rvE sp n = 50 ∧ rvP sp ht n = 0 ∧ ∀ b, rvS sp ht n b = sp) := by
        have e : rvE sp n = 50 := by unfold rvE; rw [if_neg he, if_pos hb]
        refine ⟨e, ?_, fun b => ?_⟩
        · unfold rvP; rw [e]; rfl
        · unfold rvS; rw [e]; rfl
      have hbI : (sp.budget : Int) < (used sp.rooms : Int) + (n : Int) := by omega
      clear h he hb
      generalize used sp.rooms = u at *
      generalize sp.budget = bud at *
      go_enter Try.func31, Try.ntmps31
      go_wp2
      try simp only [List.append_eq, List.cons_append, List.nil_append]
      refine wp_region_quiet_below (by kernel_rfl) (by kernel_rfl) ?_
      have c0 := fun d os => cell_regrown hc0 d os
      repeat (go_big_quiet_step (exact Calls.regrown_of (HU.out _ (below_regrown _ _ _))))
      refine wpQuiet_nil ?_
      intro _ hw'
      obtain ⟨⟨dq, osq⟩, hw''⟩ := hw'
      subst hw''
      clear c0
      go_wp2
      go_ret2
      exact ⟨by rw [HE.out.1, HE.out.2.1]; rfl, ⟨v, _, by rw [HE.out.2.2]; exact HSP.out.stay (below_regrown _ dq osq), Nat.le_refl _, fun g hg => .inl hg⟩, Turn.of_below (below_regrown _ dq osq)⟩
    · have hE : rvE sp n = 0 := by unfold rvE; rw [if_neg he, if_neg hb]
      have HE : Hid (rvE sp n = 0 ∧ rvP sp ht n = rvAt sp ht n) := ⟨hE, by unfold rvP; rw [hE]; rfl⟩
      have hbI : ¬ (sp.budget : Int) < (used sp.rooms : Int) + (n : Int) := by omega
      have hlen : sp.rooms.length ≤ 1023 := by
        have := used_len (fun r hr => (hk.each r hr).one)
        omega
      have HS : Hid (∀ W, Calls Try.prog 41 #[.int .u64 ht] W fun e w' => e = .returned (.int .u64 (startOf ht : Nat)) ∧ W = w') := fun W => vm_start W ht hh
      have HG : Hid (∀ (W : World) (f : Nat), f ≤ 1099511627776 → Below w.heap.size w W → Calls Try.prog 40 #[.pointer (some ⟨S, 0, none⟩), .int .u64 f, .int .u64 ((n * 256 : Nat) : Int)] W fun e w' => e = .returned (gapV sp.rooms f (n * 256)) ∧ Below W.heap.size W w') := fun W f hf hb => vm_gap W S v sp (h.stay hb) hk f (n * 256) hf (by omega)
      have HI : Hid (∀ W1 W2, Below w.heap.size w W1 → Below W1.heap.size W1 W2 → Holds W2 W1.heap.size 88 (flatS (List.replicate n blank)) → Calls Try.prog 42 #[.pointer (some ⟨S, 0, none⟩), .agg #[.int .u64 (rvAt sp ht n), .slice (some ⟨W1.heap.size, 0, none⟩) n n]] W2 fun e w' => e = .returned (.tuple #[]) ∧ Took w S v sp ht n w' ∧ Turn (· ∈ foot S v sp.rooms) w w') := by
        intro W1 W2 b1 b2 hH
        have hB2 : Below w.heap.size w W2 := b1.trans (b2.mono b1.size)
        have := vm_insert W2 S v sp (h.stay hB2) hk (rvR sp ht n W1.heap.size) hlen hH (fun hm => by have h9 : W1.heap.size < w.heap.size := h.foot_lt _ hm; have := b1.size; omega)
        have esl : (rvR sp ht n W1.heap.size).sl = .slice (some ⟨W1.heap.size, 0, none⟩) n n := by unfold rvR Rm.sl; simp
        rw [esl] at this
        refine this.mono ?_
        rintro e w' ⟨rfl, ⟨v', h3, h4⟩, h5⟩
        refine ⟨rfl, ⟨v', W1.heap.size, ?_, b1.size, fun g hg => ?_⟩, (Turn.of_below hB2).trans h5⟩
        · unfold rvS; rw [hE]; exact h3
        · rcases h4 g hg with e | e
          · exact .inl e
          · exact .inr (Nat.le_trans hB2.size e)
      have hst := startOf_le ht
      have hgap2 := hk.gap2 n (by omega)
      have hw3 : (n : Int) * 256 = ((n * 256 : Nat) : Int) := by omega
      clear h he hb hE hk
      have hcase : (gapAt sp.rooms (startOf ht) (n * 256) + n * 256 ≤ 1099511627776 ∧ Hid (rvAt sp ht n = gapAt sp.rooms (startOf ht) (n * 256))) ∨ (¬ gapAt sp.rooms (startOf ht) (n * 256) + n * 256 ≤ 1099511627776 ∧ Hid (rvAt sp ht n = gapAt sp.rooms 256 (n * 256))) := by
        by_cases hc : gapAt sp.rooms (startOf ht) (n * 256) + n * 256 ≤ 1099511627776
        · exact .inl ⟨hc, by unfold Hid rvAt; rw [if_pos hc]⟩
        · exact .inr ⟨hc, by unfold Hid rvAt; rw [if_neg hc]⟩
      have HG1 : Hid (∀ W, Below w.heap.size w W → Calls Try.prog 40 #[.pointer (some ⟨S, 0, none⟩), .int .u64 (startOf ht), .int .u64 ((n * 256 : Nat) : Int)] W fun e w' => e = .returned (gapV sp.rooms (startOf ht) (n * 256)) ∧ Below W.heap.size W w') := fun W hb => HG.out W _ hst hb
      have HG2 : Hid (∀ W, Below w.heap.size w W → Calls Try.prog 40 #[.pointer (some ⟨S, 0, none⟩), .int .u64 256, .int .u64 ((n * 256 : Nat) : Int)] W fun e w' => e = .returned (.tuple #[.int .u64 (gapAt sp.rooms 256 (n * 256) : Nat), .bool true]) ∧ Below W.heap.size W w') := fun W hb => by
        have := HG.out W 256 (by omega) hb
        rw [gapV_yes hgap2] at this
        exact this
      clear HG
      generalize startOf ht = st at *
      generalize used sp.rooms = u at *
      generalize sp.budget = bud at *
      generalize rvP sp ht n = P at *
      generalize rvE sp n = E at *
      obtain ⟨rfl, rfl⟩ := HE
      rcases hcase with ⟨hc, HAT⟩ | ⟨hc, HAT⟩
      · rw [gapV_yes hc] at HG1
        rw [HAT.out] at HI ⊢
        generalize gapAt sp.rooms st (n * 256) = at1 at *
        generalize gapAt sp.rooms 256 (n * 256) = at2 at *
        simp only [← hw3] at HG1 HG2
        clear hc hgap2 HAT hw3
        go_enter Try.func31, Try.ntmps31
        go_wp2
        try simp only [List.append_eq, List.cons_append, List.nil_append]
        refine wp_region_quiet_below (by kernel_rfl) (by kernel_rfl) ?_
        have c0 := fun d os => cell_regrown hc0 d os
        repeat (go_big_quiet_step (exact Calls.regrown_of (HU.out _ (below_regrown _ _ _))))
        refine wpQuiet_nil ?_
        intro _ hw'
        obtain ⟨⟨dq, osq⟩, hw''⟩ := hw'
        subst hw''
        have HB1 : Hid (Below w.heap.size w (grow (redrawn w dq) osq)) := below_regrown _ dq osq
        clear c0 hc0
        generalize grow (redrawn w dq) osq = W1 at *
        go_wp2_with (first | (go_at_call 41; refine (HS.out _).mono ?_; rintro e w' ⟨rfl, hw⟩; rw [← hw]; clear hw) | (go_at_call 40; refine (HG1.out _ HB1.out).mono ?_; rintro e W2 ⟨rfl, b2⟩; have HB2 : Hid (Below w.heap.size w W2) := HB1.out.trans (b2.mono HB1.out.size); clear b2) | (refine make_sheets rfl _ _ rfl n (by omega) rfl rfl ?_; intro W3 h3 b3; have H3 : Hid (Holds W3 W2.heap.size 88 (flatS (List.replicate n blank))) := h3; have HB3 : Hid (Below W2.heap.size W2 W3) := b3; clear h3 b3) | (go_at_call 42; refine (HI.out _ _ HB2.out HB3.out H3.out).mono ?_; rintro e W4 ⟨rfl, t1, t2⟩; have T1 : Hid (Took w S v sp ht n W4) := t1; have T2 : Hid (Turn (· ∈ foot S v sp.rooms) w W4) := t2; clear t1 t2))
        go_ret2
        exact ⟨rfl, T1.out, T2.out⟩
      · rw [gapV_no hc] at HG1
        rw [HAT.out] at HI ⊢
        generalize gapAt sp.rooms st (n * 256) = at1 at *
        generalize gapAt sp.rooms 256 (n * 256) = at2 at *
        simp only [← hw3] at HG1 HG2
        clear hc hgap2 HAT hw3
        go_enter Try.func31, Try.ntmps31
        go_wp2
        try simp only [List.append_eq, List.cons_append, List.nil_append]
        refine wp_region_quiet_below (by kernel_rfl) (by kernel_rfl) ?_
        have c0 := fun d os => cell_regrown hc0 d os
        repeat (go_big_quiet_step (exact Calls.regrown_of (HU.out _ (below_regrown _ _ _))))
        refine wpQuiet_nil ?_
        intro _ hw'
        obtain ⟨⟨dq, osq⟩, hw''⟩ := hw'
        subst hw''
        have HB1 : Hid (Below w.heap.size w (grow (redrawn w dq) osq)) := below_regrown _ dq osq
        clear c0 hc0
        generalize grow (redrawn w dq) osq = W1 at *
        go_wp2_with (first | (go_at_call 41; refine (HS.out _).mono ?_; rintro e w' ⟨rfl, hw⟩; rw [← hw]; clear hw))
        refine (HG1.out _ HB1.out).mono ?_
        rintro e W2 ⟨rfl, b2⟩
        have HB2 : Hid (Below w.heap.size w W2) := HB1.out.trans (b2.mono HB1.out.size)
        clear b2
        go_wp2_with fail
        refine (HG2.out _ HB2.out).mono ?_
        rintro e W5 ⟨rfl, b2⟩
        have HB5 : Hid (Below w.heap.size w W5) := HB2.out.trans (b2.mono HB2.out.size)
        clear b2
        go_wp2_with (first | (refine make_sheets rfl _ _ rfl n (by omega) rfl rfl ?_; intro W3 h3 b3; have H3 : Hid (Holds W3 W5.heap.size 88 (flatS (List.replicate n blank))) := h3; have HB3 : Hid (Below W5.heap.size W5 W3) := b3; clear h3 b3) | (go_at_call 42; refine (HI.out _ _ HB5.out HB3.out H3.out).mono ?_; rintro e W4 ⟨rfl, t1, t2⟩; have T1 : Hid (Took w S v sp ht n W4) := t1; have T2 : Hid (Turn (· ∈ foot S v sp.rooms) w W4) := t2; clear t1 t2))
        go_ret2
        exact ⟨rfl, T1.out, T2.out⟩
end Go.Proofs.Ytdecbnmibjcnaaa
