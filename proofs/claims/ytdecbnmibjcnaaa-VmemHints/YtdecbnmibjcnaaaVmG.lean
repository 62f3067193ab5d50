
/-
  slices.ContainsFunc over sheets; present and allowed keep their contracts.
-/
import Derived.Test.YtdecbnmibjcnaaaVmF
set_option linter.unusedVariables false
namespace Go.Proofs.Ytdecbnmibjcnaaa
open Go.RowKit Go.PlainAid Go.Sort
set_option maxHeartbeats 1000000 in
theorem lib_ContainsFunc (w : World) (G : Nat) (cb : Array Value) (p : Sh → Bool) (eg : ∀ args w, (callFunc G args).run Try.prog w = .ok (.enter G args) w) (g o cap : Nat) (zs : List Sh)
    (hz : ∀ s ∈ zs, s.data.length = 256) (hl : zs.length ≤ 1024) (hg : g < w.heap.size) (hc : ∀ i (h : i < zs.length), w.rangeAt g (o + i * 258) zs[i].cells)
    (hf : ∀ (W : World) (s : Sh), s ∈ zs → Below w.heap.size w W → Calls Try.prog G (#[.agg s.cells.toArray] ++ cb) W fun e w' => e = .returned (.bool (p s)) ∧ Below w.heap.size w w') :
    Calls Try.prog 45 #[.slice (some ⟨g, o, none⟩) zs.length cap, .func (.func G) #[] cb] w fun e w' => e = .returned (.bool (zs.any p)) ∧ Below w.heap.size w w' := by
  have hI := lib_IndexFunc w G cb p eg g o cap zs hz hl hg hc hf
  clear hf hc hz
  go_enter Try.func45, Try.ntmps45
  go_wp2_with (go_at_call 55; refine hI.mono ?_; rintro e w1 ⟨⟨k, rfl, hk⟩, hb⟩; have HK : Hid _ := hk; clear hk)
  go_ret
  exact ⟨by rw [← HK.out]; rfl, hb⟩
set_option maxHeartbeats 1000000 in
theorem lib_ContainsNil (w : World) (f : Value) :
    Calls Try.prog 45 #[.slice none 0 0, f] w fun e w' => e = .returned (.bool false) ∧ Below w.heap.size w w' := by
  have hI : Calls Try.prog 55 #[.slice none 0 0, f] w fun e w' => e = .returned (.int .i64 (-1)) ∧ w = w' := by
    go_enter Try.func55, Try.ntmps55
    go_wp2
    go_loopw [5, 8] (fun _ vi wr => vi = .int .i64 0 ∧ wr = w) (fun _ _ _ => 0)
    case atStart => exact ⟨rfl, rfl⟩
    case round =>
      obtain ⟨rfl, rfl⟩ := hrel
      go_wp2
      go_ret
      exact ⟨rfl, rfl⟩
  go_enter Try.func45, Try.ntmps45
  go_wp2_with (go_at_call 55; refine hI.mono ?_; rintro e w1 ⟨rfl, rfl⟩)
  go_ret
  exact ⟨rfl, Below.refl _ _⟩
/-- The pages that so many bytes touch. -/
def Rm.cut (r : Rm) (a n : Nat) : List Sh := (r.pages.drop (r.lo a)).take (r.hi a n - r.lo a)
/-- What present and allowed find: an error, or no pages, or those of a room. -/
def got (l : List Rm) (a n : Nat) (t : Option Nat) : Except Nat (Option Rm) := match hit l a n with
  | none => .error 52
  | some r => if n = 0 then .ok none else if (r.cut a n).any (fun s => !s.there) then .error 52 else match t with
    | none => .ok (some r)
    | some t => if (r.cut a n).any (lacks t) then .error 54 else .ok (some r)
def gotV (a n : Nat) : Except Nat (Option Rm) → Value
  | .error e => .tuple #[.slice none 0 0, .int .i64 e]
  | .ok none => .tuple #[.slice none 0 0, .int .i64 0]
  | .ok (some r) => .tuple #[r.seg (r.lo a) (r.hi a n), .int .i64 0]
/-- What is known of the room in which bytes lie. -/
structure HitIs (l : List Rm) (a n : Nat) (r : Rm) (b : Nat) : Prop where
  lt : b < l.length
  eq : l[b]? = some r
  low : r.pos ≤ a
  top : a + n ≤ r.fin
  bg : begun l a = b + 1
theorem hit_is {l : List Rm} {a n : Nat} {r : Rm} (h : hit l a n = some r) : ∃ b, HitIs l a n r b := by
  by_cases hb : begun l a = 0
  · rw [hit_begun0 hb] at h; cases h
  · have hle := begun_le l a
    obtain ⟨b, hb2⟩ : ∃ b, begun l a = b + 1 := ⟨begun l a - 1, by omega⟩
    rw [hit_at' hb2 (by omega)] at h
    split at h
    · rename_i h1
      injection h with h
      subst h
      exact ⟨b, by omega, List.getElem?_eq_getElem (by omega), begun_lo l a b (by omega) (by omega), h1, hb2⟩
    · cases h
theorem HitIs.mem {l : List Rm} {a n : Nat} {r : Rm} {b : Nat} (h : HitIs l a n r b) : r ∈ l := List.mem_of_getElem? h.eq
theorem Rm.lo_hi {r : Rm} {a n : Nat} (h1 : r.pos ≤ a) (h2 : a + n ≤ r.fin) (hn : n ≠ 0) : r.lo a < r.hi a n ∧ r.hi a n ≤ r.pages.length := by
  unfold Rm.lo Rm.hi
  unfold Rm.fin Rm.size at h2
  omega
theorem Rm.cut_len {r : Rm} {a n : Nat} (h1 : r.pos ≤ a) (h2 : a + n ≤ r.fin) (hn : n ≠ 0) : (r.cut a n).length = r.hi a n - r.lo a := by
  have := Rm.lo_hi h1 h2 hn
  unfold Rm.cut
  rw [List.length_take, List.length_drop]; omega
theorem Rm.cut_mem {r : Rm} {a n : Nat} {s : Sh} (h : s ∈ r.cut a n) : s ∈ r.pages := List.mem_of_mem_drop (List.mem_of_mem_take h)
theorem Rm.cut_get {r : Rm} {a n i : Nat} (h : i < (r.cut a n).length) (h2 : r.lo a + i < r.pages.length) : (r.cut a n)[i] = r.pages[r.lo a + i] := by
  have h3 : (r.cut a n)[i]? = r.pages[r.lo a + i]? := by
    have : i < r.hi a n - r.lo a := by have := h; unfold Rm.cut at this; rw [List.length_take] at this; omega
    unfold Rm.cut; rw [List.getElem?_take_of_lt this, List.getElem?_drop]
  rw [List.getElem?_eq_getElem h, List.getElem?_eq_getElem h2] at h3
  exact Option.some_inj.1 h3
theorem SpAt.cutRange {w : World} {S : Nat} {v : Value} {sp : Sp} (h : SpAt w S v sp) (hk : sp.ok) {r : Rm} (hr : r ∈ sp.rooms) {a n : Nat} (h1 : r.pos ≤ a) (h2 : a + n ≤ r.fin) (hn : n ≠ 0) :
    ∀ i (hi : i < (r.cut a n).length), w.rangeAt r.blk (r.lo a * 258 + i * 258) (r.cut a n)[i].cells := fun i hi => by
  have e1 := Rm.lo_hi h1 h2 hn
  have e2 := Rm.cut_len h1 h2 hn
  rw [Rm.cut_get hi (by omega), show r.lo a * 258 + i * 258 = (r.lo a + i) * 258 by omega]
  exact (h.pgs r hr).sheet (fun s hs => ((hk.each r hr).each s hs).len) _ (by omega)
theorem SpAt.stay {w w' : World} {S : Nat} {v : Value} {sp : Sp} (h : SpAt w S v sp) (hb : Below w.heap.size w w') : SpAt w' S v sp := by
  refine ⟨by rw [hb.block S h.lt]; exact h.head, ?_, fun r hr => (h.pgs r hr).stay hb, h.nod⟩
  refine ⟨h.row.1, ?_⟩
  rcases h.row.2 with h1 | ⟨g, cap, cur, rfl, h2, hg, h3⟩
  · exact .inl h1
  · exact .inr ⟨g, cap, cur, rfl, h2, by rw [hb.block g (Array.getElem?_eq_some_iff.1 hg).1]; exact hg, h3⟩
set_option maxHeartbeats 2000000 in
theorem vm_present (w : World) (S : Nat) (v : Value) (sp : Sp) (h : SpAt w S v sp) (hk : sp.ok) (a n : Nat) (ha : (a : Int) ≤ 18446744073709551615) (hn : (n : Int) ≤ 18446744073709551615) :
    Calls Try.prog 47 #[.pointer (some ⟨S, 0, none⟩), .int .u64 a, .int .u64 n] w fun e w' => e = .returned (gotV a n (got sp.rooms a n none)) ∧ Below w.heap.size w w' := by
  have hT := vm_touched w S v sp h hk a n ha hn
  cases hh : hit sp.rooms a n with
  | none =>
    have HV : Hid (got sp.rooms a n none = .error 52) := by unfold Hid got; rw [hh]
    rw [touV_none hh] at hT
    clear hh
    go_enter Try.func47, Try.ntmps47
    go_wp2_with (go_at_call 44; refine hT.mono ?_; rintro e w1 ⟨rfl, hb⟩)
    go_ret2
    exact ⟨by rw [HV.out]; rfl, hb⟩
  | some r =>
    by_cases hz : n = 0
    · subst hz
      have HV : Hid (got sp.rooms a 0 none = .ok none) := by unfold Hid got; rw [hh]; rfl
      rw [touV_zero hh] at hT
      clear hh
      go_enter Try.func47, Try.ntmps47
      go_wp2_with (first | (go_at_call 44; refine hT.mono ?_; rintro e w1 ⟨rfl, hb⟩; clear hT) | (go_at_call 45; refine (lib_ContainsNil _ _).mono ?_; rintro e w2 ⟨rfl, hb2⟩))
      go_ret2
      exact ⟨by rw [HV.out]; rfl, hb.trans (hb2.mono hb.size)⟩
    · obtain ⟨b, hi⟩ := hit_is hh
      have hr := hi.mem
      have hlen := Rm.cut_len hi.low hi.top hz
      have hlh := Rm.lo_hi hi.low hi.top hz
      have hro := hk.each r hr
      have hmost := hro.most
      rw [touV_some hh hz] at hT
      have HC : Hid (∀ w1, Below w.heap.size w w1 → Calls Try.prog 45 #[.slice (some ⟨r.blk, r.lo a * 258, none⟩) (r.hi a n - r.lo a) (r.cap - r.lo a), .func (.func 56) #[] #[]] w1 fun e w' => e = .returned (.bool ((r.cut a n).any (fun s => !s.there))) ∧ Below w1.heap.size w1 w') := fun w1 hb => by
        have := lib_ContainsFunc w1 56 #[] (fun s => !s.there) (enters_of Try.func56 (by kernel_rfl) rfl) r.blk (r.lo a * 258) (r.cap - r.lo a) (r.cut a n)
          (fun s hs => (hro.each s (Rm.cut_mem hs)).len) (by omega) (Nat.lt_of_lt_of_le (h.pgs r hr).lt hb.size) ((h.stay hb).cutRange hk hr hi.low hi.top hz)
          (fun W s _ hW => (vm_present1 W s).mono fun e w' ⟨h1, h2⟩ => ⟨h1, hW.trans (h2.mono hW.size)⟩)
        rw [hlen] at this
        exact this
      have HV : Hid (got sp.rooms a n none = if (r.cut a n).any (fun s => !s.there) then .error 52 else .ok (some r)) := by unfold Hid got; rw [hh]; simp [hz]
      unfold Rm.seg at hT
      clear hlen hlh hro hmost h hk hi
      cases hany : (r.cut a n).any (fun s => !s.there) with
      | true =>
        rw [hany] at HV HC
        clear hany hh hr
        go_enter Try.func47, Try.ntmps47
        go_wp2_with (first | (go_at_call 44; refine hT.mono ?_; rintro e w1 ⟨rfl, hb⟩; clear hT) | (go_at_call 45; refine (HC.out _ hb).mono ?_; rintro e w2 ⟨rfl, hb2⟩))
        go_ret2
        exact ⟨by rw [HV.out]; rfl, hb.trans (hb2.mono hb.size)⟩
      | false =>
        rw [hany] at HV HC
        clear hany hh hr
        go_enter Try.func47, Try.ntmps47
        go_wp2_with (first | (go_at_call 44; refine hT.mono ?_; rintro e w1 ⟨rfl, hb⟩; clear hT) | (go_at_call 45; refine (HC.out _ hb).mono ?_; rintro e w2 ⟨rfl, hb2⟩))
        go_ret2
        exact ⟨by rw [HV.out]; rfl, hb.trans (hb2.mono hb.size)⟩
set_option maxHeartbeats 2000000 in
theorem vm_allowed (w : World) (S : Nat) (v : Value) (sp : Sp) (h : SpAt w S v sp) (hk : sp.ok) (a n t : Nat) (ha : (a : Int) ≤ 18446744073709551615) (hn : (n : Int) ≤ 18446744073709551615) (ht : t = 4 ∨ t = 2) :
    Calls Try.prog 38 #[.pointer (some ⟨S, 0, none⟩), .int .u64 a, .int .u64 n, .int .i64 t] w fun e w' => e = .returned (gotV a n (got sp.rooms a n (some t))) ∧ Below w.heap.size w w' := by
  have hB0 : Below w.heap.size w (w.alloc (.cells #[.int .i64 t] 3)) := (Below.refl _ w).alloc (Nat.le_refl _) _
  have hP := vm_present (w.alloc (.cells #[.int .i64 t] 3)) S v sp (h.stay hB0) hk a n ha hn
  have HB0 : Hid _ := hB0
  have HS : Hid (w.heap.size ≤ (w.alloc (.cells #[.int .i64 t] 3)).heap.size) := hB0.size
  cases hg : got sp.rooms a n none with
  | error e0 =>
    have HV : Hid (got sp.rooms a n (some t) = .error e0 ∧ e0 = 52) := by
      unfold got at hg ⊢
      cases hh : hit sp.rooms a n with
      | none => rw [hh] at hg; simp at hg; simp [← hg, Hid]
      | some r =>
        rw [hh] at hg
        simp only at hg ⊢
        by_cases hz : n = 0
        · simp [hz] at hg
        · rw [if_neg hz] at hg ⊢
          cases hany : (r.cut a n).any (fun s => !s.there) with
          | true => simp [hany] at hg; simp [← hg, Hid]
          | false => simp [hany] at hg
    rw [hg] at hP
    obtain ⟨h1, rfl⟩ := HV
    have HV : Hid _ := h1
    clear h1 hg hB0
    unfold gotV at hP
    go_enter Try.func38, Try.ntmps38
    go_wp2_with (go_at_call 47; refine hP.mono ?_; rintro e w1 ⟨rfl, hb⟩)
    go_ret2
    exact ⟨by rw [HV.out]; rfl, HB0.out.trans (hb.mono HS.out)⟩
  | ok o =>
    cases o with
    | none =>
      have HV : Hid (got sp.rooms a n (some t) = .ok none) := by
        unfold got at hg ⊢
        cases hh : hit sp.rooms a n with
        | none => rw [hh] at hg; simp at hg
        | some r =>
          rw [hh] at hg
          by_cases hz : n = 0
          · simp [hz, Hid]
          · simp [hz] at hg
            split at hg <;> simp at hg
      rw [hg] at hP
      clear hg hB0
      unfold gotV at hP
      go_enter Try.func38, Try.ntmps38
      go_wp2_with (first | (go_at_call 47; refine hP.mono ?_; rintro e w1 ⟨rfl, hb⟩; clear hP) | (go_at_call 45; refine (lib_ContainsNil _ _).mono ?_; rintro e w2 ⟨rfl, hb2⟩))
      go_ret2
      exact ⟨by rw [HV.out]; rfl, (HB0.out.trans (hb.mono HS.out)).trans (hb2.mono (Nat.le_trans HS.out hb.size))⟩
    | some r =>
      have HV : Hid (got sp.rooms a n (some t) = (if (r.cut a n).any (lacks t) then .error 54 else .ok (some r)) ∧ hit sp.rooms a n = some r ∧ n ≠ 0) := by
        unfold got at hg ⊢
        cases hh : hit sp.rooms a n with
        | none => rw [hh] at hg; simp at hg
        | some r' =>
          rw [hh] at hg
          by_cases hz : n = 0
          · simp [hz] at hg
          · simp only [if_neg hz] at hg ⊢
            cases hany : (r'.cut a n).any (fun s => !s.there) with
            | true => simp [hany] at hg
            | false => simp [hany] at hg; subst hg; simp [Hid, hz]
      obtain ⟨h1, hh, hz⟩ := HV
      have HV : Hid _ := h1
      obtain ⟨b, hi⟩ := hit_is hh
      have hr := hi.mem
      have hlen := Rm.cut_len hi.low hi.top hz
      have hlh := Rm.lo_hi hi.low hi.top hz
      have hro := hk.each r hr
      have hmost := hro.most
      have HC : Hid (∀ w1, Below (w.alloc (.cells #[.int .i64 t] 3)).heap.size (w.alloc (.cells #[.int .i64 t] 3)) w1 → Calls Try.prog 45 #[.slice (some ⟨r.blk, r.lo a * 258, none⟩) (r.hi a n - r.lo a) (r.cap - r.lo a), .func (.func 50) #[] #[.pointer (some ⟨w.heap.size, 0, none⟩)]] w1 fun e w' => e = .returned (.bool ((r.cut a n).any (lacks t))) ∧ Below w1.heap.size w1 w') := fun w1 hb => by
        have hsp1 := (h.stay hB0).stay hb
        have hcell : w1.cell? ⟨w.heap.size, 0, none⟩ = some (.int .i64 t) := by rw [hb.cell (by simp)]; simp
        have hlt1 : w.heap.size < w1.heap.size := World.block_lt_of_cell? _ _ hcell
        have := lib_ContainsFunc w1 50 #[.pointer (some ⟨w.heap.size, 0, none⟩)] (lacks t) (enters_of Try.func50 (by kernel_rfl) rfl) r.blk (r.lo a * 258) (r.cap - r.lo a) (r.cut a n)
          (fun s hs => (hro.each s (Rm.cut_mem hs)).len) (by omega) (hsp1.pgs r hr).lt (hsp1.cutRange hk hr hi.low hi.top hz)
          (fun W s hs hW => (vm_allowed1 W s (hro.each s (Rm.cut_mem hs)) _ t ht (by rw [hW.cell hlt1]; exact hcell)).mono fun e w' ⟨h1, h2⟩ => ⟨h1, hW.trans (h2.mono hW.size)⟩)
        rw [hlen] at this
        exact this
      rw [hg] at hP
      unfold gotV Rm.seg at hP
      clear hlen hlh hro hmost h hk hi h1 hg hB0
      cases hany : (r.cut a n).any (lacks t) with
      | true =>
        rw [hany] at HV HC
        clear hany hh hr
        go_enter Try.func38, Try.ntmps38
        go_wp2_with (first | (go_at_call 47; refine hP.mono ?_; rintro e w1 ⟨rfl, hb⟩; clear hP) | (go_at_call 45; refine (HC.out _ hb).mono ?_; rintro e w2 ⟨rfl, hb2⟩))
        go_ret2
        exact ⟨by rw [HV.out]; rfl, (HB0.out.trans (hb.mono HS.out)).trans (hb2.mono (Nat.le_trans HS.out hb.size))⟩
      | false =>
        rw [hany] at HV HC
        clear hany hh hr
        go_enter Try.func38, Try.ntmps38
        go_wp2_with (first | (go_at_call 47; refine hP.mono ?_; rintro e w1 ⟨rfl, hb⟩; clear hP) | (go_at_call 45; refine (HC.out _ hb).mono ?_; rintro e w2 ⟨rfl, hb2⟩))
        go_ret2
        exact ⟨by rw [HV.out]; rfl, (HB0.out.trans (hb.mono HS.out)).trans (hb2.mono (Nat.le_trans HS.out hb.size))⟩
end Go.Proofs.Ytdecbnmibjcnaaa
