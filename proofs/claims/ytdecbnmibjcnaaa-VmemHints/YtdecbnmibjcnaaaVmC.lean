
/-
  How many rooms begin at a place or ahead of it (sort.Search over the rooms).
-/
import Derived.Test.YtdecbnmibjcnaaaVmB
import Derived.Shelf.Abstract
set_option linter.unusedVariables false
namespace Go.Proofs.Ytdecbnmibjcnaaa
open Go.RowKit Go.PlainAid
set_option maxHeartbeats 4000000 in
theorem lib_Search (w : World) (G : Nat) (cb : Array Value) (n cnt : Nat) (p : Nat → Bool) (eg : ∀ args w, (callFunc G args).run Try.prog w = .ok (.enter G args) w) (hsz : n ≤ 1024) (hc : cnt ≤ n)
    (hlo : ∀ i, i < cnt → p i = false) (hhi : ∀ i, cnt ≤ i → i < n → p i = true)
    (hf : ∀ (W : World) (i : Nat), i < n → Below w.heap.size w W → Calls Try.prog G (#[.int .i64 i] ++ cb) W fun e w' => e = .returned (.bool (p i)) ∧ Below w.heap.size w w') :
    Calls Try.prog 57 #[.int .i64 n, .func (.func G) #[] cb] w fun e w' => e = .returned (.int .i64 cnt) ∧ Below w.heap.size w w' := by
  have HF : Hid _ := hf
  have HL : Hid _ := hlo
  have HH : Hid _ := hhi
  clear hf hlo hhi
  go_enter Try.func57, Try.ntmps57
  go_wp2
  go_loopw [5, 6] (fun v5 v6 wr => ∃ (lo hi : Nat), v5 = .int .i64 lo ∧ v6 = .int .i64 hi ∧ lo ≤ cnt ∧ cnt ≤ hi ∧ hi ≤ n ∧ Hid (Below w.heap.size w wr)) (fun v5 v6 _ => (intOf v6).toNat - (intOf v5).toNat)
  case atStart => exact ⟨0, n, rfl, rfl, by omega, hc, by omega, Below.refl _ _⟩
  case round =>
    obtain ⟨lo, hi, rfl, rfl, h1, h2, h3, HB⟩ := hrel
    by_cases hlt : lo < hi
    · have hltI : (lo : Int) < (hi : Int) := by omega
      have hcall := HF.out wr ((lo + hi) / 2) (by omega) HB.out
      rw [show (((lo + hi) / 2 : Nat) : Int) = ((lo : Int) + (hi : Int)) / 2 by omega] at hcall
      by_cases hm : (lo + hi) / 2 < cnt
      · rw [HL.out _ hm] at hcall
        go_wp2_with (go_at_fn G; refine hcall.mono ?_; rintro e w1 ⟨rfl, hb⟩)
        go_roundw
        case rel => exact ⟨(lo + hi) / 2 + 1, hi, by rw [show ((lo : Int) + (hi : Int)) / 2 + 1 = (((lo + hi) / 2 + 1 : Nat) : Int) by omega], rfl, by omega, h2, h3, hb⟩
        case measure => simp [intOf]; omega
      · rw [HH.out _ (by omega) (by omega)] at hcall
        go_wp2_with (go_at_fn G; refine hcall.mono ?_; rintro e w1 ⟨rfl, hb⟩)
        go_roundw
        case rel => exact ⟨lo, (lo + hi) / 2, rfl, by rw [show ((lo : Int) + (hi : Int)) / 2 = (((lo + hi) / 2 : Nat) : Int) by omega], h1, by omega, by omega, hb⟩
        case measure => simp [intOf]; omega
    · have hltI : ¬ (lo : Int) < (hi : Int) := by omega
      obtain rfl : cnt = lo := by omega
      go_wp2
      go_ret
      exact ⟨rfl, HB.out⟩
set_option maxHeartbeats 2000000 in
theorem vm_begun1 (W : World) (S : Nat) (v : Value) (l : List Rm) (n g cap : Nat) (ht : Told W S v l n g cap) (hn : n = l.length) (B1 B2 : Nat) (a : Nat) (hb1 : W.cell? ⟨B1, 0, none⟩ = some (.pointer (some ⟨S, 0, none⟩))) (hb2 : W.cell? ⟨B2, 0, none⟩ = some (.int .u64 a)) (i : Nat) (hi : i < l.length) :
    Calls Try.prog 58 #[.int .i64 i, .pointer (some ⟨B1, 0, none⟩), .pointer (some ⟨B2, 0, none⟩)] W fun e w' => e = .returned (.bool (decide (a < l[i].pos))) ∧ Below W.heap.size W w' := by
  obtain ⟨hc1, hlt, rfl, hglt, hn0, hcap1, hat0, hat1⟩ := ht
  have e0 := hat0 i hi
  have hii : (i : Int) < (n : Int) := by omega
  have hcap : cap ≤ 9223372036854775807 := by unfold maxLen at hcap1; omega
  clear hat0 hat1
  generalize l[i].pos = p at *
  go_enter Try.func58, Try.ntmps58
  go_wp2
  go_quiet (fail)
  all_goals go_wp2
  go_ret
  exact ⟨rfl, rfl, rfl, rfl, Nat.le_refl _, fun _ _ => rfl⟩
theorem begun_le (l : List Rm) (a : Nat) : begun l a ≤ l.length := by
  induction l with
  | nil => simp [begun]
  | cons r l ih => unfold begun; split <;> simp <;> omega
theorem begun_lo (l : List Rm) (a i : Nat) (h : i < begun l a) (hi : i < l.length) : l[i].pos ≤ a := by
  induction l generalizing i with
  | nil => simp at hi
  | cons r l ih =>
    unfold begun at h
    split at h
    · rename_i hr
      cases i with
      | zero => exact hr
      | succ i => exact ih i (by omega) (by simpa using hi)
    · omega
theorem begun_hi (l : List Rm) (hs : l.Pairwise (fun a b => a.fin ≤ b.pos)) (a i : Nat) (h : begun l a ≤ i) (hi : i < l.length) : a < l[i].pos := by
  induction l generalizing i with
  | nil => simp at hi
  | cons r l ih =>
    unfold begun at h
    split at h
    · cases i with
      | zero => omega
      | succ i => exact ih (List.pairwise_cons.1 hs).2 i (by omega) (by simpa using hi)
    · rename_i hr
      cases i with
      | zero => simp; omega
      | succ i =>
        have hi2 : i < l.length := by simpa using hi
        have := (List.pairwise_cons.1 hs).1 l[i] (List.getElem_mem hi2)
        unfold Rm.fin at this
        simp; omega
theorem Told.stay' {w w' : World} {S : Nat} {v : Value} {l : List Rm} {n g cap : Nat} (h : Told w S v l n g cap) {B : Nat} (hB : w.heap.size ≤ B) (hb : Below B w w') : Told w' S v l n g cap := h.stay (hb.mono hB)
set_option maxHeartbeats 2000000 in
theorem vm_begun (w : World) (S : Nat) (v : Value) (sp : Sp) (h : SpAt w S v sp) (hk : sp.ok) (a : Nat) :
    Calls Try.prog 48 #[.pointer (some ⟨S, 0, none⟩), .int .u64 a] w fun e w' => e = .returned (.int .i64 (begun sp.rooms a : Nat)) ∧ Below w.heap.size w w' := by
  have hlen := hk.len
  have hB : Below w.heap.size w ((w.alloc (.cells #[.pointer (some ⟨S, 0, none⟩)] 39)).alloc (.cells #[.int .u64 a] 23)) :=
    ((Below.refl _ w).alloc (Nat.le_refl _) _).alloc (by simp) _
  have hc1 := h.c1
  have hlt := h.lt
  have hS := lib_Search ((w.alloc (.cells #[.pointer (some ⟨S, 0, none⟩)] 39)).alloc (.cells #[.int .u64 a] 23)) 58 #[.pointer (some ⟨w.heap.size, 0, none⟩), .pointer (some ⟨w.heap.size + 1, 0, none⟩)] sp.rooms.length (begun sp.rooms a) (fun i => decide (a < (sp.rooms[i]?.map Rm.pos).getD 0))
    (enters_of Try.func58 (by kernel_rfl) rfl) hlen (begun_le _ _)
    (fun i hi => by
      have h2 := begun_le sp.rooms a
      have := begun_lo sp.rooms a i hi (by omega)
      rw [List.getElem?_eq_getElem (show i < sp.rooms.length by omega)]
      simp; omega)
    (fun i hi h2 => by
      have := begun_hi sp.rooms hk.srt a i hi h2
      rw [List.getElem?_eq_getElem h2]
      simpa using this)
    (fun W i hi hb => by
      rcases h.told with ⟨rfl, hr⟩ | ⟨g, cap, ht⟩
      · rw [hr] at hi; simp at hi
      · have hT := (ht.stay hB).stay hb
        have hx1 : W.cell? ⟨w.heap.size, 0, none⟩ = some (.pointer (some ⟨S, 0, none⟩)) := by rw [hb.cell (by simp; omega)]; simp
        have hx2 : W.cell? ⟨w.heap.size + 1, 0, none⟩ = some (.int .u64 a) := by rw [hb.cell (by simp)]; simp
        refine (vm_begun1 W S v sp.rooms sp.rooms.length g cap hT rfl _ _ a hx1 hx2 i hi).mono ?_
        rintro e w' ⟨rfl, hb2⟩
        exact ⟨by rw [List.getElem?_eq_getElem hi]; rfl, hb.trans (hb2.mono hb.size)⟩)
  obtain ⟨s, cap, rfl⟩ : ∃ s cap, v = .slice s sp.rooms.length cap := by
    rcases h.told with ⟨rfl, hr⟩ | ⟨g, cap, ht⟩
    · exact ⟨none, 0, by rw [hr]; rfl⟩
    · exact ⟨_, _, ht.form⟩
  have HB : Hid _ := hB
  clear hB
  go_enter Try.func48, Try.ntmps48
  go_wp2_with (go_at_call 57; refine hS.mono ?_; rintro e w1 ⟨rfl, hb⟩)
  go_ret
  exact ⟨rfl, HB.out.trans (hb.mono (by simp; omega))⟩
end Go.Proofs.Ytdecbnmibjcnaaa
