
/-
  Layer 15 (apply): each function of the program and of the document's answer returns, for whatever numbers, what is typed here.
-/
import Derived.Test.YtiicmakeoidiaaaProg
import Derived.Test.YtiicmakeoidiaaaMath
import Derived.WalkKit
import Derived.WalkLawsBesides
import Derived.WalkSpells
import Derived.Below
set_option linter.unusedVariables false
namespace Go.Proofs.Ytiicmakeoidiaaa
open Go.RowKit
theorem hide {p : Prop} (h : p) : Hid p := h
def u64w (z : Int) : Int := z % 18446744073709551616
theorem u64_is (z : Int) : IntKind.u64.wrap z = u64w z := by
  rw [IntKind.wrap_u64]; rfl
def valV (k s a b : Int) : Int := if k = 1 then u64w (s + a) else if k = 2 then u64w (b + a) else if k = 3 then s else 0
theorem u64_u64 (s a : Int) : IntKind.u64.wrap (s + IntKind.u64.wrap a) = u64w (s + a) := by
  rw [u64_is, u64_is]; unfold u64w; omega
set_option maxHeartbeats 1000000 in
theorem apy_Value (k s a b : Int) (w : World) :
    Calls Try.prog 14 #[.int .i64 k, .int .u64 s, .int .i64 a, .int .u64 b] w fun e w' => e = .returned (.int .u64 (valV k s a b)) ∧ w = w' := by
  by_cases h1 : k = 1
  · subst h1
    have e : valV 1 s a b = IntKind.u64.wrap (s + IntKind.u64.wrap a) := by rw [u64_u64]; rfl
    rw [e]; clear e
    go_enter Try.func14, Try.ntmps14
    go_wp2
    go_ret
    exact ⟨rfl, rfl⟩
  by_cases h2 : k = 2
  · subst h2
    have e : valV 2 s a b = IntKind.u64.wrap (b + IntKind.u64.wrap a) := by rw [u64_u64]; rfl
    rw [e]; clear e
    go_enter Try.func14, Try.ntmps14
    go_wp2
    go_ret
    exact ⟨rfl, rfl⟩
  by_cases h3 : k = 3
  · subst h3
    go_enter Try.func14, Try.ntmps14
    go_wp2
    go_ret
    exact ⟨rfl, rfl⟩
  · have e : valV k s a b = 0 := by unfold valV; simp [h1, h2, h3]
    rw [e]; clear e
    have k1 : (k == 1) = false := by simp [h1]
    have k2 : (k == 2) = false := by simp [h2]
    have k3 : (k == 3) = false := by simp [h3]
    clear h1 h2 h3
    go_enter Try.func14, Try.ntmps14
    go_wp2
    go_ret
    exact ⟨rfl, rfl⟩
set_option maxHeartbeats 1000000 in
theorem ref15_Value (k s a b : Int) (w : World) (a0 : -9223372036854775808 ≤ a) (a1 : a ≤ 9223372036854775807) :
    Calls Try.prog 15 #[.int .i64 k, .int .u64 s, .int .i64 a, .int .u64 b] w fun e w' => e = .returned (.int .u64 (valV k s a b)) ∧ w = w' := by
  by_cases h1 : k = 1
  · subst h1
    by_cases hn : a < 0
    · have e : valV 1 s a b = IntKind.u64.wrap (IntKind.u64.wrap (s + (a + 1)) - 1) := by
        show u64w (s + a) = _
        rw [u64_is, u64_is]; unfold u64w; omega
      rw [e]; clear e
      have b1 : (a + 1) ≤ 0 := by omega
      go_enter Try.func15, Try.ntmps15
      go_wp2
      go_ret
      exact ⟨rfl, rfl⟩
    · have e : valV 1 s a b = IntKind.u64.wrap (s + a) := by rw [u64_is]; rfl
      rw [e]; clear e
      have hn' : 0 ≤ a := by omega
      go_enter Try.func15, Try.ntmps15
      go_wp2
      go_ret
      exact ⟨rfl, rfl⟩
  by_cases h2 : k = 2
  · subst h2
    by_cases hn : a < 0
    · have e : valV 2 s a b = IntKind.u64.wrap (IntKind.u64.wrap (b + (a + 1)) - 1) := by
        show u64w (b + a) = _
        rw [u64_is, u64_is]; unfold u64w; omega
      rw [e]; clear e
      have b1 : (a + 1) ≤ 0 := by omega
      go_enter Try.func15, Try.ntmps15
      go_wp2
      go_ret
      exact ⟨rfl, rfl⟩
    · have e : valV 2 s a b = IntKind.u64.wrap (b + a) := by rw [u64_is]; rfl
      rw [e]; clear e
      have hn' : 0 ≤ a := by omega
      go_enter Try.func15, Try.ntmps15
      go_wp2
      go_ret
      exact ⟨rfl, rfl⟩
  by_cases h3 : k = 3
  · subst h3
    go_enter Try.func15, Try.ntmps15
    go_wp2
    go_ret
    exact ⟨rfl, rfl⟩
  · have e : valV k s a b = 0 := by unfold valV; simp [h1, h2, h3]
    rw [e]; clear e
    have k1 : (k == 1) = false := by simp [h1]
    have k2 : (k == 2) = false := by simp [h2]
    have k3 : (k == 3) = false := by simp [h3]
    have k4 : (k != 1) = true := by simp [h1]
    have k5 : (k != 2) = true := by simp [h2]
    clear h1 h2 h3
    go_enter Try.func15, Try.ntmps15
    go_wp2
    go_ret
    exact ⟨rfl, rfl⟩
/-! ### The table -/
def T15 : List (Nat × Nat × Nat) := [(62, 0, 0), (183, 0, 0), (62, 1, 1), (62, 6, 3), (62, 7, 3), (62, 8, 2), (183, 257, 1), (183, 1025, 1), (183, 1026, 1), (183, 1027, 2)]
/-- The kind of a type on a machine; below 0: there is none. -/
def of15 (m k : Nat) : Int :=
  if m = 62 then (if k = 0 then 0 else if k = 1 then 1 else if k = 6 then 3 else if k = 7 then 3 else if k = 8 then 2 else -1)
  else if m = 183 then (if k = 0 then 0 else if k = 257 then 1 else if k = 1025 then 1 else if k = 1026 then 1 else if k = 1027 then 2 else -1)
  else -1
theorem of15_hit (m k i : Nat) (h : i < T15.length) (h1 : T15[i].1 = m) (h2 : T15[i].2.1 = k) : of15 m k = T15[i].2.2 := by
  match i, h with
  | 0, _ => simp [T15] at h1 h2; subst h1 h2; rfl
  | 1, _ => simp [T15] at h1 h2; subst h1 h2; rfl
  | 2, _ => simp [T15] at h1 h2; subst h1 h2; rfl
  | 3, _ => simp [T15] at h1 h2; subst h1 h2; rfl
  | 4, _ => simp [T15] at h1 h2; subst h1 h2; rfl
  | 5, _ => simp [T15] at h1 h2; subst h1 h2; rfl
  | 6, _ => simp [T15] at h1 h2; subst h1 h2; rfl
  | 7, _ => simp [T15] at h1 h2; subst h1 h2; rfl
  | 8, _ => simp [T15] at h1 h2; subst h1 h2; rfl
  | 9, _ => simp [T15] at h1 h2; subst h1 h2; rfl
theorem of15_miss (m k : Nat) (h : ∀ i (h : i < T15.length), ¬ (T15[i].1 = m ∧ T15[i].2.1 = k)) : of15 m k = -1 := by
  have q0 := h 0 (by decide)
  have q1 := h 1 (by decide)
  have q2 := h 2 (by decide)
  have q3 := h 3 (by decide)
  have q4 := h 4 (by decide)
  have q5 := h 5 (by decide)
  have q6 := h 6 (by decide)
  have q7 := h 7 (by decide)
  have q8 := h 8 (by decide)
  have q9 := h 9 (by decide)
  simp [T15] at q0 q1 q2 q3 q4 q5 q6 q7 q8 q9
  unfold of15
  repeat (split <;> try omega)
/-- The reference's rows in memory: block R leads to one block a row. -/
def RowsAt (w : World) (R : Nat) : Prop := ∀ i (h : i < T15.length), ∃ b, w.cell? ⟨R, i, none⟩ = some (.slice (some ⟨b, 0, none⟩) 3 3) ∧
  w.cell? ⟨b, 0, none⟩ = some (.int .u64 (T15[i].1 : Nat)) ∧ w.cell? ⟨b, 1, none⟩ = some (.int .u64 (T15[i].2.1 : Nat)) ∧ w.cell? ⟨b, 2, none⟩ = some (.int .u64 (T15[i].2.2 : Nat))
def allocs (w : World) (l : List Obj) : World := l.foldl World.alloc w
theorem size_alloc (w : World) (o : Obj) : (w.alloc o).heap.size = w.heap.size + 1 := by show (w.heap.push o).size = _; simp
theorem allocs_old (l : List Obj) : ∀ (w : World) (k : Nat), k < w.heap.size → (allocs w l).heap[k]? = w.heap[k]? := by
  induction l with
  | nil => intro w k _; rfl
  | cons o t ih =>
    intro w k h
    show (allocs (w.alloc o) t).heap[k]? = _
    rw [ih (w.alloc o) k (by rw [size_alloc]; omega), Below.heap_alloc _ _ _ h]
theorem allocs_new (l : List Obj) : ∀ (w : World) (i : Nat) (h : i < l.length), (allocs w l).heap[w.heap.size + i]? = some l[i] := by
  induction l with
  | nil => intro w i h; simp at h
  | cons o t ih =>
    intro w i h
    show (allocs (w.alloc o) t).heap[w.heap.size + i]? = _
    cases i with
    | zero =>
      rw [allocs_old t _ _ (by rw [size_alloc]; omega)]
      show (w.heap.push o)[w.heap.size]? = _
      simp
    | succ j =>
      have := ih (w.alloc o) j (by simpa using h)
      rw [size_alloc] at this
      have e : w.heap.size + (j + 1) = w.heap.size + 1 + j := by omega
      rw [e, this]; rfl
theorem allocs_below (l : List Obj) : ∀ w : World, Below w.heap.size w (allocs w l) := by
  induction l with
  | nil => intro w; exact Below.refl _ _
  | cons o t ih =>
    intro w
    exact (Below.alloc (Below.refl _ _) (Nat.le_refl _) o).trans ((ih (w.alloc o)).mono (by rw [size_alloc]; omega))
def row15 (r : Nat × Nat × Nat) : Obj := .cells #[.int .u64 (r.1 : Nat), .int .u64 (r.2.1 : Nat), .int .u64 (r.2.2 : Nat)] 28
def lead15 (B : Nat) : Obj := .cells #[.slice (some ⟨B, 0, none⟩) 3 3, .slice (some ⟨B + 1, 0, none⟩) 3 3, .slice (some ⟨B + 2, 0, none⟩) 3 3, .slice (some ⟨B + 3, 0, none⟩) 3 3, .slice (some ⟨B + 4, 0, none⟩) 3 3, .slice (some ⟨B + 5, 0, none⟩) 3 3, .slice (some ⟨B + 6, 0, none⟩) 3 3, .slice (some ⟨B + 7, 0, none⟩) 3 3, .slice (some ⟨B + 8, 0, none⟩) 3 3, .slice (some ⟨B + 9, 0, none⟩) 3 3] 50
def obs15 (B : Nat) : List Obj := T15.map row15 ++ [lead15 B]
theorem allocs_cell (l : List Obj) (w : World) (i : Nat) (h : i < l.length) (vs : Array Value) (T : TypeId) (e : l[i] = .cells vs T) (k : Nat) :
    (allocs w l).cell? ⟨w.heap.size + i, k, none⟩ = vs[k]? := by
  unfold World.cell?
  rw [allocs_new l w i h, e]
  simp
theorem rows_built (w : World) : RowsAt (allocs w (obs15 w.heap.size)) (w.heap.size + 10) := by
  have hL := fun k => allocs_cell (obs15 w.heap.size) w 10 (by simp [obs15, T15]) _ _ rfl k
  intro i hi
  match i, hi with
  | 0, _ =>
    have hN := fun k => allocs_cell (obs15 w.heap.size) w 0 (by simp [obs15, T15]) _ _ rfl k
    exact ⟨w.heap.size + 0, hL 0, hN 0, hN 1, hN 2⟩
  | 1, _ =>
    have hN := fun k => allocs_cell (obs15 w.heap.size) w 1 (by simp [obs15, T15]) _ _ rfl k
    exact ⟨w.heap.size + 1, hL 1, hN 0, hN 1, hN 2⟩
  | 2, _ =>
    have hN := fun k => allocs_cell (obs15 w.heap.size) w 2 (by simp [obs15, T15]) _ _ rfl k
    exact ⟨w.heap.size + 2, hL 2, hN 0, hN 1, hN 2⟩
  | 3, _ =>
    have hN := fun k => allocs_cell (obs15 w.heap.size) w 3 (by simp [obs15, T15]) _ _ rfl k
    exact ⟨w.heap.size + 3, hL 3, hN 0, hN 1, hN 2⟩
  | 4, _ =>
    have hN := fun k => allocs_cell (obs15 w.heap.size) w 4 (by simp [obs15, T15]) _ _ rfl k
    exact ⟨w.heap.size + 4, hL 4, hN 0, hN 1, hN 2⟩
  | 5, _ =>
    have hN := fun k => allocs_cell (obs15 w.heap.size) w 5 (by simp [obs15, T15]) _ _ rfl k
    exact ⟨w.heap.size + 5, hL 5, hN 0, hN 1, hN 2⟩
  | 6, _ =>
    have hN := fun k => allocs_cell (obs15 w.heap.size) w 6 (by simp [obs15, T15]) _ _ rfl k
    exact ⟨w.heap.size + 6, hL 6, hN 0, hN 1, hN 2⟩
  | 7, _ =>
    have hN := fun k => allocs_cell (obs15 w.heap.size) w 7 (by simp [obs15, T15]) _ _ rfl k
    exact ⟨w.heap.size + 7, hL 7, hN 0, hN 1, hN 2⟩
  | 8, _ =>
    have hN := fun k => allocs_cell (obs15 w.heap.size) w 8 (by simp [obs15, T15]) _ _ rfl k
    exact ⟨w.heap.size + 8, hL 8, hN 0, hN 1, hN 2⟩
  | 9, _ =>
    have hN := fun k => allocs_cell (obs15 w.heap.size) w 9 (by simp [obs15, T15]) _ _ rfl k
    exact ⟨w.heap.size + 9, hL 9, hN 0, hN 1, hN 2⟩
set_option maxHeartbeats 4000000 in
set_option maxRecDepth 20000 in
theorem ref15_Of (m k : Nat) (w : World) :
    Calls Try.prog 9 #[.int .u64 m, .int .u64 k] w fun e w' => e = .returned (.int .i64 (of15 m k)) ∧ Below w.heap.size w w' := by
  obtain ⟨O, hO⟩ : ∃ O, of15 m k = O := ⟨_, rfl⟩
  rw [hO]
  have HO := hide hO
  clear hO
  go_enter Try.func9, Try.ntmps9
  go_wp2
  generalize hR : w.heap.size + 1 + 1 + 1 + 1 + 1 + 1 + 1 + 1 + 1 + 1 = R
  have HRR := hide hR
  clear hR
  go_loopw [6] (fun v6 wr => ∃ i : Nat, v6 = .int .i64 i ∧ i ≤ 10 ∧ Hid (Below w.heap.size w wr) ∧ Hid (RowsAt wr R) ∧ Hid (∀ j (hj : j < T15.length), j < i → ¬ (T15[j].1 = m ∧ T15[j].2.1 = k)))
    (fun v6 _ => 10 - (intOf v6).toNat)
  case atStart => exact ⟨0, rfl, by omega, allocs_below (obs15 w.heap.size) w, HRR.out ▸ rows_built w, fun j hj h => by omega⟩
  case round =>
    obtain ⟨i, rfl, hi, HB, HR, HA⟩ := hrel
    by_cases hlt : i < 10
    · have hltI : (i : Int) < 10 := by omega
      have hil : i < T15.length := hlt
      obtain ⟨b, c, c0, c1, c2⟩ := HR.out i hil
      have hnx : ¬ (T15[i].1 = m ∧ T15[i].2.1 = k) → Hid (∀ j (hj : j < T15.length), j < i + 1 → ¬ (T15[j].1 = m ∧ T15[j].2.1 = k)) := fun hne j hj hji => by
        by_cases e : j = i
        · subst e; exact hne
        · exact HA.out j hj (by omega)
      have HNX := hide hnx
      have hgo := fun e0 e1 => of15_hit m k i hil e0 e1
      have HGO := hide hgo
      have hw : (T15[i].2.2 : Nat) ≤ 3 := by
        clear hnx hgo HNX HGO c c0 c1 c2 hltI hlt hi HB HR HA
        revert i
        decide
      clear hnx hgo
      generalize T15[i].1 = r0 at c0 HNX HGO
      generalize T15[i].2.1 = r1 at c1 HNX HGO
      generalize T15[i].2.2 = r2 at c2 HGO hw
      clear hlt
      by_cases e0 : r0 = m
      · by_cases e1 : r1 = k
        · have ht := HGO.out e0 e1
          rw [HO.out] at ht
          have HT := hide ht
          subst e0 e1
          clear ht
          go_wp2
          go_ret
          refine ⟨?_, HB.out⟩
          rw [HT.out]
          rfl
        · have e1b : ((r1 : Int) == (k : Int)) = false := by simp; omega
          have HX := HNX.out (fun h => e1 h.2)
          subst e0
          clear e1
          go_wp2
          go_roundw
          case rel => exact ⟨i + 1, by go_num, by omega, HB, HR, HX⟩
          case measure => simp [intOf]; omega
      · have e0b : ((r0 : Int) == (m : Int)) = false := by simp; omega
        have HX := HNX.out (fun h => e0 h.1)
        clear e0
        go_wp2
        go_roundw
        case rel => exact ⟨i + 1, by go_num, by omega, HB, HR, HX⟩
        case measure => simp [intOf]; omega
    · have hltI : ¬ (i : Int) < 10 := by omega
      have hO := of15_miss m k (fun j hj => HA.out j hj (by have : T15.length = 10 := rfl; omega))
      rw [HO.out] at hO
      have HT := hide hO
      clear hO
      go_wp2
      go_ret
      refine ⟨?_, HB.out⟩
      rw [HT.out]
      rfl
/-! ### The program's -/
set_option maxHeartbeats 4000000 in
theorem apy_ofIntel (k : Nat) (w : World) :
    Calls Try.prog 19 #[.int .u32 k] w fun e w' => e = .returned (.tuple #[.int .i64 (if of15 62 k < 0 then 0 else of15 62 k), .bool (decide (0 ≤ of15 62 k))]) ∧ w = w' := by
  by_cases h0 : k = 0
  · subst h0
    go_enter Try.func19, Try.ntmps19
    go_wp2
    go_ret2
    exact ⟨rfl, rfl⟩
  by_cases h1 : k = 1
  · subst h1
    go_enter Try.func19, Try.ntmps19
    go_wp2
    go_ret2
    exact ⟨rfl, rfl⟩
  by_cases h6 : k = 6
  · subst h6
    go_enter Try.func19, Try.ntmps19
    go_wp2
    go_ret2
    exact ⟨rfl, rfl⟩
  by_cases h7 : k = 7
  · subst h7
    go_enter Try.func19, Try.ntmps19
    go_wp2
    go_ret2
    exact ⟨rfl, rfl⟩
  by_cases h8 : k = 8
  · subst h8
    go_enter Try.func19, Try.ntmps19
    go_wp2
    go_ret2
    exact ⟨rfl, rfl⟩
  · have e : of15 62 k = -1 := by simp [of15, h0, h1, h6, h7, h8]
    rw [e]
    have k0 : ((k : Int) == 0) = false := by simp; omega
    have k1 : ((k : Int) == 1) = false := by simp; omega
    have k6 : ((k : Int) == 6) = false := by simp; omega
    have k7 : ((k : Int) == 7) = false := by simp; omega
    have k8 : ((k : Int) == 8) = false := by simp; omega
    clear h0 h1 h6 h7 h8 e
    go_enter Try.func19, Try.ntmps19
    go_wp2
    go_ret2
    exact ⟨rfl, rfl⟩
set_option maxHeartbeats 4000000 in
theorem apy_ofArm (k : Nat) (w : World) :
    Calls Try.prog 20 #[.int .u32 k] w fun e w' => e = .returned (.tuple #[.int .i64 (if of15 183 k < 0 then 0 else of15 183 k), .bool (decide (0 ≤ of15 183 k))]) ∧ w = w' := by
  by_cases h0 : k = 0
  · subst h0
    go_enter Try.func20, Try.ntmps20
    go_wp2
    go_ret2
    exact ⟨rfl, rfl⟩
  by_cases h257 : k = 257
  · subst h257
    go_enter Try.func20, Try.ntmps20
    go_wp2
    go_ret2
    exact ⟨rfl, rfl⟩
  by_cases h1025 : k = 1025
  · subst h1025
    go_enter Try.func20, Try.ntmps20
    go_wp2
    go_ret2
    exact ⟨rfl, rfl⟩
  by_cases h1026 : k = 1026
  · subst h1026
    go_enter Try.func20, Try.ntmps20
    go_wp2
    go_ret2
    exact ⟨rfl, rfl⟩
  by_cases h1027 : k = 1027
  · subst h1027
    go_enter Try.func20, Try.ntmps20
    go_wp2
    go_ret2
    exact ⟨rfl, rfl⟩
  · have e : of15 183 k = -1 := by simp [of15, h0, h257, h1025, h1026, h1027]
    rw [e]
    have k0 : ((k : Int) == 0) = false := by simp; omega
    have k1 : ((k : Int) == 257) = false := by simp; omega
    have k6 : ((k : Int) == 1025) = false := by simp; omega
    have k7 : ((k : Int) == 1026) = false := by simp; omega
    have k8 : ((k : Int) == 1027) = false := by simp; omega
    clear h0 h257 h1025 h1026 h1027 e
    go_enter Try.func20, Try.ntmps20
    go_wp2
    go_ret2
    exact ⟨rfl, rfl⟩
set_option maxHeartbeats 4000000 in
theorem apy_Of (m k : Nat) (w : World) :
    Calls Try.prog 8 #[.int .u16 m, .int .u32 k] w fun e w' => e = .returned (.tuple #[.int .i64 (if of15 m k < 0 then 0 else of15 m k), .bool (decide (0 ≤ of15 m k))]) ∧ w = w' := by
  by_cases h1 : m = 62
  · subst h1
    have h := fun w => apy_ofIntel k w
    generalize (if of15 62 k < 0 then 0 else of15 62 k) = x at *
    generalize (decide (0 ≤ of15 62 k)) = y at *
    go_enter Try.func8, Try.ntmps8
    go_wp2_with fail
    refine (h _).mono ?_
    rintro e w' ⟨rfl, rfl⟩
    go_wp2
    go_ret2
    exact ⟨rfl, rfl⟩
  by_cases h2 : m = 183
  · subst h2
    have h := fun w => apy_ofArm k w
    generalize (if of15 183 k < 0 then 0 else of15 183 k) = x at *
    generalize (decide (0 ≤ of15 183 k)) = y at *
    go_enter Try.func8, Try.ntmps8
    go_wp2_with fail
    refine (h _).mono ?_
    rintro e w' ⟨rfl, rfl⟩
    go_wp2
    go_ret2
    exact ⟨rfl, rfl⟩
  · have e : of15 m k = -1 := by simp [of15, h1, h2]
    rw [e]
    have k0 : ((m : Int) == 62) = false := by simp; omega
    have k1 : ((m : Int) == 183) = false := by simp; omega
    clear h1 h2 e
    go_enter Try.func8, Try.ntmps8
    go_wp2
    go_ret2
    exact ⟨rfl, rfl⟩
def rel15 (m : Nat) : Int := if m = 62 then 8 else if m = 183 then 1027 else 0
set_option maxHeartbeats 4000000 in
theorem apy_RelativeType (m : Nat) (w : World) :
    Calls Try.prog 11 #[.int .u16 m] w fun e w' => e = .returned (.int .u32 (rel15 m)) ∧ w = w' := by
  by_cases h62 : m = 62
  · subst h62
    go_enter Try.func11, Try.ntmps11
    go_wp2
    go_ret
    exact ⟨rfl, rfl⟩
  by_cases h183 : m = 183
  · subst h183
    go_enter Try.func11, Try.ntmps11
    go_wp2
    go_ret
    exact ⟨rfl, rfl⟩
  · have e : rel15 m = 0 := by simp [rel15, h62, h183]
    rw [e]
    have k0 : ((m : Int) == 62) = false := by simp; omega
    have k1 : ((m : Int) == 183) = false := by simp; omega
    clear h62 h183 e
    go_enter Try.func11, Try.ntmps11
    go_wp2
    go_ret
    exact ⟨rfl, rfl⟩
theorem rel_hit (m t : Nat) (h : of15 m t = 2) : rel15 m = t := by
  unfold of15 at h
  unfold rel15
  repeat (split at h <;> try omega)
  all_goals (subst_vars; simp_all)
theorem rel_miss (m : Nat) (h : ∀ t, 1 ≤ t → t < 2000 → of15 m t ≠ 2) : rel15 m = 0 := by
  unfold rel15
  split
  · subst_vars; exact absurd rfl (h 8 (by omega) (by omega))
  · split
    · subst_vars; exact absurd rfl (h 1027 (by omega) (by omega))
    · rfl
set_option maxHeartbeats 4000000 in
theorem ref15_Relative (m : Nat) (w : World) :
    Calls Try.prog 12 #[.int .u64 m] w fun e w' => e = .returned (.int .u32 (rel15 m)) ∧ Below w.heap.size w w' := by
  obtain ⟨O, hO⟩ : ∃ O, rel15 m = O := ⟨_, rfl⟩
  rw [hO]
  have HO := hide hO
  clear hO
  go_enter Try.func12, Try.ntmps12
  go_wp2
  go_loopw [3] (fun v3 wr => ∃ i : Nat, v3 = .int .u64 i ∧ 1 ≤ i ∧ i ≤ 2000 ∧ Hid (Below w.heap.size w wr) ∧ Hid (∀ t, 1 ≤ t → t < i → of15 m t ≠ 2))
    (fun v3 _ => 2000 - (intOf v3).toNat)
  case atStart => exact ⟨1, rfl, by omega, by omega, Below.refl _ _, fun j hj h => by omega⟩
  case round =>
    obtain ⟨i, rfl, hi1, hi, HB, HA⟩ := hrel
    by_cases hlt : i < 2000
    · have hltI : (i : Int) < 2000 := by omega
      have hk := ref15_Of m i wr
      by_cases e : of15 m i = 2
      · have ht := rel_hit m i e
        rw [HO.out] at ht
        have HT := hide ht
        rw [e] at hk
        clear ht e
        go_wp2_with fail
        refine hk.mono ?_
        rintro e w1 ⟨rfl, hb1⟩
        have HB1 : Hid (Below w.heap.size w w1) := HB.out.trans (hb1.mono HB.out.size)
        clear hk hb1
        go_wp2
        go_ret
        refine ⟨?_, HB1.out⟩
        rw [HT.out]
        rfl
      · have eb : (of15 m i == 2) = false := by simp [e]
        have HE := hide e
        generalize of15 m i = r at hk eb
        clear e
        go_wp2_with fail
        refine hk.mono ?_
        rintro e w1 ⟨rfl, hb1⟩
        have HB1 : Hid (Below w.heap.size w w1) := HB.out.trans (hb1.mono HB.out.size)
        clear hk hb1
        go_wp2
        go_roundw
        case rel => exact ⟨i + 1, by go_num, by omega, by omega, HB1, fun t h1 h2 => by
          by_cases e : t = i
          · subst e; exact HE.out
          · exact HA.out t h1 (by omega)⟩
        case measure => simp [intOf]; omega
    · have hltI : ¬ (i : Int) < 2000 := by omega
      have hO := rel_miss m (fun t h1 h2 => HA.out t h1 (by omega))
      rw [HO.out] at hO
      have HT := hide hO
      clear hO
      go_wp2
      go_ret
      refine ⟨?_, HB.out⟩
      rw [HT.out]
      rfl
set_option maxHeartbeats 4000000 in
theorem apy_Symbol (k : Int) (w : World) :
    Calls Try.prog 10 #[.int .i64 k] w fun e w' => e = .returned (.bool (k == 1 || k == 3)) ∧ w = w' := by
  by_cases h1 : k = 1
  · subst h1
    go_enter Try.func10, Try.ntmps10
    go_wp2
    go_ret
    exact ⟨rfl, rfl⟩
  · have k1 : (k == 1) = false := by simp [h1]
    rw [k1]
    generalize hb : (k == 3) = b
    clear h1
    cases b <;>
    · go_enter Try.func10, Try.ntmps10
      go_wp2
      go_ret
      exact ⟨rfl, rfl⟩
theorem alive15 (w : World) : Calls Try.prog 13 #[] w fun e w' => e = .returned (.bool true) ∧ w = w' := by
  have h1 := fun w => apy_Of 62 8 w
  have h2 := fun w => apy_Value 1 256 (-8) 0 w
  have h3 := fun w => apy_RelativeType 183 w
  have v2 : valV 1 256 (-8) 0 = 248 := by decide
  rw [v2] at h2
  go_enter Try.func13, Try.ntmps13
  go_wp2_with fail
  refine (h1 _).mono ?_
  rintro e w' ⟨rfl, rfl⟩
  go_wp2_with fail
  refine (h2 _).mono ?_
  rintro e w' ⟨rfl, rfl⟩
  go_wp2_with fail
  refine (h3 _).mono ?_
  rintro e w' ⟨rfl, rfl⟩
  go_wp2
  go_ret
  exact ⟨rfl, rfl⟩
end Go.Proofs.Ytiicmakeoidiaaa
