/-
  LeBehind returns true for every row of calls, and the row reads afterwards as it read before: no condition.
-/
import Derived.Test.YtipnjkemiopjiaaRows
import Derived.Test.YtipnjkemiopjiaaOpsA
import Derived.WalkKit
import Derived.Deep.RegionHeldLaw
import Derived.ProofKit
import Derived.OpenShut
import Derived.ShutString
import Derived.ChangeOld
import Derived.Below
set_option linter.unusedVariables false
namespace Go.Proofs.Ytipnjkemiopjiaa
namespace LLeBehind
open Go.ChangeShapes Go.WideShapes Go.ChangeAt Go.RowKit
open Go.ChangeMaps (open_string shut_string)
/-- The buffer holds a text that begins as the one before. -/
structure Nx2 (B : Nat) (s t : ByteArray) (w' : World) : Prop where
  bg : Bg w' B B t.data.toList
  pre : t.extract 0 s.size = s
  le : s.size ≤ t.size
  more : t.size ≤ s.size + 300000
theorem ba_append_pre (s : ByteArray) (X : List UInt8) (hX : X.length ≤ 300000) :
    ∃ t : ByteArray, t.data.toList = s.data.toList ++ X ∧ t.extract 0 s.size = s ∧ s.size ≤ t.size ∧ t.size ≤ s.size + 300000 := by
  obtain ⟨t, ht⟩ : ∃ t : ByteArray, t.data.toList = s.data.toList ++ X := ⟨⟨(s.data.toList ++ X).toArray⟩, by simp⟩
  have hz : t.size = s.size + X.length := by rw [size_list, ht, List.length_append, ← size_list]
  refine ⟨t, ht, ?_, by omega, by omega⟩
  apply ByteArray.ext
  apply Array.toList_inj.1
  rw [ByteArray.data_extract, Array.toList_extract, ht, List.extract, List.drop_zero, Nat.sub_zero, size_list, List.take_left]
theorem Nx2.of {B : Nat} {s : ByteArray} {X : List UInt8} {w' : World} (hX : X.length ≤ 300000) (h : Bg w' B B (s.data.toList ++ X)) : ∃ t, Nx2 B s t w' := by
  obtain ⟨t, h1, h2, h3, h4⟩ := ba_append_pre s X hX
  exact ⟨t, by rw [h1]; exact h, h2, h3, h4⟩
theorem Nx2.below {B : Nat} {s t : ByteArray} {w w' : World} (h : Nx2 B s t w) (hb : Below w.heap.size w w') : Nx2 B s t w' := ⟨h.bg.below hb, h.pre, h.le, h.more⟩
theorem st_Put16 (w : World) (B : Nat) (s : ByteArray) (z : Int) (h : Bg w B B s.data.toList) (hB : B ≤ w.heap.size) (hl : s.size ≤ 900000000) (h0 : 0 ≤ z) (h1 : z ≤ 65535) :
    Calls Try.prog 21 #[.pointer (some ⟨B, 0, none⟩), .int .u16 z] w fun e w' => e = .returned (.tuple #[]) ∧ ∃ t, Hid (Nx2 B s t w') ∧ Hid (Below B w w') := by
  obtain ⟨n, rfl⟩ : ∃ n : Nat, z = n := ⟨z.toNat, by omega⟩
  refine (bg_Put16 w B B s.data.toList n h hB (by rw [← size_list]; exact hl) h1).mono ?_
  rintro e w' ⟨rfl, h2, h3⟩
  obtain ⟨t, ht⟩ := Nx2.of (by rw [leN_length]; omega) h2
  exact ⟨rfl, t, ht, h3⟩
theorem st_Put32 (w : World) (B : Nat) (s : ByteArray) (z : Int) (h : Bg w B B s.data.toList) (hB : B ≤ w.heap.size) (hl : s.size ≤ 900000000) (h0 : 0 ≤ z) (h1 : z ≤ 4294967295) :
    Calls Try.prog 23 #[.pointer (some ⟨B, 0, none⟩), .int .u32 z] w fun e w' => e = .returned (.tuple #[]) ∧ ∃ t, Hid (Nx2 B s t w') ∧ Hid (Below B w w') := by
  obtain ⟨n, rfl⟩ : ∃ n : Nat, z = n := ⟨z.toNat, by omega⟩
  refine (bg_Put32 w B B s.data.toList n h hB (by rw [← size_list]; exact hl) h1).mono ?_
  rintro e w' ⟨rfl, h2, h3⟩
  obtain ⟨t, ht⟩ := Nx2.of (by rw [leN_length]; omega) h2
  exact ⟨rfl, t, ht, h3⟩
theorem st_Put64 (w : World) (B : Nat) (s : ByteArray) (z : Int) (h : Bg w B B s.data.toList) (hB : B ≤ w.heap.size) (hl : s.size ≤ 900000000) (h0 : 0 ≤ z) (h1 : z ≤ 18446744073709551615) :
    Calls Try.prog 24 #[.pointer (some ⟨B, 0, none⟩), .int .u64 z] w fun e w' => e = .returned (.tuple #[]) ∧ ∃ t, Hid (Nx2 B s t w') ∧ Hid (Below B w w') := by
  obtain ⟨n, rfl⟩ : ∃ n : Nat, z = n := ⟨z.toNat, by omega⟩
  refine (bg_Put64 w B B s.data.toList n h hB (by rw [← size_list]; exact hl) h1).mono ?_
  rintro e w' ⟨rfl, h2, h3⟩
  obtain ⟨t, ht⟩ := Nx2.of (by rw [leN_length]; omega) h2
  exact ⟨rfl, t, ht, h3⟩
theorem st_Raw (w : World) (B : Nat) (s : ByteArray) (vb : Value) (m : List UInt8) (h : Bg w B B s.data.toList) (hB : B ≤ w.heap.size) (hl : s.size ≤ 900000000) (hm : Arg w vb m) (hm2 : m.length ≤ 256) :
    Calls Try.prog 25 #[.pointer (some ⟨B, 0, none⟩), vb] w fun e w' => e = .returned (.tuple #[]) ∧ ∃ t, Hid (Nx2 B s t w') ∧ Hid (Below B w w') := by
  refine (bg_Raw w B B s.data.toList m h hB vb hm (by rw [← size_list]; omega)).mono ?_
  rintro e w' ⟨rfl, h2, h3⟩
  obtain ⟨t, ht⟩ := Nx2.of (by omega) h2
  exact ⟨rfl, t, ht, h3⟩
theorem st_Zeros (w : World) (B : Nat) (s : ByteArray) (z : Int) (h : Bg w B B s.data.toList) (hB : B ≤ w.heap.size) (hl : s.size ≤ 900000000) (h1 : z ≤ 4096) :
    Calls Try.prog 26 #[.pointer (some ⟨B, 0, none⟩), .int .i64 z] w fun e w' => e = .returned (.tuple #[]) ∧ ∃ t, Hid (Nx2 B s t w') ∧ Hid (Below B w w') := by
  refine (bg_Zeros w B B s.data.toList z z.toNat h hB (by omega) (by rw [← size_list]; omega)).mono ?_
  rintro e w' ⟨rfl, h2, h3⟩
  obtain ⟨t, ht⟩ := Nx2.of (by rw [List.length_replicate]; omega) h2
  exact ⟨rfl, t, ht, h3⟩
theorem st_To (w : World) (B : Nat) (s : ByteArray) (z : Int) (h : Bg w B B s.data.toList) (hB : B ≤ w.heap.size) (hl : s.size ≤ 900000000) (h0 : -9223372036854775808 ≤ z) (h1 : z ≤ 4096) :
    Calls Try.prog 28 #[.pointer (some ⟨B, 0, none⟩), .int .i64 z] w fun e w' => e = .returned (.tuple #[]) ∧ ∃ t, Hid (Nx2 B s t w') ∧ Hid (Below B w w') := by
  obtain ⟨q, hq⟩ := toIs s.data.toList.length z
  have hq2 : q ≤ 4096 := by rcases hq with ⟨_, _, _, h2⟩ | ⟨_, h⟩ <;> omega
  refine (bg_To w B B s.data.toList z q h hB (by rw [← size_list]; omega) hq h0 (by omega)).mono ?_
  rintro e w' ⟨rfl, h2, h3⟩
  obtain ⟨t, ht⟩ := Nx2.of (by rw [List.length_replicate]; omega) h2
  exact ⟨rfl, t, ht, h3⟩
theorem st_Bytes (w : World) (B : Nat) (s t : ByteArray) (h : Hid (Nx2 B s t w)) (hs : s.size ≤ 900000000) :
    Calls Try.prog 32 #[.pointer (some ⟨B, 0, none⟩)] w fun e w' => ∃ vz, e = .returned vz ∧ Sem.run Try.prog (convert 22 9 vz) w' = .ok (.string t) w' ∧ Hid (Nx2 B s t w') ∧ Hid (Below w.heap.size w w') := by
  have hn := h.out.more
  have hsz := size_list t
  refine (bg_Bytes w B B t.data.toList h.out.bg (by omega)).mono ?_
  rintro e w' ⟨vz, rfl, oz, b⟩
  have tz := (oz.arg (by omega)).text
  have e : (⟨t.data.toList.toArray⟩ : ByteArray) = t := by simp
  rw [e] at tz
  exact ⟨vz, rfl, tz, h.out.below b, b⟩
theorem st_Len (w : World) (B : Nat) (s t : ByteArray) (h : Hid (Nx2 B s t w)) :
    Calls Try.prog 31 #[.pointer (some ⟨B, 0, none⟩)] w fun e w' => e = .returned (.int .i64 t.size) ∧ w = w' := by
  rw [size_list]
  exact bg_Len w B B _ h.out.bg
set_option maxHeartbeats 4000000 in
set_option maxRecDepth 20000 in
theorem core (w : World) (b off len cap : Nat) (hlen : len ≤ 40) (hcap : len ≤ cap) (hcm : cap ≤ maxLen) (hx : ∀ i, i < len → ∃ k n u s bl bc zs, IsOp w ((⟨b, off, none⟩ : Addr).add (i * 4)) k n u s bl bc zs) :
    Calls Try.prog 7 #[.slice (some ⟨b, off, none⟩) len cap] w fun e w' => e = .returned (.bool true) ∧ Below w.heap.size w w' := by
  have HX : Hid (∀ i, i < len → ∃ k n u s bl bc zs, IsOp w ((⟨b, off, none⟩ : Addr).add (i * 4)) k n u s bl bc zs) := hx
  have hl40 : ¬ 40 < (len : Int) := by omega
  have hcap2 : cap ≤ 9223372036854775807 := by unfold maxLen at hcm; omega
  clear hx
  go_enter Try.func7, Try.ntmps7
  go_wp2_with fail
  refine (le_New _).mono ?_
  rintro e w1 ⟨rfl, hb1, b1, s1⟩
  have hg1 : Bg w1 w.heap.size w.heap.size [] := ⟨_, hb1⟩
  clear hb1 s1
  go_wp2
  go_loopw [4, 5] (fun vs vi wr => ∃ (i : Nat) (s : ByteArray), i ≤ len ∧ vi = .int .i64 i ∧ vs = .string s ∧ Hid (Bg wr w.heap.size w.heap.size s.data.toList) ∧ Hid (Below w.heap.size w wr) ∧ s.size ≤ i * 300000) (fun _ vi _ => len - (intOf vi).toNat)
  case atStart => exact ⟨0, ByteArray.empty, by omega, rfl, rfl, hg1, b1, by simp⟩
  case round =>
    obtain ⟨i, s, hi, rfl, rfl, HG, HB, hsz⟩ := hrel
    by_cases hlt : i < len
    · obtain ⟨k, n, u, sb, bl, bc, zs, I⟩ := HX.out i hlt
      have hbw : b < w.heap.size := by have := World.block_lt_of_cell? _ _ I.c0; simpa [add_at] using this
      have c0 : wr.cell? ⟨b, off + i * 4, none⟩ = some (.int .i64 k) := by rw [HB.out.cell (p := ⟨b, off + i * 4, none⟩) hbw]; simpa [add_at] using I.c0
      have c1 : wr.cell? ⟨b, off + i * 4 + 1, none⟩ = some (.int .i64 n) := by rw [HB.out.cell (p := ⟨b, off + i * 4 + 1, none⟩) hbw]; simpa [add_at] using I.c1
      have c2 : wr.cell? ⟨b, off + i * 4 + 2, none⟩ = some (.int .u64 u) := by rw [HB.out.cell (p := ⟨b, off + i * 4 + 2, none⟩) hbw]; simpa [add_at] using I.c2
      have c3 : wr.cell? ⟨b, off + i * 4 + 3, none⟩ = some (.slice sb bl bc) := by rw [HB.out.cell (p := ⟨b, off + i * 4 + 3, none⟩) hbw]; simpa [add_at] using I.c3
      have hk := I.k0
      have hn := I.n0
      have hu := I.u0
      have hltI : (i : Int) < (len : Int) := by omega
      have HI : Hid _ := I
      have hblm : bl ≤ 9223372036854775807 := by
        rcases I.row with ⟨_, h, _⟩ | ⟨_, _, h1, h2, _⟩
        · omega
        · unfold maxLen at h2; omega
      clear I
      by_cases hb256 : 256 < bl
      · have hbI : 256 < (bl : Int) := by omega
        go_wp2
        go_ret
        exact ⟨rfl, HB.out.alloc HB.out.size _⟩
      · have hbI : ¬ 256 < (bl : Int) := by omega
        by_cases hn4 : 4096 < n
        · go_wp2
          go_ret
          exact ⟨rfl, HB.out.alloc HB.out.size _⟩
        · obtain ⟨hr1, hr2⟩ := HI.out.row.arg (by omega)
          have bA := (HB.out.alloc HB.out.size (Obj.cells #[Value.int IntKind.i64 k, Value.int IntKind.i64 n, Value.int IntKind.u64 u, Value.slice sb bl bc] 51))
          have HA : Hid _ := hr2.below bA rfl
          have HR : Hid ((rowOf zs bl).length ≤ 256) := by rw [Hid]; omega
          have hgA : Bg (wr.alloc (Obj.cells #[Value.int IntKind.i64 k, Value.int IntKind.i64 n, Value.int IntKind.u64 u, Value.slice sb bl bc] 51)) w.heap.size w.heap.size s.data.toList := HG.out.below ((Below.refl _ _).alloc (Nat.le_refl _) _)
          have hsB := bA.size
          have hs9 : s.size ≤ 900000000 := by omega
          have HBA : Hid _ := bA
          clear bA hr1 hr2
          go_wp2_with (first
            | (go_at_call 21; refine (st_Put16 _ _ s _ hgA hsB hs9 (by first | omega | (rw [IntKind.wrap_u16]; omega)) (by first | omega | (rw [IntKind.wrap_u16]; omega))).mono ?_; rintro e w2 ⟨rfl, t, HT2, b2⟩; have hpre := HT2.out.pre; have hle := HT2.out.le; have hmo := HT2.out.more)
            | (go_at_call 23; refine (st_Put32 _ _ s _ hgA hsB hs9 (by first | omega | (rw [IntKind.wrap_u32]; omega)) (by first | omega | (rw [IntKind.wrap_u32]; omega))).mono ?_; rintro e w2 ⟨rfl, t, HT2, b2⟩; have hpre := HT2.out.pre; have hle := HT2.out.le; have hmo := HT2.out.more)
            | (go_at_call 24; refine (st_Put64 _ _ s _ hgA hsB hs9 (by omega) (by omega)).mono ?_; rintro e w2 ⟨rfl, t, HT2, b2⟩; have hpre := HT2.out.pre; have hle := HT2.out.le; have hmo := HT2.out.more)
            | (go_at_call 25; refine (st_Raw _ _ s _ _ hgA hsB hs9 HA.out HR.out).mono ?_; rintro e w2 ⟨rfl, t, HT2, b2⟩; have hpre := HT2.out.pre; have hle := HT2.out.le; have hmo := HT2.out.more)
            | (go_at_call 26; refine (st_Zeros _ _ s _ hgA hsB hs9 (by omega)).mono ?_; rintro e w2 ⟨rfl, t, HT2, b2⟩; have hpre := HT2.out.pre; have hle := HT2.out.le; have hmo := HT2.out.more)
            | (go_at_call 28; refine (st_To _ _ s _ hgA hsB hs9 (by omega) (by omega)).mono ?_; rintro e w2 ⟨rfl, t, HT2, b2⟩; have hpre := HT2.out.pre; have hle := HT2.out.le; have hmo := HT2.out.more)
            | (go_at_call 32; refine (st_Bytes _ _ s _ HT2 hs9).mono ?_; rintro e w3 ⟨vz, rfl, tz, HT3, b3⟩)
            | (go_at_call 31; refine (st_Len _ _ s _ HT3).mono ?_; rintro e w4 ⟨rfl, rfl⟩))
          all_goals
            refine ⟨⟨i + 1, t, by omega, by go_num, rfl, HT3.out.bg, ?_, by omega⟩, ?_⟩
            · have e2 := HBA.out.trans b2.out
              exact e2.trans (b3.out.mono e2.size)
            · simp [intOf]; omega
    · have hge : ¬ (i : Int) < (len : Int) := by omega
      go_wp2_with fail
      refine (alive02 _).mono ?_
      rintro e w5 ⟨rfl, b5⟩
      go_wp2
      go_ret
      exact ⟨rfl, HB.out.trans (b5.mono HB.out.size)⟩
set_option maxHeartbeats 2000000 in
theorem core0 (a : Option Addr) (cap : Nat) (w : World) :
    Calls Try.prog 7 #[.slice a 0 cap] w fun e w' => e = .returned (.bool true) ∧ Below w.heap.size w w' := by
  go_enter Try.func7, Try.ntmps7
  go_wp2_with fail
  refine (le_New _).mono ?_
  rintro e w1 ⟨rfl, hb1, b1, s1⟩
  clear hb1 s1
  go_wp2
  go_loopw [4, 5] (fun vs vi wr => vi = .int .i64 0 ∧ vs = .string ByteArray.empty ∧ Hid (Below w.heap.size w wr)) (fun _ vi _ => 0)
  case atStart => exact ⟨rfl, rfl, b1⟩
  case round =>
    obtain ⟨rfl, rfl, HB⟩ := hrel
    go_wp2_with fail
    refine (alive02 _).mono ?_
    rintro e w5 ⟨rfl, b5⟩
    go_wp2
    go_ret
    exact ⟨rfl, HB.out.trans (b5.mono HB.out.size)⟩
theorem walk (w : World) (s0 : Option Addr) (len0 cap0 : Nat) (h : IsOps w s0 len0 cap0) :
    Calls Try.prog 7 #[.slice s0 len0 cap0] w fun e w' => e = .returned (.bool true) ∧ Below w.heap.size w w' := by
  rcases h with ⟨rfl, rfl, rfl⟩ | ⟨x, rfl, hl, hm, hx⟩
  · exact core0 none 0 w
  · by_cases hl0 : len0 = 0
    · subst hl0; exact core0 _ cap0 w
    · by_cases h40 : 40 < len0
      · have hl2 : 40 < (len0 : Int) := by omega
        have hlm : len0 ≤ 9223372036854775807 := by unfold maxLen at hm; omega
        clear hx
        go_enter Try.func7, Try.ntmps7
        go_wp2_with fail
        refine (le_New _).mono ?_
        rintro e w1 ⟨rfl, hb1, b1, s1⟩
        clear hb1 s1
        go_wp2
        go_ret
        exact ⟨rfl, b1⟩
      · obtain ⟨b, off, spot⟩ := x
        obtain ⟨_, _, _, _, _, _, _, I⟩ := hx 0 (by omega)
        have hspot : spot = none := by simpa [Addr.add] using World.cell?_spot I.c0
        subst hspot
        exact core w b off len0 cap0 (by omega) hl hm hx
theorem own : ownKnob Try.prog.godebug = none := by kernel_rfl
theorem laidOut : laidOutB Try.prog = true := by kernel_rfl
set_option maxRecDepth 100000 in
theorem lifted (os : Os) (started : os.Started) (H : Type) (enc : TypeId × Value → H) :
    ReturnsInHanded {} Try.checked os 7 .any (Rows.leBehindSpec.pre6 enc Try.prog Try.f7 Rows.leBehindRow.domain false) (Rows.leBehindSpec.post enc Try.prog Try.f7 false true false false) := by
  refine returnsInHanded_of_change (C := Try.checked) own started (by kernel_rfl) Try.func7
    (ChangeSpec.witness6 (enc := enc) (C := Try.checked) false ⟨#[], #[.slice none 0 0], []⟩ 8 (by kernel_rfl) (by kernel_rfl) (by kernel_rfl) (by kernel_rfl)) ?_
  intro W base args ds gs before hval0 hW hcnd _
  have hval : ∀ (j : Nat) t v, Try.f7.params[j]? = some t → args[j]? = some v → Value.okWide Try.prog W .any base t v := hval0
  have hW' := hW
  obtain ⟨p, q, hA0, hV, rfl, hfz, hnd⟩ := hW
  have hA : DataW.TrodAll enc Try.prog W 0 (fun _ => true) true Try.f7.params.toList args.toList ds p := hA0
  rw [Try.params7] at hA hval
  obtain ⟨v0, vs0, d0, ds0, p0, q0, hargs, rfl, rfl, h0, r0⟩ := trodAll_cons hA
  obtain ⟨rfl, rfl, rfl⟩ := trodAll_nil r0
  obtain rfl : args = #[v0] := by cases args; simp_all
  obtain ⟨rfl, rfl⟩ := trodVars_none hV
  have k0 := h0
  have lt0 : ∀ x ∈ p0, x.block < W.heap.size := by obtain ⟨m, hm⟩ := k0; exact DataW.trod_lt m _ _ _ hm
  obtain ⟨s0, len0, cap0, rfl⟩ := okWide_slice Try.underlying47 (hval 0 47 v0 rfl rfl)
  have w0 := isOps_of h0
  clear hA0 hval0
  refine (walk W s0 len0 cap0 w0).mono fun e W' ⟨he, bel⟩ => ?_
  subst he
  exact ⟨_, rfl, _, _, _, [], _, [], hW', trodAll_mk1 (shut_bool Try.underlying4 _), (trodAll_cons_mk (Below.trod laidOut (by kernel_rfl) (of_decide_eq_true (by kernel_rfl)) k0 bel lt0) trodAll_mk0), rfl, bel.frame _, fun h => by cases h⟩

theorem over : Rows.leBehindRow.holds Try.pinned (OpenSpec.ofChange Rows.leBehindSpec) :=
  OpenClaim.holds_of_wide 7 Try.f7 rfl rfl rfl rfl rfl rfl rfl ⟨rfl, rfl, rfl, rfl, rfl⟩ rfl rfl rfl rfl rfl (by kernel_rfl) Try.func7 (by kernel_rfl)
    (of_decide_eq_true (by kernel_rfl)) (by unfold Func.isWrapper; first | (rw [if_pos (by decide +kernel)]; kernel_rfl) | (rw [if_neg (by decide +kernel)]; exact ⟨rfl, rfl⟩))
    (fun os started H enc _ => lifted os started H enc)
end LLeBehind
theorem LeBehind_proved : Rows.LeBehindSaid := LLeBehind.over
end Go.Proofs.Ytipnjkemiopjiaa
