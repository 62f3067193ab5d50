/-
  LebBack returns true for every row of numbers, and it reads afterwards as it read before: no condition.
-/
import Derived.Test.YtbpajkoaeopnfacRows
import Derived.Test.YtbpajkoaeopnfacRdF
import Derived.Test.YtbpajkoaeopnfacLebM
import Derived.Deep.RegionHeld3
import Derived.Deep.DrawnRows
import Derived.WalkKit
import Derived.ProofKit
import Derived.OpenShut
import Derived.ShutString
import Derived.ChangeOld
import Derived.Below
set_option linter.unusedVariables false
namespace Go.Proofs.Ytbpajkoaeopnfac
namespace LLebBack
open Go.ChangeShapes Go.WideShapes Go.ChangeAt Go.RowKit
open Go.ChangeMaps (open_string shut_string)
attribute [local go_sem ↓] Go.wp_at_zero Go.wp_at_succ
/-- What the walk is told of a slice of integers that came in. -/
def IsRow (k : IntKind) (w : World) (a : Option Addr) (len cap : Nat) (zs : List Int) : Prop :=
  (a = none ∧ len = 0 ∧ cap = 0 ∧ zs = []) ∨
  ∃ x, a = some x ∧ len ≤ cap ∧ cap ≤ maxLen ∧ zs.length = cap ∧ (∀ i, i < zs.length → w.cell? (x.add i) = some (.int k (zs.getD i 0))) ∧ ∀ n ∈ zs, (Lit.int k n).wf = true
/-- A number as 64 bits without a sign. -/
def uz (z : Int) : Nat := (z % 18446744073709551616).toNat
theorem uz_wrap (z : Int) : IntKind.u64.wrap z = (uz z : Int) := by unfold uz; rw [IntKind.wrap_u64]; omega
theorem uz_le (z : Int) : (uz z : Int) ≤ 18446744073709551615 := by unfold uz; omega
def one (z : Int) : List UInt8 := lebS 10 z ++ lebU 10 (uz z)
def encs : List Int → List UInt8
  | [] => []
  | z :: t => one z ++ encs t
theorem encs_append : ∀ (l m : List Int), encs (l ++ m) = encs l ++ encs m
  | [], m => rfl
  | z :: l, m => by simp only [List.cons_append, encs]; rw [encs_append l m, List.append_assoc]
theorem S_says {z : Int} (h0 : -9223372036854775808 ≤ z) (h1 : z ≤ 9223372036854775807) : Ends (lebS 10 z) ∧ gss (lebS 10 z) = z ∧ (lebS 10 z).length ≤ 10 := lebS_says 10 z (by omega) (roomS_start h0 h1)
theorem U_says (z : Int) : Ends (lebU 10 (uz z)) ∧ gs (lebU 10 (uz z)) = uz z ∧ (lebU 10 (uz z)).length ≤ 10 := lebU_says 10 (uz z) (by omega) (Nat.lt_of_le_of_lt (by have := uz_le z; omega) pow128_10)
theorem encs_len : ∀ (l : List Int), (∀ z ∈ l, -9223372036854775808 ≤ z ∧ z ≤ 9223372036854775807) → (encs l).length ≤ 20 * l.length
  | [], _ => by simp [encs]
  | z :: l, h => by
    have ih := encs_len l fun x hx => h x (by simp [hx])
    have hz := h z (by simp)
    have s1 := (S_says hz.1 hz.2).2.2
    have s2 := (U_says z).2.2
    simp only [encs, one, List.length_append, List.length_cons]; omega
theorem append_bytes {ops : Array Oper} {rest : List Oper} {o : Oper} {a : Act} {Q : Exit → Act → World → Prop} (hgd : o.guard = none) (s x : Operand)
    (ho : o.op = .call { callee := .builtin .append, args := #[s, x], argTypes := #[26, 26] })
    (B : Nat) (wr : World) (v : Value) (acc : List UInt8) (hown : Own wr B v acc) (v2 : Value) (B2 : Nat) (l : List UInt8) (hl : Own wr B2 v2 l) (hne : l ≠ []) (hs : a.eval s = v) (hx : a.eval x = v2)
    (hlen : acc.length + l.length ≤ 1000000000000) (hB : B ≤ wr.heap.size)
    (h : ∀ v' w', Own w' B v' (acc ++ l) → Below B wr w' → wpList Try.prog ops Q rest (a.put o.dst v') w') :
    wpList Try.prog ops Q (o :: rest) a wr := by
  obtain ⟨i, hi, hz0, hz1, hz2⟩ := info_parts Try.info8
  obtain ⟨g, cap, rfl, _, _, _, _, hc, _⟩ := hl.form hne
  refine wpList_append_own (P := Try.prog) wr hgd s x 26 ho B 5 i (.int .u8 0) 1 1 Try.underlying26 hi hz0 hz1 hz2 rfl (by decide) v acc.length (bv acc) hs hown ⟨g, 0, none⟩ l.length cap (bv l) hx (by simp [bv]) ?_ ?_ ?_ ?_ hB ?_
  · intro j u hj
    obtain ⟨c, hc1, rfl⟩ := bv_get l j u hj
    have hlt := (List.getElem?_eq_some_iff.1 hc1).1
    have hg := hc j hlt
    rw [add_at, Nat.zero_add, hg]
    congr 2
    rw [(List.getElem?_eq_some_iff.1 hc1).2]
  · intro u hu; unfold bv at hu; obtain ⟨c, _, rfl⟩ := List.mem_map.mp hu; rfl
  · unfold maxLen; omega
  · omega
  · intro v' w' h1 h2 _
    refine h v' w' ?_ ((Below.refl B wr).grown h2 hB (fun k hk => (hown.base k hk).1))
    unfold Own
    rw [bv_append]
    simpa using h1
theorem take_snoc (L : List Int) (k : Nat) (h : k < L.length) : L.take (k + 1) = L.take k ++ [L.getD k 0] := by
  rw [List.take_add_one]; congr 1; simp [List.getD, List.getElem?_eq_getElem h]
theorem drop_cons (L : List Int) (k : Nat) (h : k < L.length) : L.drop k = L.getD k 0 :: L.drop (k + 1) := by
  rw [List.drop_eq_getElem_cons h]; congr 1; simp [List.getD, List.getElem?_eq_getElem h]
theorem S_reads1 {z : Int} (h0 : -9223372036854775808 ≤ z) (h1 : z ≤ 9223372036854775807) (R : Nat) (m : List UInt8) (w : World) (h : Rd w R (lebS 10 z ++ m) 0) :
    Calls Try.prog 26 #[.pointer (some ⟨R, 0, none⟩)] w fun x w' => x = .returned (.int .i64 z) ∧ Rd w' R m 0 ∧ w.grownBy w' (some R) := by
  have S := S_says h0 h1
  have W := ends_whole (m := m) S.1 S.2.2
  have SR := S_reads (m := m) S.1 S.2.2 S.2.1 h0 h1
  have hS := leb_S_yes R _ 0 w h W.1 SR.1
  rw [W.2.1, SR.2, W.2.2.2] at hS
  exact hS
theorem U_reads1 (z : Int) (R : Nat) (m : List UInt8) (w : World) (h : Rd w R (lebU 10 (uz z) ++ m) 0) :
    Calls Try.prog 28 #[.pointer (some ⟨R, 0, none⟩)] w fun x w' => x = .returned (.int .u64 (uz z)) ∧ Rd w' R m 0 ∧ w.grownBy w' (some R) := by
  have S := U_says z
  have W := ends_whole (m := m) S.1 S.2.2
  have hz := uz_le z
  have SR := U_reads (m := m) S.1 S.2.2 (by rw [S.2.1]; omega)
  have hS := leb_U_yes R _ 0 w h W.1 (by simpa using SR.1)
  rw [W.2.1, SR.2, W.2.2.2, S.2.1] at hS
  exact hS
set_option maxHeartbeats 4000000 in
theorem core (b off len cap : Nat) (L : List Int) (hL : L.length = len) (hlen : len ≤ 200) (hcap : len ≤ cap) (w : World) (hc : ∀ i, i < len → w.cell? ⟨b, off + i, none⟩ = some (.int .i64 (L.getD i 0)))
    (hb : 0 < len → b < w.heap.size) (hr : ∀ z ∈ L, -9223372036854775808 ≤ z ∧ z ≤ 9223372036854775807) :
    Calls Try.prog 6 #[.slice (some ⟨b, off, none⟩) len cap] w fun e w' => e = .returned (.bool true) ∧ Below w.heap.size w w' := by
  have HC : Hid (∀ i, i < len → w.cell? ⟨b, off + i, none⟩ = some (.int .i64 (L.getD i 0))) := hc
  have HR : Hid (∀ z ∈ L, -9223372036854775808 ≤ z ∧ z ≤ 9223372036854775807) := hr
  have HB : Hid (0 < len → b < w.heap.size) := hb
  have HL : Hid (L.length = len) := hL
  have hl200 : ¬ 200 < (len : Int) := by omega
  clear hc hr hb hL
  go_enter Try.func6, Try.ntmps6
  go_wp2
  go_loopw [3, 4] (fun vb vi wr => ∃ k : Nat, k ≤ len ∧ vi = .int .i64 k ∧ Own wr w.heap.size vb (encs (L.take k)) ∧ Below w.heap.size w wr) (fun _ vi _ => len - (intOf vi).toNat)
  case atStart => exact ⟨0, by omega, rfl, Own.nil _ _, Below.refl _ _⟩
  case round =>
    obtain ⟨k, hk, rfl, hown, hbl⟩ := hrel
    by_cases hlt : k < len
    · obtain ⟨z, hz⟩ : ∃ z, L.getD k 0 = z := ⟨_, rfl⟩
      have hbw := HB.out (by omega)
      have HZ : Hid (w.cell? ⟨b, off + k, none⟩ = some (.int .i64 z)) := by rw [Hid, ← hz]; exact HC.out k hlt
      have hcz : wr.cell? ⟨b, off + k, none⟩ = some (.int .i64 z) := (hbl.cell (p := ⟨b, off + k, none⟩) hbw).trans HZ.out
      have hzr := HR.out z (by rw [← hz]; simp [List.getD, List.getElem?_eq_getElem (show k < L.length by have := HL.out; omega)])
      obtain ⟨hz0, hz1⟩ := hzr
      have hel := encs_len (L.take k) (fun x hx => HR.out x (List.mem_of_mem_take hx))
      have hel2 : (encs (L.take k)).length ≤ 4000 := by have : (L.take k).length ≤ k := List.length_take_le _ _; omega
      have HT : Hid (encs (L.take (k + 1)) = encs (L.take k) ++ lebS 10 z ++ lebU 10 (uz z)) := by
        rw [Hid, take_snoc L k (by have := HL.out; omega), encs_append, hz]; simp [encs, one]
      have s1 := S_says hz0 hz1
      have s2 := U_says z
      have hA := fun w => leb_PutS z w hz0 hz1
      have hU := fun w => leb_PutU (uz z) w (uz_le z)
      have hw := uz_wrap z
      have n1 := s1.1.1
      have n2 := s2.1.1
      have m1 := s1.2.2
      have m2 := s2.2.2
      clear s1 s2 hel hz
      generalize encs (L.take k) = acc at *
      generalize lebS 10 z = l1 at *
      generalize lebU 10 (uz z) = l2 at *
      generalize uz z = u at *
      go_wp2_with fail
      refine (hA _).mono ?_
      rintro e w1 ⟨v1, rfl, o1, b1⟩
      have hown1 := hown.stay b1
      have bl1 := hbl.trans (b1.mono hbl.size)
      go_wp2_with (at_builtin; refine append_bytes rfl _ _ rfl w.heap.size _ _ acc hown1 _ _ l1 o1 n1 rfl rfl (by omega) bl1.size ?_)
      intro v2 w2 o2 b2
      have bl2 := bl1.trans b2
      have hcz2 : w2.cell? ⟨b, off + k, none⟩ = some (.int .i64 z) := (bl2.cell (p := ⟨b, off + k, none⟩) hbw).trans HZ.out
      clear hcz hown1 hown o1 hA
      go_wp2_with fail
      refine (hU _).mono ?_
      rintro e w3 ⟨v3, rfl, o3, b3⟩
      have hown3 := o2.stay b3
      have bl3 := bl2.trans (b3.mono bl2.size)
      go_wp2_with (at_builtin; refine append_bytes rfl _ _ rfl w.heap.size _ _ (acc ++ l1) hown3 _ _ l2 o3 n2 rfl rfl (by simp; omega) bl3.size ?_)
      intro v4 w4 o4 b4
      go_wp2
      go_roundw
      case rel => exact ⟨k + 1, by omega, by go_num, by rw [HT.out]; simpa using o4, bl3.trans b4⟩
      case measure => simp [intOf]; omega
    · have hke : k = len := by omega
      subst hke
      rw [List.take_of_length_le (by have := HL.out; omega)] at hown
      have hel := encs_len L HR.out
      have hARG := hown.arg (by have := HL.out; omega)
      clear hel
      go_wp2_with fail
      refine (leb_Read _ _ _ hARG).mono ?_
      rintro e w2 ⟨R, rfl, hr2, hR, hb2⟩
      have q2 := hbl.trans (hb2.mono hbl.size)
      have hRB : w.heap.size ≤ R := Nat.le_trans hbl.size hR
      clear hARG hown hR
      go_wp2
      go_loopw [6] (fun vi wr => ∃ i : Nat, i ≤ k ∧ vi = .int .i64 i ∧ Rd wr R (encs (L.drop i)) 0 ∧ Below w.heap.size w wr) (fun vi _ => k - (intOf vi).toNat)
      case atStart => exact ⟨0, by omega, rfl, hr2, q2⟩
      case round =>
        obtain ⟨i, hi, rfl, hrd, hbi⟩ := hrel
        by_cases hlt : i < k
        · obtain ⟨z, hz⟩ : ∃ z, L.getD i 0 = z := ⟨_, rfl⟩
          have hbw := HB.out (by omega)
          have HZ : Hid (w.cell? ⟨b, off + i, none⟩ = some (.int .i64 z)) := by rw [Hid, ← hz]; exact HC.out i hlt
          have hzr := HR.out z (by rw [← hz]; simp [List.getD, List.getElem?_eq_getElem (show i < L.length by have := HL.out; omega)])
          obtain ⟨hz0, hz1⟩ := hzr
          have hw := uz_wrap z
          have hbR : b ≠ R := by omega
          rw [drop_cons L i (by have := HL.out; omega), hz] at hrd
          simp only [encs, one, List.append_assoc] at hrd
          have hS := S_reads1 hz0 hz1 R _ _ hrd.drew
          have hcz : wr.drew.cell? ⟨b, off + i, none⟩ = some (.int .i64 z) := (hbi.cell (p := ⟨b, off + i, none⟩) hbw).trans HZ.out
          have hlt' : (i : Int) < (k : Int) := by omega
          have hbwr : b < wr.heap.size := Nat.lt_of_lt_of_le hbw hbi.size
          go_wp2_with fail
          go_region_held3 (fun w' => w'.cell? ⟨b, off + i, none⟩ = some (.int .i64 z))
            (first | assumption | go_keep)
            (first
              | (go_at_call 26; refine hS.mono ?_; rintro e w3 ⟨rfl, hr3, hg3⟩; have c3 := hg3.cell hcz (by simpa using hbR))
              | (go_at_call 28; refine (U_reads1 z R _ _ hr3).mono ?_; rintro e w4 ⟨rfl, hr4, hg4⟩; have c4 := hg4.cell c3 (by simpa using hbR)))
          all_goals go_wp2
          have bl3 : Below w.heap.size w w3 := hbi.drew.grown hg3 hbi.size (fun k hk => by simp at hk; omega)
          have bl4 := bl3.grown hg4 bl3.size (fun k hk => by simp at hk; omega)
          go_roundw
          case rel => exact ⟨i + 1, by omega, by go_num, hr4, bl4⟩
          case measure => simp [intOf]; omega
        · have hie : i = k := by omega
          subst hie
          rw [List.drop_of_length_le (by have := HL.out; omega)] at hrd
          go_wp2_with fail
          refine (leb_Fail R _ _ _ hrd).mono ?_
          rintro e w4 ⟨rfl, rfl⟩
          go_wp2_with fail
          refine (leb_Left R _ _ _ hrd).mono ?_
          rintro e w4 ⟨rfl, rfl⟩
          go_wp2_with fail
          refine (alive03 _).mono ?_
          rintro e w5 ⟨rfl, b5⟩
          go_wp2
          go_ret
          exact ⟨rfl, hbi.trans (b5.mono hbi.size)⟩
set_option maxHeartbeats 2000000 in
theorem core0 (a : Option Addr) (cap : Nat) (w : World) :
    Calls Try.prog 6 #[.slice a 0 cap] w fun e w' => e = .returned (.bool true) ∧ Below w.heap.size w w' := by
  go_enter Try.func6, Try.ntmps6
  go_wp2
  go_loopw [3, 4] (fun vb vi wr => vi = .int .i64 0 ∧ vb = .slice none 0 0 ∧ Below w.heap.size w wr) (fun _ vi _ => 0)
  case atStart => exact ⟨rfl, rfl, Below.refl _ _⟩
  case round =>
    obtain ⟨rfl, rfl, hbl⟩ := hrel
    have hARG := (Own.nil wr w.heap.size).arg (by simp)
    go_wp2_with fail
    refine (leb_Read _ _ _ hARG).mono ?_
    rintro e w2 ⟨R, rfl, hr2, hR, hb2⟩
    have q2 := hbl.trans (hb2.mono hbl.size)
    clear hARG
    go_wp2
    go_loopw [6] (fun vi wr => vi = .int .i64 0 ∧ Rd wr R [] 0 ∧ Below w.heap.size w wr) (fun vi _ => 0)
    case atStart => exact ⟨rfl, hr2, q2⟩
    case round =>
      obtain ⟨rfl, hrd, hbi⟩ := hrel
      go_wp2_with fail
      refine (leb_Fail R _ _ _ hrd).mono ?_
      rintro e w4 ⟨rfl, rfl⟩
      go_wp2_with fail
      refine (leb_Left R _ _ _ hrd).mono ?_
      rintro e w4 ⟨rfl, rfl⟩
      go_wp2_with fail
      refine (alive03 _).mono ?_
      rintro e w5 ⟨rfl, b5⟩
      go_wp2
      go_ret
      exact ⟨rfl, hbi.trans (b5.mono hbi.size)⟩
theorem walk (w : World) (s0 : Option Addr) (len0 cap0 : Nat) (z0 : List Int) (h : IsRow .i64 w s0 len0 cap0 z0) :
    Calls Try.prog 6 #[.slice s0 len0 cap0] w fun e w' => e = .returned (.bool true) ∧ Below w.heap.size w w' := by
  rcases h with ⟨rfl, rfl, rfl, rfl⟩ | ⟨x, rfl, hl, hm, hz, hcell, hwz⟩
  · exact core0 none 0 w
  · by_cases hl0 : len0 = 0
    · subst hl0; exact core0 _ cap0 w
    · by_cases h200 : 200 < len0
      · have hl2 : 200 < (len0 : Int) := by omega
        have hlm : len0 ≤ 9223372036854775807 := by unfold maxLen at hm; omega
        clear hcell hwz
        go_enter Try.func6, Try.ntmps6
        go_wp2
        go_ret
        exact ⟨rfl, Below.refl _ _⟩
      · obtain ⟨b, off, spot⟩ := x
        have h0 := hcell 0 (by omega)
        have hspot : spot = none := by simpa [Addr.add] using World.cell?_spot h0
        subst hspot
        have hgd : ∀ i, i < len0 → (z0.take len0).getD i 0 = z0.getD i 0 := by
          intro i hi; simp [List.getD, List.getElem?_take_of_lt hi]
        refine core b off len0 cap0 (z0.take len0) (by simp; omega) (by omega) hl w (fun i hi => ?_) (fun _ => ?_) (fun z hz2 => ?_)
        · rw [hgd i hi, ← hcell i (by omega), add_at]
        · have := World.block_lt_of_cell? _ _ h0
          rw [add_at] at this
          exact this
        · have := bounds_i64 (hwz z (List.mem_of_mem_take hz2)); exact this
theorem own : ownKnob Try.prog.godebug = none := by kernel_rfl
theorem laidOut : laidOutB Try.prog = true := by kernel_rfl
set_option maxRecDepth 100000 in
theorem lifted (os : Os) (started : os.Started) (H : Type) (enc : TypeId × Value → H) :
    ReturnsInHanded {} Try.checked os 6 .any (Rows.lebBackSpec.pre6 enc Try.prog Try.f6 Rows.lebBackRow.domain false) (Rows.lebBackSpec.post enc Try.prog Try.f6 false true false false) := by
  refine returnsInHanded_of_change (C := Try.checked) own started (by kernel_rfl) Try.func6
    (ChangeSpec.witness6 (enc := enc) (C := Try.checked) false ⟨#[], #[.slice none 0 0], []⟩ 8 (by kernel_rfl) (by kernel_rfl) (by kernel_rfl) (by kernel_rfl)) ?_
  intro W base args ds gs before hval0 hW hcnd _
  have hval : ∀ (j : Nat) t v, Try.f6.params[j]? = some t → args[j]? = some v → Value.okWide Try.prog W .any base t v := hval0
  have hW' := hW
  obtain ⟨p, q, hA0, hV, rfl, hfz, hnd⟩ := hW
  have hA : DataW.TrodAll enc Try.prog W 0 (fun _ => true) true Try.f6.params.toList args.toList ds p := hA0
  rw [Try.params6] at hA hval
  obtain ⟨v0, vs0, d0, ds0, p0, q0, hargs, rfl, rfl, h0, r0⟩ := trodAll_cons hA
  obtain ⟨rfl, rfl, rfl⟩ := trodAll_nil r0
  obtain rfl : args = #[v0] := by cases args; simp_all
  obtain ⟨rfl, rfl⟩ := trodVars_none hV
  have k0 := h0
  have lt0 : ∀ x ∈ p0, x.block < W.heap.size := by obtain ⟨m, hm⟩ := k0; exact DataW.trod_lt m _ _ _ hm
  obtain ⟨s0, len0, cap0, rfl⟩ := okWide_slice Try.underlying58 (hval 0 58 v0 rfl rfl)
  obtain ⟨z0, w0⟩ : ∃ zs, IsRow .i64 W s0 len0 cap0 zs := by
    obtain ⟨fuel, hf⟩ := h0
    rcases open_ints Try.underlying58 Try.underlying2 (by kernel_rfl) hf with ⟨hcs, _⟩ | ⟨x, l, c, zs, hcs, _, hl, hm, hz, _, hcell, hwz⟩
    · simp [Value.cells] at hcs
      obtain ⟨rfl, rfl, rfl⟩ := hcs
      exact ⟨[], .inl ⟨rfl, rfl, rfl, rfl⟩⟩
    · simp [Value.cells] at hcs
      obtain ⟨rfl, rfl, rfl⟩ := hcs
      exact ⟨zs, .inr ⟨_, rfl, hl, hm, by simpa using hz, hcell, hwz⟩⟩
  clear hA0 hval0
  refine (walk W s0 len0 cap0 z0 w0).mono fun e W' ⟨he, bel⟩ => ?_
  subst he
  exact ⟨_, rfl, _, _, _, [], _, [], hW', trodAll_mk1 (shut_bool Try.underlying4 _), (trodAll_cons_mk (Below.trod laidOut (by kernel_rfl) (of_decide_eq_true (by kernel_rfl)) k0 bel lt0) trodAll_mk0), rfl, bel.frame _, fun h => by cases h⟩

theorem over : Rows.lebBackRow.holds Try.pinned (OpenSpec.ofChange Rows.lebBackSpec) :=
  OpenClaim.holds_of_wide 6 Try.f6 rfl rfl rfl rfl rfl rfl rfl ⟨rfl, rfl, rfl, rfl, rfl⟩ rfl rfl rfl rfl rfl (by kernel_rfl) Try.func6 (by kernel_rfl)
    (of_decide_eq_true (by kernel_rfl)) (by unfold Func.isWrapper; first | (rw [if_pos (by decide +kernel)]; kernel_rfl) | (rw [if_neg (by decide +kernel)]; exact ⟨rfl, rfl⟩))
    (fun os started H enc _ => lifted os started H enc)
end LLebBack
theorem LebBack_proved : Rows.LebBackSaid := LLebBack.over
end Go.Proofs.Ytbpajkoaeopnfac
