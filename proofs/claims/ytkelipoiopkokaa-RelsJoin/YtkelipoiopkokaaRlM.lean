
/-
  Layer 12 (rels): relocations as plain data; what is written is read, what is read is written.
-/
import Derived.Test.YtkelipoiopkokaaHdM
import Derived.Test.YtkelipoiopkokaaRowB
import Derived.Test.YtkelipoiopkokaaBufD
set_option linter.unusedVariables false
namespace Go.Proofs.Ytkelipoiopkokaa
open Go.RowKit Go.PlainAid
theorem wrap_i64_is (n : Int) : IntKind.i64.wrap n = (n + 9223372036854775808) % 18446744073709551616 - 9223372036854775808 := by
  simp [IntKind.wrap, IntKind.bits, IntKind.signed]
  omega
/-- A relocation. -/
structure Rl where
  pl : Nat
  type : Nat
  sym : Nat
  add : Int
  has : Bool
def Rl.cells (r : Rl) : List Value := [.int .u64 r.pl, .int .u32 r.type, .int .u32 r.sym, .int .i64 r.add, .bool r.has]
structure Rl.ok (r : Rl) : Prop where
  pl : (r.pl : Int) ≤ 18446744073709551615
  type : (r.type : Int) ≤ 4294967295
  sym : (r.sym : Int) ≤ 4294967295
  lo : -9223372036854775808 ≤ r.add
  hi : r.add ≤ 9223372036854775807
/-- How many bytes one has. -/
def sizeR (rela : Bool) : Nat := if rela then 24 else 16
/-- What is added, of a number that is read. -/
def sg (n : Nat) : Int := IntKind.i64.wrap (n : Int)
/-- The number of what is added. -/
def us (z : Int) : Nat := (IntKind.u64.wrap z).toNat
theorem us_is (z : Int) : ((us z : Nat) : Int) = IntKind.u64.wrap z := by
  unfold us; have : 0 ≤ IntKind.u64.wrap z := by rw [IntKind.wrap_u64]; omega
  omega
theorem us_lt (z : Int) : us z < 18446744073709551616 := by have := us_is z; rw [IntKind.wrap_u64] at this; omega
theorem sg_us (z : Int) (h0 : -9223372036854775808 ≤ z) (h1 : z ≤ 9223372036854775807) : sg (us z) = z := by
  unfold sg; rw [us_is, IntKind.wrap_u64, wrap_i64_is]; omega
theorem us_sg (n : Nat) (h : n < 18446744073709551616) : us (sg n) = n := by
  have e := us_is (sg n)
  have e2 : sg n = ((n : Int) + 9223372036854775808) % 18446744073709551616 - 9223372036854775808 := wrap_i64_is _
  rw [IntKind.wrap_u64] at e
  omega
theorem sg_lo (n : Nat) : -9223372036854775808 ≤ sg n := by unfold sg; rw [wrap_i64_is]; omega
theorem sg_hi (n : Nat) : sg n ≤ 9223372036854775807 := by unfold sg; rw [wrap_i64_is]; omega
/-- The relocation at a place. -/
def rlAt (l : List UInt8) (p : Nat) (rela : Bool) : Rl := ⟨rd l p 8, rd l (p + 8) 4, rd l (p + 12) 4, if rela then sg (rd l (p + 16) 8) else 0, rela⟩
def rowR (l : List UInt8) (rela : Bool) (n : Nat) : List Rl := (List.range n).map fun i => rlAt l (i * sizeR rela) rela
def relsZ (l : List UInt8) (rela : Bool) : Option (List Rl) :=
  if l.length % sizeR rela = 0 ∧ l.length / sizeR rela ≤ 512 then some (rowR l rela (l.length / sizeR rela)) else none
def rlB (r : Rl) : List UInt8 := leN 8 r.pl ++ (leN 4 r.type ++ (leN 4 r.sym ++ (if r.has then leN 8 (us r.add) else [])))
def rlGood (rela : Bool) (r : Rl) : Bool := (r.has == rela) && (rela || r.add == 0)
def flatB (l : List Rl) : List UInt8 := l.flatMap rlB
def encR (l : List Rl) (rela : Bool) : Option (List UInt8) := if l.length ≤ 512 ∧ l.all (rlGood rela) = true then some (flatB l) else none
theorem rlAt_ok (l : List UInt8) (p : Nat) (rela : Bool) : (rlAt l p rela).ok := by
  have h1 := rd8 l p
  have h2 := rd4 l (p + 8)
  have h3 := rd4 l (p + 12)
  refine ⟨?_, ?_, ?_, ?_, ?_⟩
  · show ((rd l p 8 : Nat) : Int) ≤ _; omega
  · show ((rd l (p + 8) 4 : Nat) : Int) ≤ _; omega
  · show ((rd l (p + 12) 4 : Nat) : Int) ≤ _; omega
  · show _ ≤ (if rela then sg (rd l (p + 16) 8) else 0)
    split
    · exact sg_lo _
    · omega
  · show (if rela then sg (rd l (p + 16) 8) else 0) ≤ _
    split
    · exact sg_hi _
    · omega
theorem rowR_len (l : List UInt8) (rela : Bool) (n : Nat) : (rowR l rela n).length = n := by simp [rowR]
theorem rowR_zero (l : List UInt8) (rela : Bool) : rowR l rela 0 = [] := rfl
theorem rowR_succ (l : List UInt8) (rela : Bool) (n : Nat) : rowR l rela (n + 1) = rowR l rela n ++ [rlAt l (n * sizeR rela) rela] := by
  simp [rowR, List.range_succ]
theorem rowR_ok (l : List UInt8) (rela : Bool) (n : Nat) : ∀ r ∈ rowR l rela n, r.ok := by
  intro r hr
  simp only [rowR, List.mem_map] at hr
  obtain ⟨i, _, rfl⟩ := hr
  exact rlAt_ok _ _ _
theorem rlB_len {rela : Bool} {r : Rl} (h : r.has = rela) : (rlB r).length = sizeR rela := by
  subst h
  unfold rlB sizeR
  split <;> simp [leN_length]
theorem flatB_len {rela : Bool} : ∀ {l : List Rl}, (∀ r ∈ l, r.has = rela) → (flatB l).length = l.length * sizeR rela
  | [], _ => by simp [flatB]
  | r :: l, h => by
    have e : flatB (r :: l) = rlB r ++ flatB l := rfl
    rw [e, List.length_append, rlB_len (h r (by simp)), flatB_len fun x hx => h x (by simp [hx]), List.length_cons, Nat.add_mul]
    omega
theorem flatB_snoc (l : List Rl) (r : Rl) : flatB (l ++ [r]) = flatB l ++ rlB r := by simp [flatB]
theorem flatB_app (l m : List Rl) : flatB (l ++ m) = flatB l ++ flatB m := by simp [flatB]
theorem sizeR_pos (rela : Bool) : 16 ≤ sizeR rela ∧ sizeR rela ≤ 24 := by cases rela <;> decide
theorem rd_left (a b : List UInt8) (p s : Nat) (h : p + s ≤ a.length) : rd (a ++ b) p s = rd a p s := by
  rw [rd_in h, rd_in (by simp; omega)]
  unfold win
  rw [List.drop_append_of_le_length (by omega), List.take_append_of_le_length (by simp; omega)]
theorem rd_right (a b : List UInt8) (p s : Nat) : rd (a ++ b) (a.length + p) s = rd b p s := by
  unfold rd
  by_cases h : p + s ≤ b.length
  · rw [if_pos h, if_pos (by simp; omega)]
    unfold win
    rw [← List.drop_drop, List.drop_left]
  · rw [if_neg h, if_neg (by simp; omega)]
theorem rlAt_left (a b : List UInt8) (p : Nat) (rela : Bool) (h : p + sizeR rela ≤ a.length) : rlAt (a ++ b) p rela = rlAt a p rela := by
  have := sizeR_pos rela
  unfold rlAt
  rw [rd_left a b p 8 (by omega), rd_left a b (p + 8) 4 (by omega), rd_left a b (p + 12) 4 (by omega)]
  cases rela with
  | false => simp only [Bool.false_eq_true, if_false]
  | true =>
    have : sizeR true = 24 := rfl
    rw [rd_left a b (p + 16) 8 (by omega)]
theorem rlAt_right (a b : List UInt8) (p : Nat) (rela : Bool) : rlAt (a ++ b) (a.length + p) rela = rlAt b p rela := by
  unfold rlAt
  rw [rd_right, Nat.add_assoc, rd_right, Nat.add_assoc, rd_right, Nat.add_assoc, rd_right]
/-- Rows behind one another. -/
theorem rowR_app (a b : List UInt8) (rela : Bool) (n m : Nat) (h : a.length = n * sizeR rela) : rowR (a ++ b) rela (n + m) = rowR a rela n ++ rowR b rela m := by
  unfold rowR
  rw [List.range_add, List.map_append, List.map_map]
  congr 1
  · apply List.map_congr_left
    intro i hi
    rw [List.mem_range] at hi
    apply rlAt_left
    have : (i + 1) * sizeR rela ≤ n * sizeR rela := Nat.mul_le_mul_right _ hi
    rw [Nat.add_mul] at this
    omega
  · apply List.map_congr_left
    intro i _
    show rlAt (a ++ b) ((n + i) * sizeR rela) rela = _
    rw [Nat.add_mul, ← h]
    exact rlAt_right _ _ _ _
theorem rd_leN (a s : List UInt8) (k n : Nat) (hn : n < 256 ^ k) : rd (a ++ (leN k n ++ s)) a.length k = n := by
  have h := rd_right a (leN k n ++ s) 0 k
  rw [Nat.add_zero] at h
  rw [h, rd_left _ _ _ _ (by rw [leN_length]; omega), rd_in (by rw [leN_length]; omega)]
  have e : win (leN k n) 0 k = leN k n := by unfold win; rw [List.drop_zero, List.take_of_length_le (by rw [leN_length]; omega)]
  rw [e, rdN_leN, Nat.mod_eq_of_lt hn]
/-- What is written of one is read. -/
theorem rlAt_rlB (r : Rl) (h : r.ok) (rela : Bool) (hg : rlGood rela r = true) : rlAt (rlB r) 0 rela = r := by
  obtain ⟨pl, ty, sy, ad, hs⟩ := r
  obtain ⟨h1, h2, h3, h4, h5⟩ := h
  simp only at h1 h2 h3 h4 h5
  simp only [rlGood, Bool.and_eq_true, beq_iff_eq, Bool.or_eq_true] at hg
  obtain ⟨rfl, hg⟩ := hg
  have e8 : (256 : Nat) ^ 8 = 18446744073709551616 := by decide
  have e4 : (256 : Nat) ^ 4 = 4294967296 := by decide
  obtain ⟨t, ht⟩ : ∃ t, (if hs then leN 8 (us ad) else []) = t := ⟨_, rfl⟩
  have k1 : rd (rlB ⟨pl, ty, sy, ad, hs⟩) 0 8 = pl := rd_leN [] _ 8 pl (by omega)
  have k2 : rd (rlB ⟨pl, ty, sy, ad, hs⟩) 8 4 = ty := by
    have := rd_leN (leN 8 pl) (leN 4 sy ++ t) 4 ty (by omega)
    rw [leN_length] at this
    rw [← ht] at this
    exact this
  have k3 : rd (rlB ⟨pl, ty, sy, ad, hs⟩) 12 4 = sy := by
    have := rd_leN (leN 8 pl ++ leN 4 ty) t 4 sy (by omega)
    simp only [List.length_append, leN_length] at this
    rw [← ht, List.append_assoc] at this
    exact this
  unfold rlAt
  rw [Nat.zero_add, Nat.zero_add, Nat.zero_add, k1, k2, k3]
  cases hs with
  | false =>
    have h0 : ad = 0 := by simpa using hg
    subst h0
    rfl
  | true =>
    have k4 : rd (rlB ⟨pl, ty, sy, ad, true⟩) 16 8 = us ad := by
      have := rd_leN (leN 8 pl ++ (leN 4 ty ++ leN 4 sy)) [] 8 (us ad) (by have := us_lt ad; omega)
      simp only [List.length_append, leN_length, List.append_nil, List.append_assoc] at this
      exact this
    rw [k4, if_pos rfl, sg_us ad h4 h5]
theorem good_has {rela : Bool} {l : List Rl} (h : l.all (rlGood rela) = true) : ∀ r ∈ l, r.has = rela := by
  intro r hr
  have := List.all_eq_true.1 h r hr
  simp only [rlGood, Bool.and_eq_true, beq_iff_eq] at this
  exact this.1
theorem rowR_flat (rela : Bool) : ∀ (l : List Rl), (∀ r ∈ l, r.ok) → l.all (rlGood rela) = true → rowR (flatB l) rela l.length = l
  | [], _, _ => rfl
  | r :: l, ho, hg => by
    have e : flatB (r :: l) = rlB r ++ flatB l := rfl
    have hr : rlGood rela r = true := List.all_eq_true.1 hg r (by simp)
    have hg2 : l.all (rlGood rela) = true := List.all_eq_true.2 fun x hx => List.all_eq_true.1 hg x (by simp [hx])
    have hh : r.has = rela := good_has hg r (by simp)
    rw [e, List.length_cons, Nat.add_comm, rowR_app _ _ _ _ _ (by rw [rlB_len hh]; omega), rowR_flat rela l (fun x hx => ho x (by simp [hx])) hg2]
    show [rlAt (rlB r) (0 * sizeR rela) rela] ++ l = r :: l
    rw [Nat.zero_mul, rlAt_rlB r (ho r (by simp)) rela hr]
    rfl
/-- What is written is read as it was. -/
theorem rels_back (l : List Rl) (rela : Bool) (b : List UInt8) (ho : ∀ r ∈ l, r.ok) (h : encR l rela = some b) : relsZ b rela = some l := by
  unfold encR at h
  split at h
  · rename_i hc
    injection h with h
    subst h
    have hl := flatB_len (good_has hc.2)
    have hp := sizeR_pos rela
    unfold relsZ
    rw [hl, Nat.mul_mod_left, Nat.mul_div_cancel _ (by omega), if_pos ⟨rfl, hc.1⟩, rowR_flat rela l ho hc.2]
  · cases h
theorem take_step (l : List UInt8) (p k : Nat) : l.take (p + k) = l.take p ++ win l p k := by
  unfold win; rw [List.take_add]
theorem leN_rdN' : ∀ (l : List UInt8), leN l.length (rdN l) = l
  | [] => rfl
  | c :: l => by
    have hc := c.toNat_lt
    rw [List.length_cons, leN, rdN, show (c.toNat + 256 * rdN l) % 256 = c.toNat by omega, show (c.toNat + 256 * rdN l) / 256 = rdN l by omega, leN_rdN' l]
    congr 1
    unfold b8
    exact UInt8.ofNat_toNat
theorem leN_rd (l : List UInt8) (p k : Nat) (h : p + k ≤ l.length) : leN k (rd l p k) = win l p k := by
  have := leN_rdN' (win l p k)
  rw [win_len l p k h] at this
  rw [rd_in h, this]
theorem win_app (l : List UInt8) (p a b : Nat) : win l p (a + b) = win l p a ++ win l (p + a) b := by
  unfold win; rw [List.take_add, List.drop_drop]
/-- What is read of one is written. -/
theorem rlB_rlAt (l : List UInt8) (p : Nat) (rela : Bool) (h : p + sizeR rela ≤ l.length) : rlB (rlAt l p rela) = win l p (sizeR rela) := by
  have hp := sizeR_pos rela
  unfold rlB rlAt
  simp only
  rw [leN_rd l p 8 (by omega), leN_rd l (p + 8) 4 (by omega), leN_rd l (p + 12) 4 (by omega)]
  cases rela with
  | false =>
    rw [if_neg (by simp), show sizeR false = 8 + (4 + 4) from rfl, win_app, win_app, List.append_nil]
  | true =>
    have hs : sizeR true = 24 := rfl
    rw [if_pos rfl, if_pos rfl, us_sg _ (rd8 _ _), leN_rd l (p + 16) 8 (by omega), show sizeR true = 8 + (4 + (4 + 8)) from rfl, win_app, win_app, win_app]
theorem flat_rowR (l : List UInt8) (rela : Bool) : ∀ n, n * sizeR rela ≤ l.length → flatB (rowR l rela n) = l.take (n * sizeR rela)
  | 0, _ => by simp [rowR, flatB]
  | n + 1, h => by
    rw [Nat.add_mul, Nat.one_mul] at h ⊢
    rw [rowR_succ, flatB_snoc, flat_rowR l rela n (by omega), rlB_rlAt l _ rela h, take_step]
theorem rowR_good (l : List UInt8) (rela : Bool) (n : Nat) : (rowR l rela n).all (rlGood rela) = true := by
  rw [List.all_eq_true]
  intro r hr
  simp only [rowR, List.mem_map] at hr
  obtain ⟨i, _, rfl⟩ := hr
  unfold rlGood rlAt
  cases rela <;> simp
/-- What is read is written as it was. -/
theorem rels_again (b : List UInt8) (rela : Bool) (L : List Rl) (h : relsZ b rela = some L) : encR L rela = some b := by
  unfold relsZ at h
  split at h
  · rename_i hc
    injection h with h
    subst h
    have hd := Nat.div_add_mod b.length (sizeR rela)
    rw [hc.1, Nat.add_zero, Nat.mul_comm] at hd
    unfold encR
    rw [rowR_len, if_pos ⟨hc.2, rowR_good _ _ _⟩, flat_rowR b rela _ (by omega), hd, List.take_length]
  · cases h
theorem relsZ_ok {l : List UInt8} {rela : Bool} {L : List Rl} (h : relsZ l rela = some L) : (∀ r ∈ L, r.ok) ∧ L.length ≤ 512 ∧ l.length = L.length * sizeR rela := by
  unfold relsZ at h
  split at h
  · rename_i hc
    injection h with h
    subst h
    have hd := Nat.div_add_mod l.length (sizeR rela)
    rw [hc.1, Nat.add_zero, Nat.mul_comm] at hd
    exact ⟨rowR_ok _ _ _, by rw [rowR_len]; exact hc.2, by rw [rowR_len]; exact hd.symm⟩
  · cases h
theorem relsZ_join {a b : List UInt8} {rela : Bool} {X Y : List Rl} (hx : relsZ a rela = some X) (hy : relsZ b rela = some Y) :
    relsZ (a ++ b) rela = if X.length + Y.length ≤ 512 then some (X ++ Y) else none := by
  have kx := relsZ_ok hx
  have ky := relsZ_ok hy
  have hp := sizeR_pos rela
  have el : (a ++ b).length = (X.length + Y.length) * sizeR rela := by rw [List.length_append, kx.2.2, ky.2.2, Nat.add_mul]
  have ex : X = rowR a rela X.length := by
    unfold relsZ at hx
    split at hx
    · injection hx with hx
      have : a.length / sizeR rela = X.length := by rw [kx.2.2, Nat.mul_div_cancel _ (by omega)]
      rw [this] at hx; exact hx.symm
    · cases hx
  have ey : Y = rowR b rela Y.length := by
    unfold relsZ at hy
    split at hy
    · injection hy with hy
      have : b.length / sizeR rela = Y.length := by rw [ky.2.2, Nat.mul_div_cancel _ (by omega)]
      rw [this] at hy; exact hy.symm
    · cases hy
  unfold relsZ
  rw [el, Nat.mul_mod_left, Nat.mul_div_cancel _ (by omega), rowR_app a b rela _ _ kx.2.2, ← ex, ← ey]
  by_cases h : X.length + Y.length ≤ 512
  · rw [if_pos ⟨rfl, h⟩, if_pos h]
  · rw [if_neg (fun k => h k.2), if_neg h]
end Go.Proofs.Ytkelipoiopkokaa
