
/-
  Layer 14 (aps), plain: the numbers of some bytes; what a list of numbers tells in its groups; that both ways of giving up come to the same.
-/
import Derived.Test.YtiicmakeoidiaaaApA
import Derived.Test.YtiicmakeoidiaaaRefL
set_option linter.unusedVariables false
namespace Go.Proofs.Ytiicmakeoidiaaa
open Go.RowKit Go.PlainAid
/-- Can the next number be read? -/
def okS (l : List UInt8) : Prop := (hiN 10 l < 10 ∧ hiN 10 l < l.length) ∧ ¬ (hiN 10 l = 9 ∧ gl l 10 ≠ 0 ∧ gl l 10 ≠ 127)
def okB (l : List UInt8) : Bool := decide (hiN 10 l < 10) && decide (hiN 10 l < l.length) && !(decide (hiN 10 l = 9) && (!decide (gl l 10 = 0) && !decide (gl l 10 = 127)))
theorem okB_iff (l : List UInt8) : okB l = true ↔ okS l := by
  unfold okB okS
  simp
  intro h1 h2
  by_cases a : hiN 10 l = 9 <;> by_cases b : gl l 10 = 0 <;> by_cases c : gl l 10 = 127 <;> simp [a, b, c]
def valS (l : List UInt8) : Int := sv (gv l (hiN 10 l + 1)) (hiN 10 l + 1) (gl l (hiN 10 l + 1))
def dropS (l : List UInt8) : List UInt8 := l.drop (hiN 10 l + 1)
theorem valS_bd (l : List UInt8) : -9223372036854775808 ≤ valS l ∧ valS l ≤ 9223372036854775807 := by
  unfold valS sv
  split <;> (unfold wrap64; omega)
def numsF : Nat → List UInt8 → List Int × Bool
  | 0, l => ([], l.isEmpty)
  | f + 1, l => if l.isEmpty = true then ([], true) else if okB l = true then (valS l :: (numsF f (dropS l)).1, (numsF f (dropS l)).2) else ([], false)
def numsZ (l : List UInt8) : List Int × Bool := numsF l.length l
theorem okS_pos {l : List UInt8} (h : okS l) : 0 < l.length := Nat.lt_of_le_of_lt (Nat.zero_le _) h.1.2
theorem dropS_len {l : List UInt8} (h : okS l) : (dropS l).length < l.length := by
  unfold dropS; rw [List.length_drop]; have := okS_pos h; omega
theorem numsF_fuel : ∀ (f g : Nat) (l : List UInt8), l.length ≤ f → l.length ≤ g → numsF f l = numsF g l
  | 0, 0, l, _, _ => rfl
  | 0, g + 1, l, h, _ => by
    have : l = [] := List.length_eq_zero_iff.1 (by omega)
    subst this; rfl
  | f + 1, 0, l, _, h => by
    have : l = [] := List.length_eq_zero_iff.1 (by omega)
    subst this; rfl
  | f + 1, g + 1, l, h1, h2 => by
    simp only [numsF]
    by_cases hk : okB l = true
    · have hd := dropS_len ((okB_iff l).1 hk)
      rw [numsF_fuel f g (dropS l) (by omega) (by omega)]
    · simp [hk]
theorem numsZ_nil : numsZ [] = ([], true) := rfl
theorem numsZ_ok {l : List UInt8} (h : okS l) : numsZ l = (valS l :: (numsZ (dropS l)).1, (numsZ (dropS l)).2) := by
  have hp := okS_pos h
  have hd := dropS_len h
  have hne : ¬ l.isEmpty = true := by intro e; rw [List.isEmpty_iff] at e; subst e; simp at hp
  unfold numsZ
  obtain ⟨k, hk⟩ : ∃ k, l.length = k + 1 := ⟨l.length - 1, by omega⟩
  rw [hk]
  simp only [numsF]
  rw [if_neg hne, if_pos ((okB_iff l).2 h), numsF_fuel k (dropS l).length (dropS l) (by omega) (Nat.le_refl _)]
theorem numsZ_no {l : List UInt8} (hp : l ≠ []) (h : ¬ okS l) : numsZ l = ([], false) := by
  have hl := List.length_pos_iff.2 hp
  have hne : ¬ l.isEmpty = true := by rw [List.isEmpty_iff]; exact hp
  unfold numsZ
  obtain ⟨k, hk⟩ : ∃ k, l.length = k + 1 := ⟨l.length - 1, by omega⟩
  rw [hk]
  simp only [numsF]
  rw [if_neg hne, if_neg (fun e => h ((okB_iff l).1 e))]
def i64r (n : Int) : Prop := -9223372036854775808 ≤ n ∧ n ≤ 9223372036854775807
theorem numsF_bd : ∀ (f : Nat) (l : List UInt8), ∀ n ∈ (numsF f l).1, i64r n
  | 0, l, n, h => by simp [numsF] at h
  | f + 1, l, n, h => by
    simp only [numsF] at h
    split at h
    · simp at h
    · split at h
      · simp only [List.mem_cons] at h
        rcases h with rfl | h
        · exact valS_bd l
        · exact numsF_bd f _ n h
      · simp at h
theorem numsF_len : ∀ (f : Nat) (l : List UInt8), (numsF f l).1.length ≤ f
  | 0, l => by simp [numsF]
  | f + 1, l => by
    simp only [numsF]
    have := numsF_len f (dropS l)
    split
    · simp
    · split
      · simpa using this
      · simp
/-- What a list has told so far: what numbers are left, whether there were too few, the place, what is added, the relocations. -/
structure Ts where
  N : List Int
  bad : Bool
  pl : Int
  add : Int
  out : List Rl
def Ts.hd (s : Ts) : Int := s.N.headD 0
def Ts.tl (s : Ts) : Ts := ⟨s.N.tail, s.bad || s.N.isEmpty, s.pl, s.add, s.out⟩
def w64 (z : Int) : Int := wrap64 z
theorem w64_bd (z : Int) : i64r (w64 z) := by unfold i64r w64 wrap64; omega
theorem i64_w64 (z : Int) : IntKind.i64.wrap z = w64 z := by rw [wrap_i64_is]; unfold w64 wrap64; omega
/-- Have flags a bit? -/
def fb (f b : Int) : Bool := decide (f / b % 2 = 1)
def Ts.setAdd (s : Ts) (a : Int) : Ts := ⟨s.N, s.bad, s.pl, a, s.out⟩
def Ts.setPl (s : Ts) (a : Int) : Ts := ⟨s.N, s.bad, a, s.add, s.out⟩
def tkN (b : Bool) (x : Int) (s : Ts) : Int := if b = true then s.hd else x
def tkS (b : Bool) (s : Ts) : Ts := if b = true then s.tl else s
/-- The next number is added. -/
def tkA (b : Bool) (s : Ts) : Ts := if b = true then s.tl.setAdd (w64 (s.add + s.hd)) else s
def lowT (info : Int) : Nat := us info % 4294967296
def highT (info : Int) : Nat := us info / 4294967296
def mkR (rela : Bool) (pl info add : Int) : Rl := ⟨us pl, lowT info, highT info, add, rela⟩
def relD (rela : Bool) (step info : Int) (s : Ts) : Ts := ⟨s.N, s.bad, w64 (s.pl + step), s.add, s.out ++ [mkR rela (w64 (s.pl + step)) info s.add]⟩
/-- One relocation of a group. -/
def relT (rela : Bool) (f step info : Int) (s : Ts) : Ts :=
  relD rela (tkN (!fb f 2) step s) (tkN (!fb f 1) info (tkS (!fb f 2) s)) (tkA (fb f 8 && !fb f 4) (tkS (!fb f 1) (tkS (!fb f 2) s)))
def relN (rela : Bool) (f step info : Int) : Nat → Ts → Ts
  | 0, s => s
  | n + 1, s => relT rela f step info (relN rela f step info n s)
/-- What a group says is added, ahead of its relocations. -/
def grpC (f : Int) (s : Ts) : Ts := if fb f 8 = true then tkA (fb f 4) s else s.setAdd 0
def grpNo (rela : Bool) (left size f : Int) : Prop := size < 1 ∨ left < size ∨ f < 0 ∨ 15 < f ∨ (fb f 8 = true ∧ rela = false)
def grpNoB (rela : Bool) (left size f : Int) : Bool := decide (size < 1) || decide (left < size) || decide (f < 0) || decide (15 < f) || (fb f 8 && !rela)
theorem grpNoB_iff (rela : Bool) (left size f : Int) : grpNoB rela left size f = true ↔ grpNo rela left size f := by
  unfold grpNoB grpNo
  simp [or_assoc]
def grpIn (rela : Bool) (f : Int) (n : Nat) (s : Ts) : Ts :=
  relN rela f (tkN (fb f 2) 0 s) (tkN (fb f 1) 0 (tkS (fb f 2) s)) n (grpC f (tkS (fb f 1) (tkS (fb f 2) s)))
def grpT (rela : Bool) (left : Int) (s : Ts) : Option Ts :=
  if grpNoB rela left s.hd s.tl.hd = true then none else some (grpIn rela s.tl.hd s.hd.toNat s.tl.tl)
def runT (rela : Bool) (many : Int) : Nat → Ts → Option Ts
  | 0, s => some s
  | k + 1, s => if many ≤ (s.out.length : Int) then some s else (grpT rela (many - (s.out.length : Int)) s).bind (runT rela many k)
def finT (fine : Bool) (o : Option Ts) : Option (List Rl) := o.bind fun s => if s.bad = true ∨ s.N.isEmpty = false ∨ fine = false then none else some s.out
def startT (N : List Int) : Ts := (Ts.mk N false 0 0 []).tl.tl.setPl (Ts.mk N false 0 0 []).tl.hd
def decN (N : List Int) (fine rela : Bool) : Option (List Rl) :=
  if N.headD 0 < 0 ∨ 512 < N.headD 0 then none else finT fine (runT rela (N.headD 0) 513 (startT N))
def apsZ (l : List UInt8) (rela : Bool) : Option (List Rl) :=
  if l.take 4 = [65, 80, 83, 50] then decN (numsZ (l.drop 4)).1 (numsZ (l.drop 4)).2 rela else none
/-! ### What is too few stays too few -/
theorem tl_bad {s : Ts} (h : s.bad = true) : s.tl.bad = true := by simp [Ts.tl, h]
theorem tkS_bad {s : Ts} (b : Bool) (h : s.bad = true) : (tkS b s).bad = true := by unfold tkS; split <;> simp [tl_bad, h]
theorem tkA_bad {s : Ts} (b : Bool) (h : s.bad = true) : (tkA b s).bad = true := by unfold tkA; split <;> simp [Ts.setAdd, tl_bad, h]
theorem relT_bad {s : Ts} (rela : Bool) (f step info : Int) (h : s.bad = true) : (relT rela f step info s).bad = true := by
  unfold relT relD
  exact tkA_bad _ (tkS_bad _ (tkS_bad _ h))
theorem relN_bad {s : Ts} (rela : Bool) (f step info : Int) (h : s.bad = true) : ∀ n, (relN rela f step info n s).bad = true
  | 0 => h
  | n + 1 => relT_bad _ _ _ _ (relN_bad rela f step info h n)
theorem grpC_bad {s : Ts} (f : Int) (h : s.bad = true) : (grpC f s).bad = true := by
  unfold grpC; split
  · exact tkA_bad _ h
  · exact h
theorem grpIn_bad {s : Ts} (rela : Bool) (f : Int) (n : Nat) (h : s.bad = true) : (grpIn rela f n s).bad = true :=
  relN_bad _ _ _ _ (grpC_bad _ (tkS_bad _ (tkS_bad _ h))) _
theorem fin_bad (rela fine : Bool) (many : Int) : ∀ (k : Nat) (s : Ts), s.bad = true → finT fine (runT rela many k s) = none
  | 0, s, h => by simp [runT, finT, h]
  | k + 1, s, h => by
    simp only [runT]
    split
    · simp [finT, h]
    · unfold grpT
      split
      · rfl
      · exact fin_bad rela fine many k _ (grpIn_bad _ _ _ (tl_bad (tl_bad h)))
theorem fin_next_bad (rela fine : Bool) (many : Int) (k : Nat) (s : Ts) (hl : (s.out.length : Int) < many) (h : s.tl.tl.bad = true) : finT fine (runT rela many (k + 1) s) = none := by
  simp only [runT]
  rw [if_neg (by omega)]
  unfold grpT
  split
  · rfl
  · exact fin_bad rela fine many k _ (grpIn_bad _ _ _ h)
theorem fin_next_no (rela fine : Bool) (many : Int) (k : Nat) (s : Ts) (hl : (s.out.length : Int) < many) (h : grpNo rela (many - (s.out.length : Int)) s.hd s.tl.hd) : finT fine (runT rela many (k + 1) s) = none := by
  simp only [runT]
  rw [if_neg (by omega)]
  unfold grpT
  rw [if_pos ((grpNoB_iff _ _ _ _).2 h)]
  rfl
theorem run_no (rela : Bool) (many : Int) (k : Nat) (s : Ts) (hl : (s.out.length : Int) < many) (h : grpNo rela (many - (s.out.length : Int)) s.hd s.tl.hd) : runT rela many (k + 1) s = none := by
  simp only [runT]
  rw [if_neg (by omega)]
  unfold grpT
  rw [if_pos ((grpNoB_iff _ _ _ _).2 h)]
  rfl
theorem run_next (rela : Bool) (many : Int) (k : Nat) (s : Ts) (hl : (s.out.length : Int) < many) (h : ¬ grpNo rela (many - (s.out.length : Int)) s.hd s.tl.hd) :
    runT rela many (k + 1) s = runT rela many k (grpIn rela s.tl.hd s.hd.toNat s.tl.tl) := by
  simp only [runT]
  rw [if_neg (by omega)]
  unfold grpT
  rw [if_neg (fun e => h ((grpNoB_iff _ _ _ _).1 e))]
  rfl
theorem run_end (rela : Bool) (many : Int) (k : Nat) (s : Ts) (hl : many ≤ (s.out.length : Int)) : runT rela many k s = some s := by
  cases k with
  | zero => rfl
  | succ k => simp only [runT]; rw [if_pos hl]
/-! ### How many there are; what they are -/
theorem tl_out (s : Ts) : s.tl.out = s.out := rfl
theorem tkS_out (b : Bool) (s : Ts) : (tkS b s).out = s.out := by unfold tkS; split <;> rfl
theorem tkA_out (b : Bool) (s : Ts) : (tkA b s).out = s.out := by unfold tkA; split <;> rfl
theorem grpC_out (f : Int) (s : Ts) : (grpC f s).out = s.out := by
  unfold grpC; split
  · exact tkA_out _ _
  · rfl
theorem relT_len (rela : Bool) (f step info : Int) (s : Ts) : (relT rela f step info s).out.length = s.out.length + 1 := by
  unfold relT relD
  simp [tkA_out, tkS_out]
theorem relN_len (rela : Bool) (f step info : Int) (s : Ts) : ∀ n, (relN rela f step info n s).out.length = s.out.length + n
  | 0 => rfl
  | n + 1 => by
    have := relN_len rela f step info s n
    simp only [relN, relT_len]; omega
theorem grpIn_len (rela : Bool) (f : Int) (n : Nat) (s : Ts) : (grpIn rela f n s).out.length = s.out.length + n := by
  unfold grpIn
  rw [relN_len, grpC_out, tkS_out, tkS_out]
structure Ts.good (rela : Bool) (s : Ts) : Prop where
  num : ∀ n ∈ s.N, i64r n
  add : i64r s.add
  pl : i64r s.pl
  no : rela = false → s.add = 0
  out : ∀ r ∈ s.out, r.ok ∧ r.has = rela ∧ (rela = false → r.add = 0)
theorem hd_bd {N : List Int} (h : ∀ n ∈ N, i64r n) : i64r (N.headD 0) := by
  cases N with
  | nil => exact ⟨by decide, by decide⟩
  | cons n N => exact h n (by simp)
theorem Ts.good.hd {rela : Bool} {s : Ts} (h : s.good rela) : i64r s.hd := hd_bd h.num
theorem Ts.good.tl {rela : Bool} {s : Ts} (h : s.good rela) : s.tl.good rela := ⟨fun n hn => h.num n (List.mem_of_mem_tail hn), h.add, h.pl, h.no, h.out⟩
theorem Ts.good.tkS {rela : Bool} {s : Ts} (h : s.good rela) (b : Bool) : (tkS b s).good rela := by
  unfold Go.Proofs.Ytiicmakeoidiaaa.tkS; split
  · exact h.tl
  · exact h
theorem Ts.good.tkN {rela : Bool} {s : Ts} (h : s.good rela) (b : Bool) {x : Int} (hx : i64r x) : i64r (tkN b x s) := by
  unfold Go.Proofs.Ytiicmakeoidiaaa.tkN; split
  · exact h.hd
  · exact hx
theorem Ts.good.tkA {rela : Bool} {s : Ts} (h : s.good rela) (b : Bool) (hb : b = true → rela = true) : (tkA b s).good rela := by
  unfold Go.Proofs.Ytiicmakeoidiaaa.tkA; split
  · rename_i e
    exact ⟨h.tl.num, w64_bd _, h.pl, fun e2 => (by have := hb e; rw [e2] at this; cases this), h.out⟩
  · exact h
theorem mkR_ok (rela : Bool) (pl info add : Int) (h : i64r add) : (mkR rela pl info add).ok := by
  have h1 := us_lt pl
  have h2 := us_lt info
  refine ⟨?_, ?_, ?_, h.1, h.2⟩
  · show ((us pl : Nat) : Int) ≤ _; omega
  · show ((us info % 4294967296 : Nat) : Int) ≤ _; omega
  · show ((us info / 4294967296 : Nat) : Int) ≤ _; omega
theorem Ts.good.relD {rela : Bool} {s : Ts} (h : s.good rela) (step info : Int) : (relD rela step info s).good rela := by
  refine ⟨h.num, h.add, w64_bd _, h.no, fun r hr => ?_⟩
  simp only [Go.Proofs.Ytiicmakeoidiaaa.relD, List.mem_append, List.mem_singleton] at hr
  rcases hr with hr | rfl
  · exact h.out r hr
  · exact ⟨mkR_ok _ _ _ _ h.add, rfl, h.no⟩
theorem Ts.good.relT {rela : Bool} {s : Ts} (h : s.good rela) (f step info : Int) (hf : fb f 8 = true → rela = true) : (relT rela f step info s).good rela := by
  unfold Go.Proofs.Ytiicmakeoidiaaa.relT
  exact Ts.good.relD (((h.tkS _).tkS _).tkA _ (fun e => hf (by simp at e; exact e.1))) _ _
theorem Ts.good.relN {rela : Bool} {s : Ts} (h : s.good rela) (f step info : Int) (hf : fb f 8 = true → rela = true) : ∀ n, (relN rela f step info n s).good rela
  | 0 => h
  | n + 1 => (Ts.good.relN h f step info hf n).relT f step info hf
theorem Ts.good.grpC {rela : Bool} {s : Ts} (h : s.good rela) (f : Int) (hf : fb f 8 = true → rela = true) : (grpC f s).good rela := by
  unfold Go.Proofs.Ytiicmakeoidiaaa.grpC; split
  · rename_i e; exact h.tkA _ (fun _ => hf e)
  · exact ⟨h.num, ⟨by show (-9223372036854775808 : Int) ≤ 0; decide, by show (0 : Int) ≤ 9223372036854775807; decide⟩, h.pl, fun _ => rfl, h.out⟩
theorem Ts.good.grpIn {rela : Bool} {s : Ts} (h : s.good rela) (f : Int) (n : Nat) (hf : fb f 8 = true → rela = true) : (grpIn rela f n s).good rela :=
  (((h.tkS _).tkS _).grpC f hf).relN f _ _ hf n
theorem no_flag {rela : Bool} {left size f : Int} (h : ¬ grpNo rela left size f) : fb f 8 = true → rela = true := by
  intro e
  cases rela with
  | true => rfl
  | false => exact absurd (.inr (.inr (.inr (.inr ⟨e, rfl⟩)))) h
theorem Ts.good.runT {rela : Bool} {many : Int} : ∀ (k : Nat) {s s' : Ts}, s.good rela → runT rela many k s = some s' → s'.good rela
  | 0, s, s', h, e => by simp [Go.Proofs.Ytiicmakeoidiaaa.runT] at e; subst e; exact h
  | k + 1, s, s', h, e => by
    by_cases hl : many ≤ (s.out.length : Int)
    · rw [run_end _ _ _ _ hl] at e; injection e with e; subst e; exact h
    · by_cases hn : grpNo rela (many - (s.out.length : Int)) s.hd s.tl.hd
      · rw [run_no _ _ _ _ (by omega) hn] at e; cases e
      · rw [run_next _ _ _ _ (by omega) hn] at e
        exact Ts.good.runT k (h.tl.tl.grpIn _ _ (no_flag hn)) e
theorem runT_len {rela : Bool} {many : Int} (hm : many ≤ 512) : ∀ (k : Nat) {s s' : Ts}, (s.out.length : Int) ≤ 512 → runT rela many k s = some s' → (s'.out.length : Int) ≤ 512
  | 0, s, s', h, e => by simp [runT] at e; subst e; exact h
  | k + 1, s, s', h, e => by
    by_cases hl : many ≤ (s.out.length : Int)
    · rw [run_end _ _ _ _ hl] at e; injection e with e; subst e; exact h
    · by_cases hn : grpNo rela (many - (s.out.length : Int)) s.hd s.tl.hd
      · rw [run_no _ _ _ _ (by omega) hn] at e; cases e
      · rw [run_next _ _ _ _ (by omega) hn] at e
        refine runT_len hm k ?_ e
        rw [grpIn_len]
        have : ¬ (many - (s.out.length : Int) < s.hd) := fun e => hn (.inr (.inl e))
        have : ¬ (s.hd < 1) := fun e => hn (.inl e)
        show ((s.out.length + s.hd.toNat : Nat) : Int) ≤ 512
        omega
theorem startT_good {N : List Int} (rela : Bool) (h : ∀ n ∈ N, i64r n) : (startT N).good rela := by
  have h0 : i64r 0 := ⟨by decide, by decide⟩
  have g : (Ts.mk N false 0 0 []).good rela := ⟨h, h0, h0, fun _ => rfl, fun r hr => by simp at hr⟩
  exact ⟨g.tl.tl.num, h0, g.tl.hd, fun _ => rfl, fun r hr => by simp [startT, Ts.setPl, Ts.tl] at hr⟩
theorem decN_good {N : List Int} {fine rela : Bool} {L : List Rl} (h : ∀ n ∈ N, i64r n) (e : decN N fine rela = some L) : (∀ r ∈ L, r.ok ∧ r.has = rela ∧ (rela = false → r.add = 0)) ∧ L.length ≤ 512 := by
  unfold decN at e
  split at e
  · cases e
  · rename_i hm
    unfold finT at e
    cases hr : runT rela (N.headD 0) 513 (startT N) with
    | none => rw [hr] at e; cases e
    | some s =>
      rw [hr] at e
      simp only [Option.bind_some] at e
      split at e
      · cases e
      · injection e with e
        subst e
        refine ⟨(Ts.good.runT 513 (startT_good rela h) hr).out, ?_⟩
        have := runT_len (by omega) 513 (s := startT N) (by simp [startT, Ts.setPl, Ts.tl]) hr
        omega
theorem apsZ_good {l : List UInt8} {rela : Bool} {L : List Rl} (e : apsZ l rela = some L) : (∀ r ∈ L, r.ok ∧ r.has = rela ∧ (rela = false → r.add = 0)) ∧ L.length ≤ 512 := by
  unfold apsZ at e
  split at e
  · exact decN_good (numsF_bd _ _) e
  · cases e
end Go.Proofs.Ytiicmakeoidiaaa
