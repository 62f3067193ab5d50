
/-
  Paths as lists of bytes: what stands between the signs, the names, the stack of names, the clean path. Nothing of the program.
-/
import Derived.Lib.Split
import Derived.Lib.SplitLaws
import Derived.Lib.Join
import Derived.Lib.Strings
set_option linter.unusedVariables false
namespace Go.Proofs.YtmcefflgbliehaaDoor
open Go.Lib
/-- What stands between the signs c. -/
def sp (c : UInt8) : List UInt8 → List (List UInt8)
  | [] => [[]]
  | b :: l => if b = c then [] :: sp c l else (b :: (sp c l).headD []) :: (sp c l).tail
theorem sp_ne (c : UInt8) : ∀ l, sp c l ≠ []
  | [] => by simp [sp]
  | b :: l => by unfold sp; split <;> simp
theorem sp_form (c : UInt8) (l : List UInt8) : sp c l = (sp c l).headD [] :: (sp c l).tail := by
  have := sp_ne c l
  cases h : sp c l with
  | nil => exact absurd h this
  | cons x r => rfl
theorem index_cons_eq (c : UInt8) (l : List UInt8) : index (c :: l) [c] = 0 := by
  unfold index
  simp [List.isPrefixOf]
theorem index_cons_ne (b c : UInt8) (l : List UInt8) (h : ¬ b = c) : index (b :: l) [c] = if index l [c] == -1 then -1 else index l [c] + 1 := by
  rw [index]
  rw [if_neg (by simp [List.isPrefixOf]; exact fun e => h e.symm)]
theorem sp_miss (c : UInt8) : ∀ l, index l [c] = -1 → sp c l = [l]
  | [], _ => rfl
  | b :: l, h => by
    by_cases e : b = c
    · subst e; rw [index_cons_eq] at h; cases h
    · rw [index_cons_ne b c l e] at h
      split at h
      · rename_i h1
        rw [sp, if_neg e, sp_miss c l (by simpa using h1)]; rfl
      · rename_i h1
        have := index_ge l [c]
        omega
theorem sp_hit (c : UInt8) : ∀ (l : List UInt8) (i : Nat), index l [c] = i → sp c l = l.take i :: sp c (l.drop (i + 1))
  | [], i, h => by simp [index] at h
  | b :: l, i, h => by
    by_cases e : b = c
    · subst e
      rw [index_cons_eq] at h
      have : i = 0 := by omega
      subst this
      simp [sp]
    · rw [index_cons_ne b c l e] at h
      split at h
      · omega
      · obtain ⟨j, rfl⟩ : ∃ j, i = j + 1 := ⟨i - 1, by have := index_ge l [c]; rename_i h1; simp at h1; omega⟩
        have hj : index l [c] = j := by omega
        rw [sp, if_neg e, sp_hit c l j hj]
        simp
theorem splitK_sp (c : UInt8) : ∀ (k : Nat) (l : List UInt8), count l [c] = k → splitK [c] 0 k l = sp c l
  | k, l, h => by
    rcases Int.lt_or_le (index l [c]) 0 with hn | hn
    · have hm : index l [c] = -1 := by have := index_ge l [c]; omega
      rw [count_miss hm] at h
      subst h
      rw [sp_miss c l hm]; rfl
    · obtain ⟨i, hi⟩ : ∃ i : Nat, index l [c] = i := ⟨(index l [c]).toNat, by omega⟩
      rw [count_hit (by simp) hi] at h
      cases k with
      | zero => omega
      | succ k =>
        have h2 : count (l.drop (i + 1)) [c] = k := by simp at h; omega
        rw [splitK, if_neg (by rw [hi]; simp), hi, sp_hit c l i hi]
        simp only [Int.toNat_natCast, Nat.add_zero, List.length_singleton]
        rw [splitK_sp c k _ h2]
theorem split_sp (c : UInt8) (l : List UInt8) : split l [c] = sp c l := splitK_sp c _ l rfl
/-- so many bytes ahead of the first piece -/
def ahead (p : List UInt8) (r : List (List UInt8)) : List (List UInt8) := (p ++ r.headD []) :: r.tail
theorem ahead_nil (c : UInt8) (l : List UInt8) : ahead [] (sp c l) = sp c l := by
  unfold ahead; rw [List.nil_append]; exact (sp_form c l).symm
theorem ahead_eq (c : UInt8) (p l : List UInt8) : ahead p (sp c (c :: l)) = p :: sp c l := by
  unfold ahead; simp [sp]
theorem ahead_ne (b c : UInt8) (p l : List UInt8) (h : ¬ b = c) : ahead p (sp c (b :: l)) = ahead (p ++ [b]) (sp c l) := by
  unfold ahead; simp [sp, h]
theorem sp_append (c : UInt8) : ∀ (l m : List UInt8), sp c (l ++ c :: m) = sp c l ++ sp c m
  | [], m => by simp [sp]
  | b :: l, m => by
    by_cases e : b = c
    · subst e
      have ih := sp_append b l m
      simp only [List.cons_append, sp, if_true, ih]
    · have ih := sp_append c l m
      simp only [List.cons_append, sp, if_neg e, ih]
      rw [sp_form c l]
      simp
/-- No sign within a piece. -/
theorem sp_no (c : UInt8) : ∀ (l : List UInt8), ∀ n ∈ sp c l, c ∉ n
  | [], n, h => by simp [sp] at h; subst h; simp
  | b :: l, n, h => by
    unfold sp at h
    split at h
    · rcases List.mem_cons.1 h with rfl | h
      · simp
      · exact sp_no c l n h
    · rename_i e
      rcases List.mem_cons.1 h with rfl | h
      · intro hc
        rcases List.mem_cons.1 hc with h1 | h1
        · exact e h1.symm
        · have := sp_form c l
          exact sp_no c l ((sp c l).headD []) (by rw [this]; simp) h1
      · exact sp_no c l n (by rw [sp_form c l]; exact List.mem_cons_of_mem _ h)
/-- Each byte of a piece is one of the text. -/
theorem sp_of (c : UInt8) : ∀ (l : List UInt8), ∀ n ∈ sp c l, ∀ b ∈ n, b ∈ l
  | [], n, h, b, hb => by simp [sp] at h; subst h; simp at hb
  | x :: l, n, h, b, hb => by
    unfold sp at h
    split at h
    · rcases List.mem_cons.1 h with rfl | h
      · simp at hb
      · exact List.mem_cons_of_mem _ (sp_of c l n h b hb)
    · rcases List.mem_cons.1 h with rfl | h
      · rcases List.mem_cons.1 hb with h1 | h1
        · subst h1; simp
        · exact List.mem_cons_of_mem _ (sp_of c l ((sp c l).headD []) (by rw [sp_form c l]; simp) b h1)
      · exact List.mem_cons_of_mem _ (sp_of c l n (by rw [sp_form c l]; exact List.mem_cons_of_mem _ h) b hb)
/-- The pieces' lengths, one more each. -/
def tot : List (List UInt8) → Nat
  | [] => 0
  | n :: r => n.length + 1 + tot r
theorem tot_append (a b : List (List UInt8)) : tot (a ++ b) = tot a + tot b := by
  induction a with
  | nil => simp [tot]
  | cons x r ih => simp [tot, ih]; omega
theorem tot_sp (c : UInt8) : ∀ l : List UInt8, tot (sp c l) = l.length + 1
  | [] => rfl
  | b :: l => by
    have ih := tot_sp c l
    unfold sp
    split
    · simp [tot, ih]; omega
    · rw [sp_form c l] at ih
      simp [tot] at ih ⊢; omega
theorem tot_filter (p : List UInt8 → Bool) (r : List (List UInt8)) : tot (r.filter p) ≤ tot r := by
  induction r with
  | nil => simp [tot]
  | cons x r ih =>
    rw [List.filter_cons]
    split <;> simp [tot] <;> omega
/-- A name that says something. -/
def ok (n : List UInt8) : Bool := n != [] && n != [46]
def names (l : List UInt8) : List (List UInt8) := (sp 47 l).filter ok
theorem names_append (l m : List UInt8) : names (l ++ 47 :: m) = names l ++ names m := by
  unfold names; rw [sp_append, List.filter_append]
def push (st : List (List UInt8)) (n : List UInt8) : List (List UInt8) := if n = [46, 46] then st.dropLast else st ++ [n]
def stk (ns : List (List UInt8)) : List (List UInt8) := ns.foldl push []
def slashed (st : List (List UInt8)) : List UInt8 := (st.map fun n => 47 :: n).flatten
/-- The path of a stack. -/
def whole (st : List (List UInt8)) : List UInt8 := 47 :: join st [47]
theorem slashed_append (a b : List (List UInt8)) : slashed (a ++ b) = slashed a ++ slashed b := by unfold slashed; simp
theorem whole_cons (n : List UInt8) (r : List (List UInt8)) : whole (n :: r) = slashed (n :: r) := by
  unfold whole slashed
  rw [join_cons]
  simp [joinTail]
theorem whole_eq (st : List (List UInt8)) : whole st = if slashed st = [] then [47] else slashed st := by
  cases st with
  | nil => rfl
  | cons n r => rw [whole_cons, if_neg (by simp [slashed])]
theorem tot_slashed (st : List (List UInt8)) : (slashed st).length = tot st := by
  induction st with
  | nil => rfl
  | cons n r ih => simp [slashed, tot] at ih ⊢; omega
theorem stk_snoc (ns : List (List UInt8)) (n : List UInt8) : stk (ns ++ [n]) = push (stk ns) n := by unfold stk; simp
theorem stk_take (ns : List (List UInt8)) (k : Nat) (h : k < ns.length) : stk (ns.take (k + 1)) = push (stk (ns.take k)) (ns.getD k []) := by
  rw [List.take_add_one, List.getElem?_eq_getElem h, ← stk_snoc]
  simp [List.getD, List.getElem?_eq_getElem h]
theorem push_sub (st : List (List UInt8)) (n x : List UInt8) (h : x ∈ push st n) : x ∈ st ∨ (x = n ∧ ¬ n = [46, 46]) := by
  unfold push at h
  split at h
  · exact .inl (List.dropLast_subset _ h)
  · rcases List.mem_append.1 h with h | h
    · exact .inl h
    · exact .inr ⟨by simpa using h, by assumption⟩
theorem fold_sub : ∀ (ns st : List (List UInt8)) (x : List UInt8), x ∈ ns.foldl push st → x ∈ st ∨ (x ∈ ns ∧ ¬ x = [46, 46])
  | [], st, x, h => .inl h
  | n :: r, st, x, h => by
    rcases fold_sub r (push st n) x h with h | ⟨h, h2⟩
    · rcases push_sub st n x h with h | ⟨rfl, h⟩
      · exact .inl h
      · exact .inr ⟨by simp, h⟩
    · exact .inr ⟨List.mem_cons_of_mem _ h, h2⟩
theorem stk_sub (ns : List (List UInt8)) (x : List UInt8) (h : x ∈ stk ns) : x ∈ ns ∧ ¬ x = [46, 46] := by
  rcases fold_sub ns [] x h with h | h
  · simp at h
  · exact h
theorem fold_same : ∀ (ns st : List (List UInt8)), (∀ x ∈ ns, ¬ x = [46, 46]) → ns.foldl push st = st ++ ns
  | [], st, _ => by simp
  | n :: r, st, h => by
    have hn : push st n = st ++ [n] := by unfold push; rw [if_neg (h n (by simp))]
    rw [List.foldl_cons, hn, fold_same r _ (fun x hx => h x (List.mem_cons_of_mem _ hx))]
    simp
theorem stk_same (ns : List (List UInt8)) (h : ∀ x ∈ ns, ¬ x = [46, 46]) : stk ns = ns := by
  unfold stk; rw [fold_same ns [] h]; simp
theorem stk_stk (ns : List (List UInt8)) : stk (stk ns) = stk ns := stk_same _ fun x hx => (stk_sub ns x hx).2
theorem stk_append (a b : List (List UInt8)) : stk (a ++ b) = b.foldl push (stk a) := by unfold stk; rw [List.foldl_append]
theorem tot_dropLast (st : List (List UInt8)) : tot st.dropLast ≤ tot st := by
  rcases List.eq_nil_or_concat st with rfl | ⟨r, n, rfl⟩
  · simp
  · rw [List.concat_eq_append, List.dropLast_concat, tot_append]; omega
theorem tot_fold : ∀ (ns st : List (List UInt8)), tot (ns.foldl push st) ≤ tot st + tot ns
  | [], st => by simp [tot]
  | n :: r, st => by
    have ih := tot_fold r (push st n)
    have hp : tot (push st n) ≤ tot st + (n.length + 1) := by
      unfold push
      split
      · have := tot_dropLast st; omega
      · rw [tot_append]; simp [tot]
    rw [List.foldl_cons]; simp [tot]; omega
theorem sp_whole : ∀ (n : List UInt8) (r : List (List UInt8)), (∀ x ∈ n :: r, (47 : UInt8) ∉ x) → sp 47 (slashed (n :: r)) = [] :: n :: r
  | n, r, h => by
    have h0 : ∀ (m : List UInt8), (47 : UInt8) ∉ m → sp 47 m = [m] := by
      intro m
      induction m with
      | nil => intro _; rfl
      | cons b l ih =>
        intro hm
        rw [sp, if_neg (fun e => hm (by rw [e]; simp)), ih (fun e => hm (List.mem_cons_of_mem _ e))]; rfl
    cases r with
    | nil => simp [slashed, sp, h0 n (h n (by simp))]
    | cons m r =>
      have ih := sp_whole m r (fun x hx => h x (List.mem_cons_of_mem _ hx))
      have e : slashed (n :: m :: r) = 47 :: (n ++ slashed (m :: r)) := by simp [slashed]
      have e2 : slashed (m :: r) = 47 :: (slashed (m :: r)).tail := by simp [slashed]
      rw [e, sp, if_pos rfl]
      congr 1
      rw [e2, sp_append, h0 n (h n (by simp))]
      have e3 : sp 47 (47 :: (slashed (m :: r)).tail) = [] :: m :: r := by rw [← e2]; exact ih
      rw [sp, if_pos rfl] at e3
      injection e3 with _ e3
      rw [e3]; rfl
/-- The names of a stack's path are the stack. -/
theorem names_whole (st : List (List UInt8)) (h : ∀ x ∈ st, (47 : UInt8) ∉ x ∧ ok x = true) : names (whole st) = st := by
  cases st with
  | nil => rfl
  | cons n r =>
    rw [whole_cons, names, sp_whole n r (fun x hx => (h x hx).1), List.filter_cons, if_neg (by simp [ok])]
    rw [List.filter_eq_self]
    exact fun x hx => (h x hx).2
theorem names_ok (l : List UInt8) : ∀ x ∈ names l, (47 : UInt8) ∉ x ∧ ok x = true := by
  intro x hx
  unfold names at hx
  rw [List.mem_filter] at hx
  exact ⟨sp_no 47 l x hx.1, hx.2⟩
theorem names_stk (l : List UInt8) : names (whole (stk (names l))) = stk (names l) :=
  names_whole _ fun x hx => names_ok l x (stk_sub _ x hx).1
/-- From the last name to the first, each .. leaves one out. -/
def rcl : List (List UInt8) → Nat → List UInt8 → List UInt8
  | [], _, s => s
  | n :: r, out, s => if n = [46, 46] then rcl r (out + 1) s else if 0 < out then rcl r (out - 1) s else rcl r 0 (47 :: n ++ s)
theorem rcl_stk : ∀ (r : List (List UInt8)) (out : Nat) (s : List UInt8), rcl r out s = slashed ((stk r.reverse).take ((stk r.reverse).length - out)) ++ s
  | [], out, s => by simp [rcl, stk, slashed]
  | n :: r, out, s => by
    rw [List.reverse_cons, stk_snoc]
    generalize hS : stk r.reverse = S
    unfold rcl push
    by_cases h : n = [46, 46]
    · rw [if_pos h, if_pos h, rcl_stk r, hS, List.length_dropLast, List.dropLast_eq_take, List.take_take]
      congr 3
      omega
    · rw [if_neg h, if_neg h]
      by_cases ho : 0 < out
      · rw [if_pos ho, rcl_stk r, hS, List.length_append, List.take_append_of_le_length (by simp; omega)]
        congr 3
        simp; omega
      · have : out = 0 := by omega
        subst this
        rw [if_neg ho, rcl_stk r, hS, Nat.sub_zero, Nat.sub_zero, List.take_length, List.take_length, slashed_append]
        simp [slashed]
theorem rcl_whole (ns : List (List UInt8)) : (if rcl ns.reverse 0 [] = [] then [47] else rcl ns.reverse 0 []) = whole (stk ns) := by
  rw [rcl_stk, List.reverse_reverse, whole_eq]
  simp
/-- A byte that paths have. -/
def pb (c : UInt8) : Bool := decide (33 ≤ c.toNat) && decide (c.toNat ≤ 126)
def good (l : List UInt8) : Bool := l.all pb && decide (l.length ≤ 256)
/-- The clean path, if there is one. -/
def can (l : List UInt8) : Bool := good l && hasPrefix l [47]
def cl (l : List UInt8) : List UInt8 := whole (stk (names l))
theorem whole_head (st : List (List UInt8)) : hasPrefix (whole st) [47] = true := by unfold whole hasPrefix; simp [List.isPrefixOf]
theorem can_head {l : List UInt8} (h : can l = true) : ∃ t, l = 47 :: t := by
  unfold can hasPrefix at h
  cases l with
  | nil => simp [List.isPrefixOf] at h
  | cons b t => simp [List.isPrefixOf] at h; exact ⟨t, by rw [h.2]⟩
theorem cl_le {l : List UInt8} (h : can l = true) : (cl l).length ≤ l.length := by
  obtain ⟨t, rfl⟩ := can_head h
  have h1 : names (47 :: t) = (sp 47 t).filter ok := by unfold names; rw [sp, if_pos rfl, List.filter_cons, if_neg (by simp [ok])]
  have h2 := tot_fold (names (47 :: t)) []
  have h3 := tot_filter ok (sp 47 t)
  have h4 := tot_sp 47 t
  rw [h1] at h2
  unfold cl
  rw [whole_eq]
  split
  · simp
  · rw [tot_slashed]
    rw [h1]
    unfold stk
    simp [tot] at h2 ⊢
    omega
theorem slashed_of (st : List (List UInt8)) (b : UInt8) (h : b ∈ slashed st) : b = 47 ∨ ∃ n ∈ st, b ∈ n := by
  unfold slashed at h
  simp only [List.mem_flatten, List.mem_map] at h
  obtain ⟨l, ⟨n, hn, rfl⟩, hb⟩ := h
  rcases List.mem_cons.1 hb with h | h
  · exact .inl h
  · exact .inr ⟨n, hn, h⟩
theorem cl_of (l : List UInt8) (b : UInt8) (h : b ∈ cl l) : b = 47 ∨ b ∈ l := by
  unfold cl at h
  rw [whole_eq] at h
  split at h
  · exact .inl (by simpa using h)
  · rcases slashed_of _ b h with h | ⟨n, hn, hb⟩
    · exact .inl h
    · have h1 := (stk_sub _ n hn).1
      unfold names at h1
      exact .inr (sp_of 47 l n (List.mem_filter.1 h1).1 b hb)
theorem cl_can {l : List UInt8} (h : can l = true) : can (cl l) = true := by
  have hl := cl_le h
  have h0 := h
  unfold can good at h ⊢
  simp only [Bool.and_eq_true, decide_eq_true_eq, List.all_eq_true] at h ⊢
  refine ⟨⟨?_, by omega⟩, whole_head _⟩
  intro b hb
  rcases cl_of l b hb with rfl | hb
  · decide
  · exact h.1.1 b hb
theorem cl_cl (l : List UInt8) : cl (cl l) = cl l := by
  show whole (stk (names (whole (stk (names l))))) = whole (stk (names l))
  rw [names_stk, stk_stk]
end Go.Proofs.YtmcefflgbliehaaDoor
