
/-
  Layer 18 (conf): notes, blanks and empty lines say nothing, plain.
-/
import Derived.Test.YtmcefflgbliehaaDoorCfZ
import Derived.Test.YtmcefflgbliehaaDoorCnF
set_option linter.unusedVariables false
namespace Go.Proofs.YtmcefflgbliehaaDoor
open Go.RowKit Go.PlainAid Go.Sort
/-- A property without its line; a part; a configuration. -/
def erP (p : Pr) : Pr := ⟨p.name, p.value, 0⟩
def erS (s : Sc) : Sc := ⟨s.name, s.props.map erP⟩
def erF (F : Cf) : Cf := ⟨F.dirs.map erP, F.secs.map erS⟩
theorem find_er (nm : List UInt8) (l : List Pr) : (l.map erP).find? (isP nm) = (l.find? (isP nm)).map erP := by
  rw [List.find?_map]; rfl
theorem fst_er (nm : List UInt8) : ∀ (l : List Pr) (k : Nat), fstI (isP nm) (l.map erP) k = fstI (isP nm) l k
  | [], k => rfl
  | p :: t, k => by
    rw [List.map_cons, fstI, fstI, fst_er nm t (k + 1)]; rfl
theorem tell_er (l : List Pr) (t : Td) (n : Int) : (tellC l t n).map erP = tellC (l.map erP) t 0 := by
  unfold tellC
  rw [find_er, fst_er]
  cases l.find? (isP t.name) with
  | none => simp [erP]
  | some q => simp [List.map_set, erP]
theorem tellS_er (ss : List Sc) (t : Td) (n : Int) : (tellS ss t n).map erS = tellS (ss.map erS) t 0 := by
  unfold tellS
  rw [List.getLast?_map]
  cases ss.getLast? with
  | none => rfl
  | some x => simp [erS, tell_er, List.map_dropLast]
theorem beg_er (ss : List Sc) (l : List UInt8) : begC (ss.map erS) l = begC ss l := by
  unfold begC
  rw [List.any_map]; rfl
theorem fol_er (ds : List Pr) (t : Td) (n : Int) : (folD ds t n).map erP = folD (ds.map erP) t 0 := by
  unfold folD
  split
  · simp [erP]
  · rfl
/-- What a line does hangs on the configuration but for its lines' numbers. -/
theorem take_er (F : Cf) (l : List UInt8) (n : Int) : erF (takeC F l n).1 = (takeC (erF F) l 0).1 ∧ (takeC F l n).2 = (takeC (erF F) l 0).2 := by
  have hs : (erF F).secs = [] ↔ F.secs = [] := by unfold erF; simp
  unfold takeC
  by_cases h1 : plainC l = false
  · rw [if_pos h1, if_pos h1]; exact ⟨rfl, rfl⟩
  · rw [if_neg h1, if_neg h1]
    by_cases h2 : saidC l = []
    · rw [if_pos h2, if_pos h2]; exact ⟨rfl, rfl⟩
    · rw [if_neg h2, if_neg h2]
      by_cases h3 : Lib.hasPrefix (saidC l) [91] = true
      · rw [if_pos h3, if_pos h3, show begC (erF F).secs = begC (F.secs.map erS) from rfl, beg_er]
        split
        · exact ⟨by simp [erF, erS], rfl⟩
        · exact ⟨rfl, rfl⟩
      · rw [if_neg h3, if_neg h3]
        by_cases h4 : readB (saidC l) = false
        · rw [if_pos h4, if_pos h4]; exact ⟨rfl, rfl⟩
        · rw [if_neg h4, if_neg h4]
          by_cases h5 : F.secs = []
          · rw [if_pos h5, if_pos (hs.2 h5)]
            split
            · exact ⟨by simp [erF, fol_er], rfl⟩
            · exact ⟨rfl, rfl⟩
          · rw [if_neg h5, if_neg (fun h => h5 (hs.1 h))]
            exact ⟨by simp [erF, tellS_er], rfl⟩
/-- It hangs on what the line says alone. -/
theorem take_hangs (F : Cf) {l m : List UInt8} (n : Int) (h1 : plainC l = plainC m) (h2 : saidC l = saidC m) : takeC F l n = takeC F m n := by
  unfold takeC; rw [h1, h2]
def ntB : List UInt8 := [32, 35, 32, 121]
def ntA : List UInt8 := [35, 32, 120, 32, 61, 32, 49]
def ntC : List UInt8 := [32, 9]
theorem trim_front (a : List UInt8) : trimC (32 :: a) = trimC a := by
  rw [trim_eq, trim_eq, List.reverse_cons, List.dropWhile_append]
  split
  · rename_i h
    have : a.reverse.dropWhile bl = [] := by simpa using h
    rw [this]
    have e : bl 32 = true := by decide
    simp [List.dropWhile, e]
  · rw [List.reverse_append]
    have e : bl 32 = true := by decide
    simp [e]
theorem trim_back (a : List UInt8) : trimC (a ++ [32]) = trimC a := by
  rw [trim_eq, trim_eq, List.reverse_append]
  have e : bl 32 = true := by decide
  simp [e]
theorem said_note (x : List UInt8) : saidC (32 :: (x ++ ntB)) = saidC x := by
  unfold saidC
  by_cases h : (35 : UInt8) ∈ x
  · obtain ⟨a, b, rfl, ha⟩ := List.eq_append_cons_of_mem h
    rw [cut_app 35 a b ha, show 32 :: (a ++ 35 :: b ++ ntB) = (32 :: a) ++ 35 :: (b ++ ntB) by simp, cut_app 35 (32 :: a) _ (by simp [ha])]
    exact trim_front a
  · rw [cut_none 35 x h, show 32 :: (x ++ ntB) = (32 :: (x ++ [32])) ++ 35 :: [32, 121] by simp [ntB], cut_app 35 _ _ (by simp [h])]
    show trimC (32 :: (x ++ [32])) = trimC x
    rw [trim_front, trim_back]
theorem plain_note (x : List UInt8) : plainC (32 :: (x ++ ntB)) = plainC x := by
  unfold plainC
  rw [List.all_cons, List.all_append, show plB 32 = true by decide, show ntB.all plB = true by decide]
  simp
theorem take_note (F : Cf) (x : List UInt8) (n : Int) : takeC F (32 :: (x ++ ntB)) n = takeC F x n := take_hangs F n (plain_note x) (said_note x)
theorem take_ntA (F : Cf) (n : Int) : takeC F ntA n = (F, 0) := take_2 (by decide) (by decide)
theorem take_ntC (F : Cf) (n : Int) : takeC F ntC n = (F, 0) := take_2 (by decide) (by decide)
/-- What stands for a line then, as lines. -/
def blk (b : Bool) (x : List UInt8) : List (List UInt8) := (if b then [ntA, ntC] else []) ++ [32 :: (x ++ ntB)]
def blks (bf : Nat → Bool) : Nat → List (List UInt8) → List (List UInt8)
  | _, [] => []
  | i, x :: r => blk (bf i) x ++ blks bf (i + 1) r
theorem blks_snoc (bf : Nat → Bool) : ∀ (i : Nat) (xs : List (List UInt8)) (x : List UInt8), blks bf i (xs ++ [x]) = blks bf i xs ++ blk (bf (i + xs.length)) x
  | i, [], x => by simp [blks]
  | i, y :: r, x => by
    rw [List.cons_append, blks, blks, blks_snoc bf (i + 1) r x, List.append_assoc, List.length_cons, show i + 1 + r.length = i + (r.length + 1) by omega]
theorem goC_blk (F : Cf) (b : Bool) (x : List UInt8) (r : List (List UInt8)) (k : Int) : ∃ k', goC F (blk b x ++ r) k = goC F ((32 :: (x ++ ntB)) :: r) k' := by
  unfold blk
  cases b with
  | false => exact ⟨k, by simp⟩
  | true =>
    refine ⟨k + 1 + 1, ?_⟩
    rw [if_pos rfl]
    show goC F (ntA :: ntC :: (32 :: (x ++ ntB)) :: r) k = _
    rw [goC, take_ntA, if_pos rfl, goC, take_ntC, if_pos rfl]
/-- What lines do, and what they do with notes between them. -/
theorem go_notes (bf : Nat → Bool) : ∀ (xs : List (List UInt8)) (i : Nat) (F G : Cf) (k k' : Int), erF F = erF G →
    erF (goC F xs k).1 = erF (goC G (blks bf i xs) k').1 ∧ (goC F xs k).2.2 = (goC G (blks bf i xs) k').2.2
  | [], i, F, G, k, k', h => ⟨h, rfl⟩
  | x :: r, i, F, G, k, k', h => by
    rw [blks]
    obtain ⟨k2, h2⟩ := goC_blk G (bf i) x (blks bf (i + 1) r) k'
    rw [h2, goC, goC, take_note]
    obtain ⟨a1, a2⟩ := take_er F x k
    obtain ⟨b1, b2⟩ := take_er G x k2
    rw [h] at a1 a2
    rw [← b1] at a1
    rw [← b2] at a2
    rw [← a2]
    split
    · exact go_notes bf r (i + 1) _ _ _ _ a1
    · exact ⟨rfl, rfl⟩
/-- What stands for a line then, as a text. -/
def piece (b : Bool) (x : List UInt8) : List UInt8 := (if b then ntA ++ 10 :: (ntC ++ [10]) else []) ++ 32 :: (x ++ ntB)
theorem sp_piece (b : Bool) (x : List UInt8) (hx : (10 : UInt8) ∉ x) : sp 10 (piece b x) = blk b x := by
  have h1 : sp 10 (32 :: (x ++ ntB)) = [32 :: (x ++ ntB)] := sp_one 10 _ (by simp [ntB, hx])
  unfold piece blk
  cases b with
  | false => simpa using h1
  | true =>
    rw [if_pos rfl, if_pos rfl, show ntA ++ 10 :: (ntC ++ [10]) ++ 32 :: (x ++ ntB) = ntA ++ 10 :: (ntC ++ 10 :: (32 :: (x ++ ntB))) by simp, sp_append, sp_append, h1,
      sp_one 10 ntA (by decide), sp_one 10 ntC (by decide)]
    rfl
/-- The text behind so many lines. -/
def moreT (bf : Nat → Bool) (xs : List (List UInt8)) : Nat → List UInt8
  | 0 => []
  | k + 1 => (if k = 0 then [] else moreT bf xs k ++ [10]) ++ piece (bf k) (xs.getD k [])
theorem sp_more (bf : Nat → Bool) (xs : List (List UInt8)) (hx : ∀ x ∈ xs, (10 : UInt8) ∉ x) : ∀ k, k + 1 ≤ xs.length → sp 10 (moreT bf xs (k + 1)) = blks bf 0 (xs.take (k + 1))
  | 0, hk => by
    have e : xs.take 1 = [xs.getD 0 []] := by
      cases xs with
      | nil => simp at hk
      | cons a r => simp
    rw [moreT, if_pos rfl, List.nil_append, e, sp_piece _ _ (by
      have : xs.getD 0 [] ∈ xs.take 1 := by rw [e]; simp
      exact hx _ (List.mem_of_mem_take this))]
    simp [blks]
  | k + 1, hk => by
    have e : xs.take (k + 1 + 1) = xs.take (k + 1) ++ [xs.getD (k + 1) []] := by
      rw [List.take_add_one, List.getElem?_eq_getElem (by omega)]
      simp [List.getD, List.getElem?_eq_getElem (show k + 1 < xs.length by omega)]
    have hm : xs.getD (k + 1) [] ∈ xs := by
      rw [List.getD, List.getElem?_eq_getElem (show k + 1 < xs.length by omega)]
      exact List.getElem_mem _
    have ih := sp_more bf xs hx k (by omega)
    rw [moreT, if_neg (by omega), List.append_assoc, List.singleton_append, sp_append, ih, sp_piece _ _ (hx _ hm), e, blks_snoc, List.length_take, Nat.min_eq_left (by omega), Nat.zero_add]
theorem sp_sum (c : UInt8) : ∀ l : List UInt8, ((sp c l).map List.length).sum + (sp c l).length = l.length + 1
  | [] => by simp [sp]
  | b :: l => by
    have ih := sp_sum c l
    have hf := sp_form c l
    unfold sp
    split
    · simp only [List.map_cons, List.sum_cons, List.length_cons, List.length_nil]; omega
    · rw [hf] at ih
      simp only [List.map_cons, List.sum_cons, List.length_cons] at ih ⊢
      omega
theorem piece_len (b : Bool) (x : List UInt8) : (piece b x).length ≤ x.length + 16 := by
  unfold piece
  cases b <;> simp [ntA, ntB, ntC]
theorem more_len (bf : Nat → Bool) (xs : List (List UInt8)) : ∀ k, k ≤ xs.length → (moreT bf xs k).length ≤ ((xs.take k).map List.length).sum + 17 * k
  | 0, hk => by simp [moreT]
  | k + 1, hk => by
    have ih := more_len bf xs k (by omega)
    have e : xs.take (k + 1) = xs.take k ++ [xs.getD k []] := by
      rw [List.take_add_one, List.getElem?_eq_getElem (by omega)]
      simp [List.getD, List.getElem?_eq_getElem (show k < xs.length by omega)]
    have hp := piece_len (bf k) (xs.getD k [])
    rw [moreT, e, List.map_append, List.sum_append, List.length_append]
    simp only [List.map_cons, List.map_nil, List.sum_cons, List.sum_nil]
    split
    · simp only [List.length_nil]; omega
    · rw [List.length_append, List.length_singleton]; omega
theorem more_le (bf : Nat → Bool) (l : List UInt8) (hl : l.length ≤ 4000) (h2 : (sp 10 l).length ≤ 100) (k : Nat) (hk : k ≤ (sp 10 l).length) : (moreT bf (sp 10 l) k).length ≤ 6000 := by
  have h := more_len bf (sp 10 l) k hk
  have hs := sp_sum 10 l
  have ht : (((sp 10 l).take k).map List.length).sum ≤ ((sp 10 l).map List.length).sum := by
    conv => rhs; rw [← List.take_append_drop k (sp 10 l)]
    rw [List.map_append, List.sum_append]; omega
  omega
/-- The statement's aim. -/
theorem notes_same (bf : Nat → Bool) (l : List UInt8) (hl : l.length ≤ 4000) (h2 : (sp 10 l).length ≤ 100) :
    erF (parseC l).1 = erF (parseC (moreT bf (sp 10 l) (sp 10 l).length)).1 ∧ (parseC l).2.2 = (parseC (moreT bf (sp 10 l) (sp 10 l).length)).2.2 := by
  have hm := more_le bf l hl h2 _ (Nat.le_refl _)
  have hn : (sp 10 l).length ≠ 0 := fun h => sp_ne 10 l (List.length_eq_zero_iff.1 h)
  obtain ⟨k, hk⟩ : ∃ k, (sp 10 l).length = k + 1 := ⟨(sp 10 l).length - 1, by omega⟩
  have hsp := sp_more bf (sp 10 l) (sp_no 10 l) k (by omega)
  rw [← hk, List.take_length] at hsp
  unfold parseC
  rw [if_neg (by omega), if_neg (by omega), hsp]
  exact go_notes bf (sp 10 l) 0 noCf noCf 1 1 rfl
end Go.Proofs.YtmcefflgbliehaaDoor
