
/-
  Layer 4, the program's and the reference's: IsClean, Join, Base, Up, Under, Child, Archive keep their contracts.
-/
import Derived.Test.YtmcefflgbliehaaDoorPathE
import Derived.RegionTactic
import Derived.Deep.QuietTactic
import Derived.BigQuiet
set_option linter.unusedVariables false
namespace Go.Proofs.YtmcefflgbliehaaDoor
open Go.RowKit Go.PlainAid
/-- Is it what Clean answers for it? -/
def isCl (l : List UInt8) : Bool := can l && (cl l == l)
theorem isCl_eq (s : ByteArray) : isCl s.data.toList = ((clE s.data.toList == 0) && ((tx (clT s.data.toList)).toList == s.toList)) := by
  rw [tx_list, Lib.toList_data]
  unfold isCl clE clT
  cases can s.data.toList <;> simp
set_option maxHeartbeats 1000000 in
theorem path_IsClean (s : ByteArray) (w : World) (hm : Mx w) (hs : s.size ≤ 100000) :
    Calls Tryd.prog 76 #[.string s] w fun e w' => e = .returned (.bool (isCl s.data.toList)) ∧ Below w.heap.size w w' := by
  have hC := path_Clean s w hm hs
  rw [isCl_eq]
  generalize clE s.data.toList = E at *
  generalize tx (clT s.data.toList) = T at *
  cases hE : (E == 0)
  all_goals
    go_enter Tryd.func76, Tryd.ntmps76
    go_wp2_with (go_at_call 28; refine hC.mono ?_; rintro e w1 ⟨rfl, hb⟩)
    go_ret
    exact ⟨by simp, hb⟩
def joinT (d n : List UInt8) : List UInt8 := if Lib.hasPrefix n [47] then clT n else clT (d ++ 47 :: n)
def joinE (d n : List UInt8) : Int := if Lib.hasPrefix n [47] then clE n else clE (d ++ 47 :: n)
theorem add_slash (d n : ByteArray) : (d ++ ⟨#[47]⟩ ++ n).data.toList = d.data.toList ++ 47 :: n.data.toList := by
  rw [← tx_data d, ← tx_data n, show (⟨#[47]⟩ : ByteArray) = tx [47] from rfl, tx_append, tx_append, data_tx, data_tx, data_tx]; simp
theorem good_slash (d n : List UInt8) (h : good (d ++ 47 :: n) = true) : good d = true ∧ good n = true := by
  unfold good at *
  simp only [Bool.and_eq_true, List.all_append, List.all_cons, List.length_append, List.length_cons, decide_eq_true_eq] at *
  exact ⟨⟨h.1.1, by omega⟩, ⟨h.1.2.2, by omega⟩⟩
theorem can_bad (d n : List UInt8) (h : good d = false ∨ good n = false) : can (d ++ 47 :: n) = false := by
  unfold can
  cases hg : good (d ++ 47 :: n) with
  | false => rfl
  | true =>
    have := good_slash d n hg
    rcases h with h | h
    · rw [h] at this; simp at this
    · rw [h] at this; simp at this
theorem head_bool (s : ByteArray) (h : 0 < s.size) : Lib.hasPrefix s.data.toList [47] = ((s[0].toNat : Int) == 47) := by
  have h1 := drop_cons s.data.toList 0 (by rw [← size_list]; exact h)
  rw [← get_list s 0 h, List.drop_zero] at h1
  rw [h1]
  generalize s[0] = c
  have : ∀ c : UInt8, (((47 : UInt8) == c) = ((c.toNat : Int) == 47)) := by
    intro c
    rw [Bool.eq_iff_iff]
    simp
    constructor
    · intro h; subst h; rfl
    · intro h; apply UInt8.toNat_inj.1; show (47 : Nat) = c.toNat; omega
  simp [Lib.hasPrefix, List.isPrefixOf, this]
theorem head_none (s : ByteArray) (h : ¬ 0 < s.size) : s.data.toList = [] := by apply List.length_eq_zero_iff.1; rw [← size_list]; omega
end Go.Proofs.YtmcefflgbliehaaDoor
