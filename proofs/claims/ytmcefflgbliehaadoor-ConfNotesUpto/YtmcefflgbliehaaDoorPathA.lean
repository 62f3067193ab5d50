
/-
  Rows of texts that a call itself has made; path.good keeps its contract.
-/
import Derived.Test.YtmcefflgbliehaaDoorProg
import Derived.Test.YtmcefflgbliehaaDoorPathM
import Derived.WalkKit
import Derived.WalkLawsBesides
import Derived.WalkSpells
import Derived.PlainAid
import Derived.Laws.IdiomStrings
import Derived.KernelRfl
set_option linter.unusedVariables false
namespace Go.Proofs.YtmcefflgbliehaaDoor
open Go.RowKit Go.PlainAid
/-- A text out of its bytes. -/
def tx (l : List UInt8) : ByteArray := ⟨l.toArray⟩
theorem tx_data (s : ByteArray) : tx s.data.toList = s := Lib.mk_data s
theorem data_tx (l : List UInt8) : (tx l).data.toList = l := by simp [tx]
theorem tx_size (l : List UInt8) : (tx l).size = l.length := by rw [Lib.size_eq, data_tx]
theorem tx_inj {a b : List UInt8} (h : tx a = tx b) : a = b := by rw [← data_tx a, ← data_tx b, h]
theorem size_list (s : ByteArray) : s.size = s.data.toList.length := by simp
theorem get_list (s : ByteArray) (k : Nat) (h : k < s.size) : (s[k]'h) = s.data.toList.getD k 0 := by
  have h' : k < s.data.toList.length := by simpa using h
  rw [List.getD, List.getElem?_eq_getElem h']
  rfl
/-- v is a slice of texts that the call has made, and it holds xs. -/
def OwnS (w : World) (B : Nat) (v : Value) (xs : List ByteArray) : Prop := w.ownsRow B 9 1 v xs.length (xs.map Value.string)
theorem Tryd.infoS : (Tryd.prog.info? 9).map (fun i => (i.zero, i.size, i.bytes)) = some (some (.string ByteArray.empty), 1, 16) := by kernel_rfl
theorem OwnS.nil (w : World) (B : Nat) : OwnS w B (.slice none 0 0) [] := World.ownsRow_nil _ _ _ _
theorem OwnS.slice {w : World} {B : Nat} {v : Value} {l : List ByteArray} (h : OwnS w B v l) : ∃ a cap, v = .slice a l.length cap := by
  unfold OwnS at h
  rcases h.2 with ⟨rfl, hn⟩ | ⟨g, cap, cur, rfl, _⟩
  · exact ⟨none, 0, by rw [hn]⟩
  · exact ⟨_, cap, rfl⟩
theorem OwnS.form {w : World} {B : Nat} {v : Value} {l : List ByteArray} (h : OwnS w B v l) (hne : 0 < l.length) :
    ∃ g cap, v = .slice (some ⟨g, 0, none⟩) l.length cap ∧ B ≤ g ∧ g < w.heap.size ∧ l.length ≤ cap ∧ cap ≤ maxLen ∧
      (∀ j x, l[j]? = some x → w.cell? ⟨g, j, none⟩ = some (.string x)) := by
  have h0 := h
  unfold OwnS at h
  rcases h.2 with ⟨rfl, hn⟩ | ⟨g, cap, cur, rfl, hb, hg, hn, hm, hc, ht⟩
  · omega
  · refine ⟨g, cap, rfl, hb, (Array.getElem?_eq_some_iff.1 hg).1, hn, hm, ?_⟩
    intro j x hj
    have := World.ownsRow.cells h (g := g) rfl j (.string x) (by rw [List.getElem?_map, hj]; rfl)
    have hadd : (⟨g, 0, none⟩ : Addr).add j = ⟨g, j, none⟩ := by unfold Addr.add; split <;> simp_all
    rwa [hadd] at this
theorem OwnS.len {w : World} {B : Nat} {v : Value} {l : List ByteArray} (h : OwnS w B v l) (n : Nat) (hn : l.length = n) : ∃ a cap, v = .slice a n cap := by
  obtain ⟨a, cap, e⟩ := h.slice
  exact ⟨a, cap, by rw [e, hn]⟩
theorem OwnS.cells {w : World} {B n cap : Nat} {a : Option Addr} {l : List ByteArray} (h : OwnS w B (.slice a n cap) l) (hne : 0 < l.length) :
    ∃ g, a = some ⟨g, 0, none⟩ ∧ B ≤ g ∧ g < w.heap.size ∧ l.length ≤ cap ∧ cap ≤ maxLen ∧ (∀ j x, l[j]? = some x → w.cell? ⟨g, j, none⟩ = some (.string x)) := by
  obtain ⟨g, cap', e, h1, h2, h3, h4, h5⟩ := h.form hne
  injection e with e1 e2 e3
  subst e1 e3
  exact ⟨g, rfl, h1, h2, h3, h4, h5⟩
theorem OwnS.stay {w w' : World} {B : Nat} {v : Value} {l : List ByteArray} (h : OwnS w B v l) (hb : Below w.heap.size w w') : OwnS w' B v l := by
  unfold OwnS at h ⊢
  refine ⟨h.1, ?_⟩
  rcases h.2 with hn | ⟨g, cap, cur, rfl, hB, hg, rest⟩
  · exact .inl hn
  · refine .inr ⟨g, cap, cur, rfl, hB, ?_, rest⟩
    rw [hb.block g (Array.getElem?_eq_some_iff.1 hg).1]; exact hg
theorem OwnS.low {w : World} {B C : Nat} {v : Value} {l : List ByteArray} (h : OwnS w B v l) (hc : C ≤ B) : OwnS w C v l := by
  unfold OwnS at h ⊢
  refine ⟨h.1, ?_⟩
  rcases h.2 with hn | ⟨g, cap, cur, rfl, hB, rest⟩
  · exact .inl hn
  · exact .inr ⟨g, cap, cur, rfl, by omega, rest⟩
/-- Without its last text. -/
theorem OwnS.pop {w : World} {B : Nat} {a : Option Addr} {n cap : Nat} {l : List ByteArray} (h : OwnS w B (.slice a n cap) l) (hne : 0 < l.length) : OwnS w B (.slice a (l.length - 1) cap) l.dropLast := by
  unfold OwnS at h ⊢
  refine ⟨by simp, ?_⟩
  rcases h.2 with ⟨e, hn⟩ | ⟨g, cap', cur, e, hB, hg, hn, hm, hc, ht⟩
  · omega
  · injection e with e1 e2 e3
    subst e1 e3
    refine .inr ⟨g, cap, cur, by rw [List.length_dropLast], hB, hg, by simp; omega, hm, hc, ?_⟩
    rw [List.length_dropLast, Nat.mul_one]
    rw [Nat.mul_one] at ht
    have : cur.toList.take (l.length - 1) = (cur.toList.take l.length).take (l.length - 1) := by rw [List.take_take]; congr 1; omega
    rw [this, ht, List.dropLast_eq_take, List.map_take]
theorem append_text {ops : Array Oper} {rest : List Oper} {o : Oper} {a : Act} {Q : Exit → Act → World → Prop} (hgd : o.guard = none) (s x : Operand)
    (ho : o.op = .call { callee := .builtin .append, args := #[s, x], argTypes := #[63, 63] })
    (B : Nat) (wr : World) (v : Value) (acc : List ByteArray) (hown : OwnS wr B v acc) (c : ByteArray) (hs : a.eval s = v)
    (hx : a.eval x = .slice (some ⟨wr.heap.size, 0, none⟩) 1 1) (hlen : acc.length ≤ 1000000000) (hB : B ≤ wr.heap.size)
    (h : ∀ v' w', OwnS w' B v' (acc ++ [c]) → Below B wr w' → wpList Tryd.prog ops Q rest (a.put o.dst v') w') :
    wpList Tryd.prog ops Q (o :: rest) a (wr.alloc (.cells #[.string c] 9)) := by
  obtain ⟨i, hi, hz0, hz1, hz2⟩ := info_parts Tryd.infoS
  have hb : ∀ k, v.ownBlock = some k → B ≤ k := fun k hk => (World.ownsRow.lt hown k hk).1
  refine wpList_append_own (P := Tryd.prog) (wr.alloc (.cells #[.string c] 9)) hgd s x 63 ho B 9 i (.string ByteArray.empty) 1 16 Tryd.underlying63 hi hz0 hz1 hz2 rfl (by decide) v acc.length (acc.map Value.string) hs (World.ownsRow.alloc hown _)
    ⟨wr.heap.size, 0, none⟩ 1 1 [.string c] hx rfl ?_ ?_ ?_ ?_ ?_ ?_
  · intro j u hj
    match j, hj with
    | 0, hj => simp at hj; subst hj; simp [Addr.add]
  · intro u hu; simp at hu; subst hu; rfl
  · unfold maxLen; omega
  · omega
  · simp; omega
  · intro v' w' h1 h2 _
    refine h v' w' ?_ ?_
    · unfold OwnS
      simpa using h1
    · exact ((Below.refl B wr).alloc hB _).grown h2 (by simp; omega) hb
theorem all_take_snoc (p : UInt8 → Bool) (l : List UInt8) (k : Nat) (h : k < l.length) : (l.take (k + 1)).all p = ((l.take k).all p && p (l.getD k 0)) := by
  rw [List.take_add_one, List.all_append]
  simp [List.getD, List.getElem?_eq_getElem h]
theorem all_bad (p : UInt8 → Bool) (l : List UInt8) (k : Nat) (h : k < l.length) (hb : p (l.getD k 0) = false) : l.all p = false := by
  rw [List.all_eq_false]
  refine ⟨l.getD k 0, ?_, by rw [hb]; simp⟩
  rw [List.getD, List.getElem?_eq_getElem h]
  simp
set_option maxHeartbeats 1000000 in
theorem path_good (s : ByteArray) (w : World) (hs : s.size ≤ 1000000000) :
    Calls Tryd.prog 48 #[.string s] w fun e w' => e = .returned (.bool (good s.data.toList)) ∧ w' = w := by
  by_cases h256 : 256 < s.size
  · have hp : good s.data.toList = false := by unfold good; rw [← size_list]; simp; omega
    rw [hp]
    have h' : 256 < (s.size : Int) := by omega
    go_enter Tryd.func48, Tryd.ntmps48
    go_wp2
    go_ret
    exact ⟨rfl, rfl⟩
  · have hp : good s.data.toList = s.data.toList.all pb := by unfold good; rw [← size_list]; simp; omega
    rw [hp]
    have h' : ¬ 256 < (s.size : Int) := by omega
    clear hp
    obtain ⟨A, hA⟩ : ∃ A, s.data.toList.all pb = A := ⟨_, rfl⟩
    rw [hA]
    have HA : Hid (s.data.toList.all pb = A) := hA
    clear hA
    go_enter Tryd.func48, Tryd.ntmps48
    go_wp2
    go_loop [9, 3] (fun vi _ => ∃ k : Nat, vi = .int .i64 k ∧ k ≤ s.size ∧ Hid ((s.data.toList.take k).all pb = true)) (fun vi _ => s.size - (intOf vi).toNat)
    case atStart => exact ⟨0, rfl, by omega, by simp [Hid]⟩
    case round =>
      obtain ⟨k, rfl, hk, HP⟩ := hrel
      by_cases hlt : k < s.size
      · have hltI : (k : Int) < (s.size : Int) := by omega
        obtain ⟨c, hc⟩ : ∃ c, s[k]'hlt = c := ⟨_, rfl⟩
        have HC : Hid (s.data.toList.getD k 0 = c) := by rw [Hid, ← get_list s k hlt, hc]
        have hcl := c.toNat_lt
        have hcase : (c.toNat : Int) < 33 ∨ (¬ (c.toNat : Int) < 33 ∧ 126 < (c.toNat : Int)) ∨ (¬ (c.toNat : Int) < 33 ∧ ¬ 126 < (c.toNat : Int)) := by omega
        rcases hcase with q1 | ⟨q1, q2⟩ | ⟨q1, q2⟩
        · have HF : Hid (s.data.toList.all pb = false) := all_bad pb _ k (by rw [← size_list]; exact hlt) (by rw [HC.out]; unfold pb; simp; omega)
          go_wp2
          go_ret
          exact ⟨by rw [show A = false from HA.out.symm.trans HF.out]; rfl, rfl⟩
        · have HF : Hid (s.data.toList.all pb = false) := all_bad pb _ k (by rw [← size_list]; exact hlt) (by rw [HC.out]; unfold pb; simp; omega)
          go_wp2
          go_ret
          exact ⟨by rw [show A = false from HA.out.symm.trans HF.out]; rfl, rfl⟩
        · have HT : Hid (pb c = true) := by unfold pb; simp [Hid]; omega
          go_wp2
          go_round
          case rel => exact ⟨k + 1, by go_num, by omega, by rw [Hid, all_take_snoc pb _ k (by rw [← size_list]; exact hlt), HP.out, HC.out, HT.out]; rfl⟩
          case measure => simp [intOf]; omega
      · have hltI : ¬ (k : Int) < (s.size : Int) := by omega
        have hpe : k = s.size := by omega
        have HF : Hid (s.data.toList.all pb = true) := by have := HP.out; rwa [hpe, size_list, List.take_length] at this
        clear hpe
        go_wp2
        go_ret
        exact ⟨by rw [show A = true from HA.out.symm.trans HF.out]; rfl, rfl⟩
end Go.Proofs.YtmcefflgbliehaaDoor
