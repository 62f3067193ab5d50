
/-
  le.Plain and le.Text keep their contracts.
-/
import Derived.Test.YtdclofiifcpkkaaBufC
import Derived.Laws.RangeAny
import Derived.Lib.BytesEntry
import Derived.Lib.IndexLaws
set_option linter.unusedVariables false
namespace Go.Proofs.Ytdclofiifcpkkaa
open Go.RowKit Go.PlainAid
/-- A byte that plain texts have. -/
def pl (c : UInt8) : Bool := decide (33 ≤ c.toNat) && decide (c.toNat ≤ 126)
/-- Plain texts. -/
def plain (l : List UInt8) : Bool := l.all pl && decide (l.length ≤ 64)
theorem size_list (s : ByteArray) : s.size = s.data.toList.length := by simp
theorem get_list (s : ByteArray) (k : Nat) (h : k < s.size) : (s[k]'h) = s.data.toList.getD k 0 := by
  have h' : k < s.data.toList.length := by simpa using h
  rw [List.getD, List.getElem?_eq_getElem h']
  rfl
theorem all_take_snoc (l : List UInt8) (k : Nat) (h : k < l.length) : (l.take (k + 1)).all pl = ((l.take k).all pl && pl (l.getD k 0)) := by
  rw [List.take_add_one, List.all_append]
  simp [List.getD, List.getElem?_eq_getElem h]
theorem all_bad (l : List UInt8) (k : Nat) (h : k < l.length) (hb : pl (l.getD k 0) = false) : l.all pl = false := by
  rw [List.all_eq_false]
  refine ⟨l.getD k 0, ?_, by rw [hb]; simp⟩
  rw [List.getD, List.getElem?_eq_getElem h]
  simp
set_option maxHeartbeats 1000000 in
theorem le_Plain (s : ByteArray) (w : World) (hs : s.size ≤ 140737488351232) :
    Calls Try.prog 84 #[.string s] w fun e w' => e = .returned (.bool (plain s.data.toList)) ∧ Below w.heap.size w w' := by
  by_cases h64 : 64 < s.size
  · have hp : plain s.data.toList = false := by unfold plain; rw [← size_list]; simp; omega
    rw [hp]
    have h64' : 64 < (s.size : Int) := by omega
    go_enter Try.func84, Try.ntmps84
    go_wp2
    go_ret
    exact ⟨rfl, Below.refl _ _⟩
  · have hp : plain s.data.toList = s.data.toList.all pl := by unfold plain; rw [← size_list]; simp; omega
    rw [hp]
    have h64' : ¬ 64 < (s.size : Int) := by omega
    clear hp
    obtain ⟨A, hA⟩ : ∃ A, s.data.toList.all pl = A := ⟨_, rfl⟩
    rw [hA]
    have HA : Hid (s.data.toList.all pl = A) := hA
    clear hA
    go_enter Try.func84, Try.ntmps84
    go_wp2
    go_loopw [] (fun wr => ∃ pos, wr = w.iter s pos ∧ pos ≤ s.size ∧ Hid ((s.data.toList.take pos).all pl = true)) (fun wr => s.size - wr.iterPos w.heap.size)
    case atStart => exact ⟨0, rfl, by omega, by simp [Hid]⟩
    case round =>
      obtain ⟨pos, rfl, hpos, HP⟩ := hrel
      have hbel : Below w.heap.size w (w.iter s pos) := (Below.refl _ _).alloc (Nat.le_refl _) _
      by_cases hp : pos < s.size
      · by_cases ha : (s[pos]'hp).toNat < 128
        · have hnx : ∀ ty, (Instr.next (.pointer (some ⟨w.heap.size, 0, none⟩)) true ty).run Try.prog (w.iter s pos) = _ := fun ty => run_next_ascii w s pos ty hp ha
          obtain ⟨c, hc⟩ : ∃ c, s[pos]'hp = c := ⟨_, rfl⟩
          rw [hc] at hnx
          have HC : Hid (s.data.toList.getD pos 0 = c) := by rw [Hid, ← get_list s pos hp, hc]
          have hbel2 : Below w.heap.size w (w.iter s (pos + 1)) := (Below.refl _ _).alloc (Nat.le_refl _) _
          have hcl := c.toNat_lt
          clear ha hc
          have hcase : (c.toNat : Int) < 33 ∨ (¬ (c.toNat : Int) < 33 ∧ 126 < (c.toNat : Int)) ∨ (¬ (c.toNat : Int) < 33 ∧ ¬ 126 < (c.toNat : Int)) := by omega
          rcases hcase with q1 | ⟨q1, q2⟩ | ⟨q1, q2⟩
          · have HF : Hid (s.data.toList.all pl = false) := all_bad _ pos (by rw [← size_list]; exact hp) (by rw [HC.out]; unfold pl; simp; omega)
            go_wp2
            go_ret
            exact ⟨by rw [show A = false from HA.out.symm.trans HF.out]; rfl, hbel2⟩
          · have HF : Hid (s.data.toList.all pl = false) := all_bad _ pos (by rw [← size_list]; exact hp) (by rw [HC.out]; unfold pl; simp; omega)
            go_wp2
            go_ret
            exact ⟨by rw [show A = false from HA.out.symm.trans HF.out]; rfl, hbel2⟩
          · have HT : Hid (pl c = true) := by unfold pl; simp [Hid]; omega
            go_wp2
            go_roundw
            case rel => exact ⟨pos + 1, rfl, by omega, by rw [Hid, all_take_snoc _ pos (by rw [← size_list]; exact hp), HP.out, HC.out, HT.out]; rfl⟩
            case measure => simp; omega
        · have hnx : ∀ ty, (Instr.next (.pointer (some ⟨w.heap.size, 0, none⟩)) true ty).run Try.prog (w.iter s pos) = _ := fun ty => run_next_any w s pos ty hp
          have hbig := decode_high s pos hp (by omega)
          have hle := decode_le s pos
          obtain ⟨x, hx⟩ : ∃ x, (Utf8.decode s pos).1 = x := ⟨_, rfl⟩
          obtain ⟨y, hy⟩ : ∃ y, (Utf8.decode s pos).2 = y := ⟨_, rfl⟩
          rw [hx, hy] at hbig
          rw [hx] at hle
          simp only [hx, hy] at hnx
          have HF : Hid (s.data.toList.all pl = false) := all_bad _ pos (by rw [← size_list]; exact hp) (by rw [← get_list s pos hp]; unfold pl; simp; omega)
          have q1 : ¬ (x : Int) < 33 := by omega
          have q2 : 126 < (x : Int) := by omega
          have hbel2 : Below w.heap.size w (w.iter s (pos + y)) := (Below.refl _ _).alloc (Nat.le_refl _) _
          clear ha hx hy
          go_wp2
          go_ret
          exact ⟨by rw [show A = false from HA.out.symm.trans HF.out]; rfl, hbel2⟩
      · have hnx : ∀ ty, (Instr.next (.pointer (some ⟨w.heap.size, 0, none⟩)) true ty).run Try.prog (w.iter s pos) = _ := fun ty => run_next_end w s pos ty hp
        have hpe : pos = s.size := by omega
        have hall : s.data.toList.all pl = true := by have := HP.out; rwa [hpe, size_list, List.take_length] at this
        have HF : Hid (s.data.toList.all pl = true) := hall
        clear hall hpe
        go_wp2
        go_ret
        exact ⟨by rw [show A = true from HA.out.symm.trans HF.out]; rfl, hbel⟩
/-- Where the first byte 0 stands. -/
def zat : List UInt8 → Option Nat
  | [] => none
  | c :: t => if c = 0 then some 0 else (zat t).map (· + 1)
theorem zat_index : ∀ l : List UInt8, Lib.indexByte l 0 = match zat l with | none => -1 | some k => (k : Int)
  | [] => rfl
  | c :: t => by
    unfold Lib.indexByte zat
    have ih := zat_index t
    by_cases h : c = 0
    · simp [h]
    · rw [if_neg (by simpa using h), if_neg h, ih]
      cases hz : zat t with
      | none => simp
      | some k =>
        simp only [Option.map_some]
        rw [if_neg (by intro hh; have := beq_iff_eq.1 hh; omega)]; push_cast; rfl
theorem zat_lt : ∀ (l : List UInt8) (k : Nat), zat l = some k → k < l.length
  | [], k, h => by simp [zat] at h
  | c :: t, k, h => by
    unfold zat at h
    split at h
    · injection h with h; subst h; simp
    · obtain ⟨j, hj, rfl⟩ := Option.map_eq_some_iff.mp h
      have := zat_lt t j hj
      simp; omega
theorem bytesOf_map (l : List UInt8) : Lib.bytesOf (l.map fun c => (c.toNat : Int)) = l := by
  unfold Lib.bytesOf
  rw [List.map_map]
  conv => rhs; rw [← List.map_id l]
  apply List.map_congr_left
  intro c _
  simp
set_option maxRecDepth 20000 in
theorem lib_BIndex (g o n cap : Nat) (l : List UInt8) (w : World) (hn : l.length = n) (hc : ∀ j, j < n → w.cell? ⟨g, o + j, none⟩ = some (.int .u8 ((l.getD j 0).toNat : Int))) :
    Calls Try.prog 83 #[.slice (some ⟨g, o, none⟩) n cap, .int .u8 0] w fun e w' => e = .returned (.int .i64 (match zat l with | none => -1 | some k => (k : Int))) ∧ w' = w := by
  have hr := Lib.run_indexByteSlice (P := Try.prog) w g o n cap (l.map fun c => (c.toNat : Int)) (by simpa using hn) (by
    intro i hi
    rw [hc i hi]
    simp [List.getD, List.getElem?_map, List.getElem?_eq_getElem (show i < l.length by omega)]) 0
  rw [bytesOf_map] at hr
  have e0 : (0 : Int).toNat.toUInt8 = 0 := rfl
  rw [e0, zat_index] at hr
  generalize (match zat l with | none => (-1 : Int) | some k => (k : Int)) = q at *
  go_enter Try.func83, Try.ntmps83
  go_wp2
  rw [run_callFunc_extern Try.func85 (by kernel_rfl) (by kernel_rfl) (by kernel_rfl) (e := Extern.BytealgIndexByte.indexByte) (by kernel_rfl), hr]
  simp only [Result.andThen]
  rw [Oper.upon_value]
  go_wp2
  go_ret
  exact ⟨rfl, rfl⟩
/-- What stands at a place: the text and the error's number. -/
def textAt (l : List UInt8) (p : Nat) : List UInt8 × Int :=
  match zat (l.drop p) with
  | none => ([], 20)
  | some k => if plain ((l.drop p).take k) then ((l.drop p).take k, 0) else ([], 21)
set_option maxHeartbeats 1000000 in
set_option maxRecDepth 20000 in
theorem le_Text (w : World) (v : Value) (l : List UInt8) (h : Arg w v l) (p : Nat) (hp : (p : Int) ≤ 18446744073709551615) :
    Calls Try.prog 79 #[v, .int .u64 p] w fun e w' => e = .returned (.tuple #[.string ⟨(textAt l p).1.toArray⟩, .int .i64 (textAt l p).2]) ∧ Below w.heap.size w w' := by
  by_cases hlt : p < l.length
  · obtain ⟨g, o, cap, rfl, hc1, hc2, hc⟩ := h.cells (by omega)
    obtain ⟨_, _, _, _, _, hl⟩ := h.isSlice
    have hcap : cap ≤ 9223372036854775807 := by unfold maxLen at hc2; omega
    have hI := fun W (hW : ∀ j, j < l.length - p → W.cell? ⟨g, o + p + j, none⟩ = some (.int .u8 (((l.drop p).getD j 0).toNat : Int))) => lib_BIndex g (o + p) (l.length - p) (cap - p) (l.drop p) W (by simp) hW
    have hcp : ¬ cap = p := by omega
    have hltI : (p : Int) < (l.length : Int) := by omega
    have hdrop : ∀ j, j < l.length - p → w.cell? ⟨g, o + p + j, none⟩ = some (.int .u8 (((l.drop p).getD j 0).toNat : Int)) := by
      intro j hj
      have := hc (p + j) (by omega)
      rw [← Nat.add_assoc] at this
      rw [this]
      simp [List.getD]
    have hI := hI w hdrop
    have HD : Hid (∀ j, j < l.length - p → w.cell? ⟨g, o + p + j, none⟩ = some (.int .u8 (((l.drop p).getD j 0).toNat : Int))) := hdrop
    have hz : zat (l.drop p) = none ∨ ∃ k, zat (l.drop p) = some k := by cases zat (l.drop p) <;> simp
    have hdl : (l.drop p).length = l.length - p := by simp
    have HT : Hid (textAt l p = match zat (l.drop p) with | none => ([], 20) | some k => if plain ((l.drop p).take k) then ((l.drop p).take k, 0) else ([], 21)) := by unfold textAt; rfl
    obtain ⟨T, hT⟩ : ∃ T, textAt l p = T := ⟨_, rfl⟩
    rw [hT] at HT ⊢
    clear hc h hdrop hT
    generalize l.drop p = m at *
    rcases hz with hz | ⟨k, hz⟩
    · have HE : Hid (T = ([], 20)) := by rw [Hid, HT.out, hz]
      rw [HE.out]
      rw [hz] at hI
      clear HT hz
      go_enter Try.func79, Try.ntmps79
      go_wp2_with fail
      refine hI.mono ?_
      rintro e w1 ⟨rfl, rfl⟩
      go_wp2
      go_ret2
      exact ⟨rfl, Below.refl _ _⟩
    · have hk := zat_lt m k hz
      have hkI : (k : Int) ≤ ((cap - p : Nat) : Int) := by omega
      have hkn : ¬ (k : Int) < 0 := by omega
      have hP := le_Plain ⟨(m.take k).toArray⟩ w (by show (m.take k).toArray.size ≤ _; simp; omega)
      have hS := run_convert_bytes_back (P := Try.prog) w 22 9 5 ⟨g, o + p, none⟩ (cap - p) (m.take k) Try.underlying22 Try.underlying5 Try.underlying9 (by
        intro j hj
        have hj2 : j < k := by simp at hj; omega
        rw [add_at, HD.out j (by omega)]
        simp [List.getD, List.getElem?_eq_getElem (show j < m.length by omega)])
      rw [show (m.take k).length = k by simp; omega] at hS
      have hT2 : T = if plain (m.take k) then (m.take k, 0) else ([], 21) := by rw [HT.out, hz]
      rw [hz] at hI
      have hP2 : plain (⟨(m.take k).toArray⟩ : ByteArray).data.toList = plain (m.take k) := rfl
      rw [hP2] at hP
      clear HT hz hP2
      generalize m.take k = t at *
      cases hpl : plain t
      all_goals
        rw [hpl] at hP hT2
        simp only [if_true, Bool.false_eq_true, if_false] at hT2
        subst hT2
        go_enter Try.func79, Try.ntmps79
        go_wp2_with fail
        refine hI.mono ?_
        rintro e w1 ⟨rfl, rfl⟩
        go_wp2_with fail
        refine hP.mono ?_
        rintro e w1 ⟨rfl, hb⟩
        go_wp2
        go_ret2
        exact ⟨rfl, hb⟩
  · have ht : textAt l p = ([], 20) := by unfold textAt; rw [List.drop_of_length_le (by omega)]; rfl
    rw [ht]
    obtain ⟨a, cap, rfl, _, _, hl⟩ := h.isSlice
    have hlt2 : ¬ (p : Int) < (l.length : Int) := by omega
    clear ht h
    go_enter Try.func79, Try.ntmps79
    go_wp2
    go_ret2
    exact ⟨rfl, Below.refl _ _⟩
end Go.Proofs.Ytdclofiifcpkkaa
