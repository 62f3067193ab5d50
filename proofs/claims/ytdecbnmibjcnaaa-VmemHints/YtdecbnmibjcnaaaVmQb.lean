
/-
  A call that stays in one room, told by that room's pages alone.
-/
import Derived.Test.YtdecbnmibjcnaaaVmQa
set_option linter.unusedVariables false
namespace Go.Proofs.Ytdecbnmibjcnaaa
open Go.RowKit Go.PlainAid
theorem begun_at {sp : Sp} (hk : sp.ok) {b : Nat} {r : Rm} (hb : sp.rooms[b]? = some r) (off : Nat) : b < begun sp.rooms (r.pos + off) := by
  obtain ⟨hl, e⟩ := List.getElem?_eq_some_iff.1 hb
  rcases Nat.lt_or_ge b (begun sp.rooms (r.pos + off)) with h | h
  · exact h
  · have := begun_hi sp.rooms hk.srt _ b h hl
    rw [e] at this
    omega
theorem begun_in {sp : Sp} (hk : sp.ok) {b : Nat} {r : Rm} (hb : sp.rooms[b]? = some r) (off : Nat) (ho : off < r.pages.length * 256) : begun sp.rooms (r.pos + off) = b + 1 := by
  have h1 := begun_at hk hb off
  obtain ⟨hl, e⟩ := List.getElem?_eq_some_iff.1 hb
  rcases Nat.lt_or_ge (b + 1) (begun sp.rooms (r.pos + off)) with h | h
  · have h2 := begun_le sp.rooms (r.pos + off)
    have h3 := begun_lo sp.rooms _ (b + 1) h (by omega)
    have h4 := List.pairwise_iff_getElem.1 hk.srt b (b + 1) hl (by omega) (by omega)
    rw [e] at h4
    unfold Rm.fin Rm.size at h4
    omega
  · omega
theorem hit_in {sp : Sp} (hk : sp.ok) {b : Nat} {r : Rm} (hb : sp.rooms[b]? = some r) (off n : Nat) (ho : off < r.pages.length * 256) (hn : off + n ≤ r.pages.length * 256) : hit sp.rooms (r.pos + off) n = some r := by
  unfold hit
  rw [begun_in hk hb off ho, if_neg (by omega), Nat.add_sub_cancel, hb]
  refine if_pos ?_
  unfold Rm.fin Rm.size
  omega
theorem hit_zero {sp : Sp} (hk : sp.ok) {b : Nat} {r : Rm} (hb : sp.rooms[b]? = some r) (off : Nat) (ho : off ≤ r.pages.length * 256) : ∃ r', hit sp.rooms (r.pos + off) 0 = some r' := by
  have h1 := begun_at hk hb off
  have h2 := begun_le sp.rooms (r.pos + off)
  obtain ⟨hl, e⟩ := List.getElem?_eq_some_iff.1 hb
  obtain ⟨c, hc⟩ : ∃ c, begun sp.rooms (r.pos + off) = c + 1 := ⟨begun sp.rooms (r.pos + off) - 1, by omega⟩
  have h3 := begun_lo sp.rooms (r.pos + off) c (by omega) (by omega)
  refine ⟨sp.rooms[c]'(by omega), ?_⟩
  unfold hit
  rw [hc, if_neg (by omega), Nat.add_sub_cancel, List.getElem?_eq_getElem (by omega)]
  refine if_pos ?_
  by_cases hbc : b = c
  · subst hbc
    rw [e]
    unfold Rm.fin Rm.size
    omega
  · have h4 := List.pairwise_iff_getElem.1 hk.srt b c hl (by omega) (by omega)
    rw [e] at h4
    unfold Rm.fin Rm.size at h4 ⊢
    omega
/-- The pages of a room that so many bytes from an offset on touch. -/
def cutP (q : List Sh) (off n : Nat) : List Sh := (q.drop (off / 256)).take ((off + n + 255) / 256 - off / 256)
theorem cut_is (r : Rm) (off n : Nat) : r.cut (r.pos + off) n = cutP r.pages off n := by
  unfold Rm.cut Rm.lo Rm.hi cutP
  rw [Nat.add_sub_cancel_left]
/-- The error of a call that needs pages. -/
def errP (q : List Sh) (off n : Nat) (t : Option Nat) : Nat := if n = 0 then 0 else if (cutP q off n).any (fun s => !s.there) then 52 else match t with
  | none => 0
  | some t => if (cutP q off n).any (lacks t) then 54 else 0
theorem got_zero {sp : Sp} (hk : sp.ok) {b : Nat} {r : Rm} (hb : sp.rooms[b]? = some r) (off : Nat) (ho : off ≤ r.pages.length * 256) (t : Option Nat) : got sp.rooms (r.pos + off) 0 t = .ok none := by
  obtain ⟨r', h⟩ := hit_zero hk hb off ho
  unfold got
  rw [h]
  rfl
theorem got_in {sp : Sp} (hk : sp.ok) {b : Nat} {r : Rm} (hb : sp.rooms[b]? = some r) (off n : Nat) (hz : n ≠ 0) (hn : off + n ≤ r.pages.length * 256) (t : Option Nat) : got sp.rooms (r.pos + off) n t = if errP r.pages off n t = 0 then .ok (some r) else .error (errP r.pages off n t) := by
  unfold got
  rw [hit_in hk hb off n (by omega) hn]
  unfold errP
  simp only [if_neg hz, cut_is]
  by_cases h1 : (cutP r.pages off n).any (fun s => !s.there) = true
  · simp only [if_pos h1]
    rfl
  · simp only [if_neg h1]
    cases t with
    | none => rfl
    | some t =>
      by_cases h2 : (cutP r.pages off n).any (lacks t) = true
      · simp only [if_pos h2]
        rfl
      · simp only [if_neg h2]
        rfl
theorem put_same {sp : Sp} {b : Nat} {r : Rm} (hb : sp.rooms[b]? = some r) : sp.put b r r.pages = sp := by
  obtain ⟨hl, e⟩ := List.getElem?_eq_some_iff.1 hb
  unfold Sp.put
  have : sp.rooms.set b { r with pages := r.pages } = sp.rooms := by
    apply List.ext_getElem?
    intro i
    rw [List.getElem?_set]
    by_cases h : b = i
    · subst h; rw [if_pos rfl, if_pos hl, hb]
    · rw [if_neg h]
  rw [this]
/-- Writing, by the room's pages. -/
def laidP (q : List Sh) (off : Nat) (d : List UInt8) : List Sh := q.take (off / 256) ++ layL (cutP q off d.length) (off % 256) d ++ q.drop ((off + d.length + 255) / 256)
def wrP (q : List Sh) (off : Nat) (d : List UInt8) : List Sh := if d.length = 0 then q else if errP q off d.length (some 2) = 0 then laidP q off d else q
theorem laid_is {r : Rm} (hr : r.ok) (off : Nat) (d : List UInt8) : r.laid (r.pos + off) d = laidP r.pages off d := by
  have hp := hr.page
  unfold Rm.laid laidP
  rw [cut_is]
  unfold Rm.lo Rm.hi
  rw [Nat.add_sub_cancel_left, show (r.pos + off) % 256 = off % 256 by omega]
theorem wr_at {sp : Sp} (hk : sp.ok) {b : Nat} {r : Rm} (hb : sp.rooms[b]? = some r) (off : Nat) (d : List UInt8) (hn : off + d.length ≤ r.pages.length * 256) :
    wrE sp (r.pos + off) d = errP r.pages off d.length (some 2) ∧ wrS sp (r.pos + off) d = sp.put b r (wrP r.pages off d) := by
  have hr := hk.each r (List.mem_of_getElem? hb)
  unfold wrE wrS wrP
  by_cases hz : d.length = 0
  · rw [hz, got_zero hk hb off (by omega)]
    simp only [if_true]
    exact ⟨rfl, (put_same hb).symm⟩
  · rw [got_in hk hb off d.length hz hn, if_neg hz]
    by_cases he : errP r.pages off d.length (some 2) = 0
    · simp only [if_pos he, begun_in hk hb off (by omega), Nat.add_sub_cancel, laid_is hr]
      exact ⟨he.symm, trivial⟩
    · simp only [if_neg he]
      exact ⟨trivial, (put_same hb).symm⟩
/-- Reading, by the room's pages. -/
def rdP (q : List Sh) (off n : Nat) : List UInt8 := if n = 0 then [] else if errP q off n (some 4) = 0 then ((dat (cutP q off n)).drop (off % 256)).take n else []
theorem rd_at {sp : Sp} (hk : sp.ok) {b : Nat} {r : Rm} (hb : sp.rooms[b]? = some r) (off n : Nat) (hn : off + n ≤ r.pages.length * 256) :
    rdE sp (r.pos + off) n = errP r.pages off n (some 4) ∧ rdB sp (r.pos + off) n = rdP r.pages off n := by
  have hp := (hk.each r (List.mem_of_getElem? hb)).page
  unfold rdE rdB rdP
  by_cases hz : n = 0
  · rw [hz, got_zero hk hb off (by omega)]
    exact ⟨rfl, rfl⟩
  · rw [got_in hk hb off n hz hn, if_neg hz]
    by_cases he : errP r.pages off n (some 4) = 0
    · simp only [if_pos he, cut_is, show (r.pos + off) % 256 = off % 256 by omega]
      exact ⟨he.symm, trivial⟩
    · simp only [if_neg he]
      exact ⟨trivial, trivial⟩
end Go.Proofs.Ytdecbnmibjcnaaa
