/-
  What is made of parts; a space that is new; the rooms that it has: New and Regions keep their contracts.
-/
import Derived.Test.YtpplmefnhappgaaVmV
set_option linter.unusedVariables false
namespace Go.Proofs.Ytpplmefnhappgaa
open Go.RowKit Go.PlainAid
/-- Cells laid over others from an offset on. -/
theorem foldl_set (vs : List Value) : ∀ (k : Nat) (cells : Array Value) (off : Nat), off + k + vs.length ≤ cells.size →
    ((vs.zipIdx k).foldl (fun cs (x : Value × Nat) => cs.setIfInBounds (off + x.2) x.1) cells).toList = cells.toList.take (off + k) ++ vs ++ cells.toList.drop (off + k + vs.length) := by
  induction vs with
  | nil => intro k cells off _; simp
  | cons v vs ih =>
    intro k cells off h
    rw [List.length_cons] at h
    have hlt : off + k < cells.toList.length := by simp; omega
    rw [List.zipIdx_cons, List.foldl_cons, ih (k + 1) _ off (by simp; omega)]
    simp only [Array.toList_setIfInBounds]
    rw [← Nat.add_assoc, List.length_cons]
    have e1 : (cells.toList.set (off + k) v).take (off + k + 1) = cells.toList.take (off + k) ++ [v] := by
      rw [List.take_add_one, List.take_set_of_le (by omega), List.getElem?_set_self hlt]; rfl
    have e2 : (cells.toList.set (off + k) v).drop (off + k + 1 + vs.length) = cells.toList.drop (off + k + (vs.length + 1)) := by
      rw [List.drop_set_of_lt (by omega)]; congr 1; omega
    rw [e1, e2]
    simp
theorem fill_cons (place : Nat → Option (Nat × Nat)) (cells : Array Value) (i off size : Nat) (v : Value) (rest : List (Nat × Value)) (hp : place i = some (off, size)) (hs : v.cells.size = size) (hf : off + size ≤ cells.size) :
    Instr.fill place cells ((i, v) :: rest) = Instr.fill place (cells.toList.take off ++ v.cells.toList ++ cells.toList.drop (off + size)).toArray rest := by
  have e := foldl_set v.cells.toList 0 cells off (by simp; omega)
  have e2 : v.cells.zipIdx.foldl (fun cs (x : Value × Nat) => cs.setIfInBounds (off + x.2) x.1) cells = (cells.toList.take off ++ v.cells.toList ++ cells.toList.drop (off + size)).toArray := by
    apply Array.toList_inj.1
    rw [← Array.foldl_toList, Array.toList_zipIdx, e]
    simp [hs]
  simp only [Instr.fill, hp]
  rw [if_neg (by simp; omega)]
  exact congrArg (fun c => Instr.fill place c rest) e2
set_option maxHeartbeats 1000000 in
theorem vm_New_no (w : World) (b : Int) (h : b < 1 ∨ 1024 < b) : Calls Try.prog 7 #[.int .i64 b] w fun e w' => e = .returned (.tuple #[.pointer none, .int .i64 51]) ∧ w = w' := by
  rcases h with h | h
  · go_enter Try.func7, Try.ntmps7
    go_wp2
    go_ret2
    exact ⟨rfl, rfl⟩
  · have h1 : ¬ b < 1 := by omega
    go_enter Try.func7, Try.ntmps7
    go_wp2
    go_ret2
    exact ⟨rfl, rfl⟩
set_option maxHeartbeats 1000000 in
theorem vm_New (w : World) (b : Nat) (h0 : 1 ≤ b) (h1 : b ≤ 1024) : Calls Try.prog 7 #[.int .i64 b] w fun e w' => e = .returned (.tuple #[.pointer (some ⟨w.heap.size, 0, none⟩), .int .i64 0]) ∧ SpAt w' w.heap.size (.slice none 0 0) ⟨b, []⟩ ∧ Below w.heap.size w w' := by
  have a1 : ¬ (b : Int) < 1 := by omega
  have a2 : ¬ (1024 : Int) < (b : Int) := by omega
  go_enter Try.func7, Try.ntmps7
  go_wp2
  go_ret2
  refine ⟨rfl, ⟨heap_alloc_new w _, World.ownsRow_nil _ _ _ _, fun r hr => absurd hr (by simp), by simp [Value.ownBlock]⟩, (Below.refl _ w).alloc (Nat.le_refl _) _⟩
/-- What Regions tells: where each room begins, and how many pages it has. -/
def regs (l : List Rm) : List (Nat × Nat) := l.map (fun r => (r.pos, r.pages.length))
def regC (x : Nat × Nat) : List Value := [.int .u64 x.1, .int .i64 x.2]
def flatG (l : List (Nat × Nat)) : List Value := l.flatMap regC
theorem flatG_app (a b : List (Nat × Nat)) : flatG (a ++ b) = flatG a ++ flatG b := by unfold flatG; rw [List.flatMap_append]
theorem Try.infoG : (Try.prog.info? 82).map (fun i => (i.zero, i.size, i.bytes)) = some (some (.agg #[.int .u64 0, .int .i64 0]), 2, 16) := by kernel_rfl
/-- v is a slice of regions that the call has made. -/
def OwnG (w : World) (B : Nat) (v : Value) (l : List (Nat × Nat)) : Prop := w.ownsRow B 82 2 v l.length (flatG l)
theorem OwnG.isSlice {w : World} {B : Nat} {v : Value} {l : List (Nat × Nat)} (h : OwnG w B v l) : ∃ a cap, v = .slice a l.length cap := by
  rcases h.2 with ⟨rfl, hn⟩ | ⟨g, cap, cur, rfl, _⟩
  · exact ⟨_, _, by rw [hn]⟩
  · exact ⟨_, _, rfl⟩
theorem append_reg {ops : Array Oper} {rest : List Oper} {o : Oper} {a : Act} {Q : Exit → Act → World → Prop} (hgd : o.guard = none) (s x : Operand)
    (ho : o.op = .call { callee := .builtin .append, args := #[s, x], argTypes := #[78, 78] })
    (B : Nat) (wr : World) (v : Value) (acc : List (Nat × Nat)) (hown : OwnG wr B v acc) (c : Nat × Nat) (hs : a.eval s = v)
    (hx : a.eval x = .slice (some ⟨wr.heap.size, 0, none⟩) 1 1) (hlen : acc.length ≤ 100000) (hB : B ≤ wr.heap.size)
    (h : ∀ v' w', OwnG w' B v' (acc ++ [c]) → Below B wr w' → wpList Try.prog ops Q rest (a.put o.dst v') w') :
    wpList Try.prog ops Q (o :: rest) a (wr.alloc (.cells #[.int .u64 c.1, .int .i64 c.2] 82)) := by
  obtain ⟨i, hi, hz0, hz1, hz2⟩ := info_parts Try.infoG
  have hb : ∀ k, v.ownBlock = some k → B ≤ k := fun k hk => (World.ownsRow.lt hown k hk).1
  refine wpList_append_own_wide (P := Try.prog) (wr.alloc (.cells #[.int .u64 c.1, .int .i64 c.2] 82)) hgd s x 78 ho B 82 i (.agg #[.int .u64 0, .int .i64 0]) 2 16 Try.underlying78 hi hz0 hz1 hz2 rfl (by decide) v acc.length (flatG acc) hs (World.ownsRow.alloc hown _)
    ⟨wr.heap.size, 0, none⟩ 1 1 (regC c) hx rfl ?_ ?_ ?_ ?_ ?_ ?_
  · intro j u hj
    match j, hj with
    | 0, hj => simp [regC] at hj; subst hj; simp [Addr.add]
    | 1, hj => simp [regC] at hj; subst hj; simp [Addr.add]
  · intro u hu; simp [regC] at hu; rcases hu with rfl | rfl <;> rfl
  · unfold maxLen; omega
  · omega
  · simp; omega
  · intro v' w' h1 h2 _
    refine h v' w' ?_ ?_
    · unfold OwnG
      rw [flatG_app, List.length_append]
      simpa [flatG, regC] using h1
    · exact ((Below.refl B wr).alloc hB _).grown h2 (by simp; omega) hb
set_option maxHeartbeats 2000000 in
theorem vm_Regions (w : World) (S : Nat) (v : Value) (sp : Sp) (h : SpAt w S v sp) (hk : sp.ok) :
    Calls Try.prog 33 #[.pointer (some ⟨S, 0, none⟩)] w fun e w' => (∃ vr, e = .returned vr ∧ OwnG w' w.heap.size vr (regs sp.rooms)) ∧ Below w.heap.size w w' := by
  have hl := hk.len
  rcases h.told with ⟨rfl, hr⟩ | ⟨g, cap, ht⟩
  · have h1 := h.c1
    rw [hr]
    go_enter Try.func33, Try.ntmps33
    go_wp2
    go_loopw [3, 11] (fun vs vi wr => vi = .int .i64 0 ∧ vs = .slice none 0 0 ∧ wr = w) (fun _ _ _ => 0)
    case atStart => exact ⟨rfl, rfl, rfl⟩
    case round =>
      obtain ⟨rfl, rfl, rfl⟩ := hrel
      go_wp2
      go_ret
      exact ⟨⟨_, rfl, World.ownsRow_nil _ _ _ _⟩, Below.refl _ _⟩
  · obtain ⟨hc1, hlt, rfl, hglt, hn0, hcap1, hat0, hat1⟩ := id ht
    have HT : Hid (Told w S (.slice (some ⟨g, 0, none⟩) sp.rooms.length cap) sp.rooms sp.rooms.length g cap) := ht
    have HM : Hid (∀ r ∈ sp.rooms, r.pages.length ≤ 64) := fun r hr => (hk.each r hr).most
    have hcap : cap ≤ 9223372036854775807 := by unfold maxLen at hcap1; omega
    clear hat0 hat1 ht h hk
    go_enter Try.func33, Try.ntmps33
    go_wp2
    go_loopw [3, 11] (fun vs vi wr => ∃ i : Nat, i ≤ sp.rooms.length ∧ vi = .int .i64 i ∧ Hid (OwnG wr w.heap.size vs (regs (sp.rooms.take i))) ∧ Hid (Below w.heap.size w wr)) (fun _ vi _ => sp.rooms.length - (intOf vi).toNat)
    case atStart => exact ⟨0, by omega, rfl, World.ownsRow_nil _ _ _ _, Below.refl _ _⟩
    case round =>
      obtain ⟨i, hi, rfl, HO, HB⟩ := hrel
      by_cases hlt2 : i < sp.rooms.length
      · have hltI : (i : Int) < (sp.rooms.length : Int) := by omega
        have hT := HT.out.stay HB.out
        have e0 := hT.at0 i hlt2
        have e1 := hT.at1 i hlt2
        have hg2 := hT.glt
        have hm := HM.out _ (List.getElem_mem hlt2)
        unfold Rm.sl at e1
        have HN : Hid (regs (sp.rooms.take (i + 1)) = regs (sp.rooms.take i) ++ [(sp.rooms[i].pos, sp.rooms[i].pages.length)]) := by
          unfold Hid regs; rw [List.take_add_one, List.getElem?_eq_getElem hlt2, List.map_append]; rfl
        have hal : (regs (sp.rooms.take i)).length ≤ 100000 := by unfold regs; rw [List.length_map, List.length_take]; omega
        have HAL : Hid _ := hal
        clear hT hal
        generalize sp.rooms[i].pages.length = m at *
        generalize sp.rooms[i].pos = p at *
        generalize sp.rooms[i].blk = bl at *
        generalize sp.rooms[i].cap = cp at *
        obtain ⟨sa, sc, hsl⟩ := HO.out.isSlice
        have HO2 : Hid (OwnG (wr.alloc (.cells #[.int .u64 p, .slice (some ⟨bl, 0, none⟩) m cp] 91)) w.heap.size u3 (regs (sp.rooms.take i))) := World.ownsRow.alloc HO.out _
        have HB2 : Hid (Below w.heap.size w (wr.alloc (.cells #[.int .u64 p, .slice (some ⟨bl, 0, none⟩) m cp] 91))) := HB.out.alloc HB.out.size _
        subst hsl
        go_wp2_with (at_builtin; refine append_reg rfl _ _ rfl w.heap.size (wr.alloc (.cells #[.int .u64 p, .slice (some ⟨bl, 0, none⟩) m cp] 91)) _ (regs (sp.rooms.take i)) HO2.out (p, m) rfl ?hx HAL.out HB2.out.size ?_)
        case hx => simp [Act.eval]
        intro v' w1 h1 h2
        have H1 : Hid (OwnG w1 w.heap.size v' (regs (sp.rooms.take i) ++ [(p, m)])) := h1
        have H2 : Hid (Below w.heap.size w w1) := HB2.out.trans h2
        obtain ⟨sa', sc', hsl'⟩ := h1.isSlice
        clear h1 h2
        go_wp2
        go_roundw
        case rel => exact ⟨i + 1, by omega, by go_num, by rw [HN.out]; exact H1, H2⟩
        case measure => simp [intOf]; omega
      · have hltI : ¬ (i : Int) < (sp.rooms.length : Int) := by omega
        have he : i = sp.rooms.length := by omega
        subst he
        rw [List.take_length] at HO
        go_wp2
        go_ret
        exact ⟨⟨_, rfl, HO.out⟩, HB.out⟩
end Go.Proofs.Ytpplmefnhappgaa
