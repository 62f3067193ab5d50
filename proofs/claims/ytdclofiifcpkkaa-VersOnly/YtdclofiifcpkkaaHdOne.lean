
/-
  HdM HdA HdB HdC HdD HdE HdF HdG HdH
-/
import Derived.Test.YtdclofiifcpkkaaRefB
import Derived.Test.YtdclofiifcpkkaaNumH
import Derived.Test.YtdclofiifcpkkaaPutsA
import Derived.Laws.ResultCell
import Derived.Laws.Rows
import Derived.Deep.RegionHeldLaw
import Derived.Lib.QuietBelow
import Derived.Laws.BitsAllLaws
set_option linter.unusedVariables false
namespace Go.Proofs.Ytdclofiifcpkkaa
open Go.RowKit Go.PlainAid
theorem hide {p : Prop} (h : p) : Hid p := h
/-- The number of s bytes at a place; 0, if they aren't there. -/
def rd (l : List UInt8) (p s : Nat) : Nat := if p + s ≤ l.length then rdN (win l p s) else 0
theorem rd_lt (l : List UInt8) (p s : Nat) : rd l p s < 2 ^ (8 * s) := by
  unfold rd; split
  · exact rdN_win_lt l p s ‹_›
  · exact Nat.two_pow_pos _
theorem rd2 (l : List UInt8) (p : Nat) : rd l p 2 < 65536 := rd_lt l p 2
theorem rd4 (l : List UInt8) (p : Nat) : rd l p 4 < 4294967296 := rd_lt l p 4
theorem rd8 (l : List UInt8) (p : Nat) : rd l p 8 < 18446744073709551616 := rd_lt l p 8
theorem rd_in {l : List UInt8} {p s : Nat} (h : p + s ≤ l.length) : rd l p s = rdN (win l p s) := if_pos h
/-- A program header. -/
structure Ph where
  type : Nat
  flags : Nat
  off : Nat
  vaddr : Nat
  filesz : Nat
  memsz : Nat
  align : Nat
def Ph.cells (p : Ph) : List Value := [.int .u32 p.type, .int .u32 p.flags, .int .u64 p.off, .int .u64 p.vaddr, .int .u64 p.filesz, .int .u64 p.memsz, .int .u64 p.align]
def noPh : Ph := ⟨0, 0, 0, 0, 0, 0, 0⟩
structure Ph.ok (p : Ph) : Prop where
  type : p.type < 4294967296
  flags : p.flags < 4294967296
  off : p.off < 18446744073709551616
  vaddr : p.vaddr < 18446744073709551616
  filesz : p.filesz < 18446744073709551616
  memsz : p.memsz < 18446744073709551616
  align : p.align < 18446744073709551616
/-- The one at a place. -/
def phAt (l : List UInt8) (p : Nat) : Ph := ⟨rd l p 4, rd l (p + 4) 4, rd l (p + 8) 8, rd l (p + 16) 8, rd l (p + 32) 8, rd l (p + 40) 8, rd l (p + 48) 8⟩
theorem phAt_ok (l : List UInt8) (p : Nat) : (phAt l p).ok := ⟨rd4 _ _, rd4 _ _, rd8 _ _, rd8 _ _, rd8 _ _, rd8 _ _, rd8 _ _⟩
/-- What is wrong with a file's header. -/
def kindE (l : List UInt8) : Nat :=
  if l.length < 64 ∨ win l 0 4 ≠ [127, 69, 76, 70] then 80
  else if win l 4 3 ≠ [2, 1, 1] then 81
  else if rd l 16 2 ≠ 3 then 82
  else if rd l 18 2 ≠ 62 ∧ rd l 18 2 ≠ 183 then 83
  else 0
/-- Do the program headers fit? -/
def fits (l : List UInt8) : Bool := decide (rd l 52 2 = 64) && decide (rd l 54 2 = 56) && decide (1 ≤ rd l 56 2) && decide (rd l 56 2 ≤ 16) && decide (rd l 32 8 + rd l 56 2 * 56 ≤ l.length)
def tabFrom (l : List UInt8) (p m : Nat) : List Ph := (List.range m).map fun i => phAt l (p + i * 56)
def tableZ (l : List UInt8) : Except Nat (List Ph) :=
  if kindE l ≠ 0 then .error (kindE l) else if fits l then .ok (tabFrom l (rd l 32 8) (rd l 56 2)) else .error 84
/-- Where a part's last page ends. -/
def endN (p : Ph) : Nat := if p.vaddr + p.memsz + 255 ≤ 18446744073709551615 then (p.vaddr + p.memsz + 255) / 256 * 256 else 0
def insN (a s f r : Nat) : Bool := decide (f ≤ a ∧ a + s ≤ f + r)
theorem insN_is (a s f r : Nat) : inB (a : Int) (s : Int) (f : Int) (r : Int) = insN a s f r := by unfold inB insN; rw [decide_eq_decide]; omega
def partOk (p : Ph) (size : Nat) : Bool :=
  decide (p.vaddr % 256 = 0) && decide (p.off % 256 = 0) && decide (p.flags ≤ 7) && !decide (p.memsz = 0) && decide (p.filesz ≤ p.memsz) && insN p.off p.filesz 0 size && insN p.vaddr p.memsz 0 16384
/-- May these parts be, behind an end? -/
def loadsFrom (size : Nat) : Bool → Nat → List Ph → Bool
  | _, _, [] => true
  | first, e, p :: t => if partOk p size ∧ ¬ p.vaddr < e ∧ ¬ (first = true ∧ p.vaddr ≠ 0) then loadsFrom size false (endN p) t else false
def loadsOk (ps : List Ph) (size : Nat) : Bool := loadsFrom size true 0 ps && !decide (ps = [])
/-- Where bytes of memory stand in the file. -/
def offN : List Ph → Nat → Nat → Nat × Bool
  | [], _, _ => (0, false)
  | p :: t, a, s => if insN a s p.vaddr p.filesz then (if p.off + (a - p.vaddr) ≤ 18446744073709551615 then (p.off + (a - p.vaddr), true) else (0, false)) else offN t a s
def insideB (ps : List Ph) (a s : Nat) : Bool := ps.any fun p => insN a s p.vaddr p.memsz
def dynOk (ps : List Ph) (d : Ph) : Bool := (offN ps d.vaddr d.filesz).2 && !decide (d.filesz = 0) && decide (d.vaddr % 8 = 0)
def holdW : List Ph → Ph → Bool
  | [], _ => false
  | p :: t, r => if insN r.vaddr r.memsz p.vaddr (endN p - p.vaddr) then decide (p.flags / 2 % 2 = 1) else holdW t r
def relroOk (ps : List Ph) (r : Ph) : Bool := !decide (r.memsz = 0) && decide (r.vaddr % 256 = 0) && holdW ps r
def ofT (ps : List Ph) (k : Nat) : List Ph := ps.filter fun p => decide (p.type = k)
def spanN (ps : List Ph) : Nat := match ps.getLast? with | none => 0 | some p => endN p / 256
/-- What the headers of a library say. -/
structure Hd where
  machine : Nat
  loads : List Ph
  dynamic : Ph
  relro : Ph
def noHd : Hd := ⟨0, [], noPh, noPh⟩
def heads2 (m : Nat) (ls : List Ph) (d : Ph) (rs : List Ph) : Except Nat Hd :=
  match rs with
  | [] => .ok ⟨m, ls, d, noPh⟩
  | [r] => if relroOk ls r then .ok ⟨m, ls, d, r⟩ else .error 87
  | _ => .error 87
def heads1 (m : Nat) (ls ds rs : List Ph) : Except Nat Hd :=
  match ds with
  | [d] => if dynOk ls d then heads2 m ls d rs else .error 86
  | _ => .error 86
def headsOf (m size : Nat) (all : List Ph) : Except Nat Hd :=
  if loadsOk (ofT all 1) size then heads1 m (ofT all 1) (ofT all 2) (ofT all 1685382482) else .error 85
def parseZ (l : List UInt8) : Except Nat Hd :=
  match tableZ l with
  | .error e => .error e
  | .ok all => headsOf (rd l 18 2) l.length all
end Go.Proofs.Ytdclofiifcpkkaa
namespace Go.Proofs.Ytdclofiifcpkkaa
open Go.RowKit Go.PlainAid
end Go.Proofs.Ytdclofiifcpkkaa
namespace Go.Proofs.Ytdclofiifcpkkaa
open Go.RowKit Go.PlainAid
def flatH (l : List Ph) : List Value := l.flatMap Ph.cells
theorem flatH_app (l m : List Ph) : flatH (l ++ m) = flatH l ++ flatH m := by simp [flatH]
theorem flatH_len (l : List Ph) : (flatH l).length = l.length * 7 := by
  induction l with
  | nil => rfl
  | cons n l ih => show (n.cells ++ flatH l).length = _; rw [List.length_append, ih]; simp [Ph.cells]; omega
theorem flatH_get (l : List Ph) : ∀ (j : Nat) (hj : j < l.length) (k : Nat) (hk : k < 7), (flatH l)[j * 7 + k]? = l[j].cells[k]? := by
  induction l with
  | nil => intro j hj; simp at hj
  | cons e l ih =>
    intro j hj k hk
    have e1 : flatH (e :: l) = e.cells ++ flatH l := rfl
    have e2 : e.cells.length = 7 := rfl
    cases j with
    | zero => rw [e1, Nat.zero_mul, Nat.zero_add, List.getElem?_append_left (by omega)]; rfl
    | succ j =>
      rw [e1, List.getElem?_append_right (by omega), e2, show (j + 1) * 7 + k - 7 = j * 7 + k by omega]
      exact ih j (by simpa using hj) k hk
theorem Ph.one (e : Ph) : ∀ u ∈ e.cells, u.oneCell' = true := by
  intro u hu
  simp only [Ph.cells, List.mem_cons, List.not_mem_nil, or_false] at hu
  rcases hu with rfl | rfl | rfl | rfl | rfl | rfl | rfl <;> rfl
/-- A row of program headers of the call's own. -/
def OwnH (w : World) (B : Nat) (v : Value) (l : List Ph) : Prop := w.ownsRow B 28 7 v l.length (flatH l)
theorem OwnH.nil (w : World) (B : Nat) : OwnH w B (.slice none 0 0) [] := World.ownsRow_nil _ _ _ _
theorem OwnH.stay {w w' : World} {B : Nat} {v : Value} {l : List Ph} (h : OwnH w B v l) (hb : Below w.heap.size w w') : OwnH w' B v l := by
  unfold OwnH at h ⊢
  refine ⟨h.1, ?_⟩
  rcases h.2 with hn | ⟨g, cap, cur, rfl, hB, hg, rest⟩
  · exact .inl hn
  · refine .inr ⟨g, cap, cur, rfl, hB, ?_, rest⟩
    rw [hb.block g (Array.getElem?_eq_some_iff.1 hg).1]; exact hg
theorem OwnH.low {w : World} {B C : Nat} {v : Value} {l : List Ph} (h : OwnH w B v l) (hb : C ≤ B) : OwnH w C v l := by
  unfold OwnH at h ⊢
  refine ⟨h.1, ?_⟩
  rcases h.2 with hn | ⟨g, cap, cur, rfl, hB, rest⟩
  · exact .inl hn
  · exact .inr ⟨g, cap, cur, rfl, Nat.le_trans hb hB, rest⟩
/-- A row of program headers that can be read. -/
def ArgH (w : World) (v : Value) (ps : List Ph) : Prop :=
  ps.length ≤ 65536 ∧ ((v = .slice none 0 0 ∧ ps = []) ∨ ∃ g cap, v = .slice (some ⟨g, 0, none⟩) ps.length cap ∧ ps.length ≤ cap ∧ cap ≤ maxLen ∧ g < w.heap.size ∧
    ∀ j (hj : j < ps.length) k, k < 7 → w.cell? ⟨g, j * 7 + k, none⟩ = ps[j].cells[k]?)
theorem OwnH.arg {w : World} {B : Nat} {v : Value} {l : List Ph} (h : OwnH w B v l) (hl : l.length ≤ 65536) : ArgH w v l := by
  have hc := fun g hg => World.ownsRow.cells h (g := g) hg
  unfold OwnH at h
  refine ⟨hl, ?_⟩
  rcases h.2 with ⟨rfl, hn⟩ | ⟨g, cap, cur, rfl, hb, hg, hn, hm, _⟩
  · exact .inl ⟨rfl, List.length_eq_zero_iff.1 hn⟩
  · refine .inr ⟨g, cap, rfl, hn, hm, (Array.getElem?_eq_some_iff.1 hg).1, fun j hj k hk => ?_⟩
    have hlen : k < l[j].cells.length := hk
    have := hc g rfl (j * 7 + k) (l[j].cells[k]) (by rw [flatH_get l j hj k hk, List.getElem?_eq_getElem hlen])
    rw [add_at, Nat.zero_add] at this
    rw [this, List.getElem?_eq_getElem hlen]
theorem ArgH.below {w w' : World} {v : Value} {ps : List Ph} (h : ArgH w v ps) (hb : Below w.heap.size w w') : ArgH w' v ps := by
  refine ⟨h.1, ?_⟩
  rcases h.2 with hn | ⟨g, cap, rfl, h1, h2, h3, h4⟩
  · exact .inl hn
  · refine .inr ⟨g, cap, rfl, h1, h2, Nat.lt_of_lt_of_le h3 hb.size, fun j hj k hk => ?_⟩
    rw [hb.cell (p := ⟨g, j * 7 + k, none⟩) h3, h4 j hj k hk]
theorem ArgH.nil (w : World) : ArgH w (.slice none 0 0) [] := ⟨by simp, .inl ⟨rfl, rfl⟩⟩
theorem ArgH.form {w : World} {v : Value} {ps : List Ph} (h : ArgH w v ps) : ∃ a cap, v = .slice a ps.length cap := by
  rcases h.2 with ⟨rfl, rfl⟩ | ⟨g, cap, rfl, _⟩
  · exact ⟨_, _, rfl⟩
  · exact ⟨_, _, rfl⟩
/-- The cells of one of them. -/
theorem ArgH.at {w : World} {a : Option Addr} {n cap : Nat} {ps : List Ph} (h : ArgH w (.slice a n cap) ps) (j : Nat) (hj : j < ps.length) :
    ∃ g, a = some ⟨g, 0, none⟩ ∧ ps.length ≤ cap ∧ cap ≤ 9223372036854775807 ∧ g < w.heap.size ∧
      w.cell? ⟨g, j * 7, none⟩ = some (.int .u32 ps[j].type) ∧ w.cell? ⟨g, j * 7 + 1, none⟩ = some (.int .u32 ps[j].flags) ∧ w.cell? ⟨g, j * 7 + 2, none⟩ = some (.int .u64 ps[j].off) ∧
      w.cell? ⟨g, j * 7 + 3, none⟩ = some (.int .u64 ps[j].vaddr) ∧ w.cell? ⟨g, j * 7 + 4, none⟩ = some (.int .u64 ps[j].filesz) ∧ w.cell? ⟨g, j * 7 + 5, none⟩ = some (.int .u64 ps[j].memsz) ∧ w.cell? ⟨g, j * 7 + 6, none⟩ = some (.int .u64 ps[j].align) := by
  rcases h.2 with ⟨_, rfl⟩ | ⟨g, cap', e, h1, h2, h3, h4⟩
  · simp at hj
  · injection e with e1 e2 e3
    subst e1 e3
    have k := fun k hk => h4 j hj k hk
    exact ⟨g, rfl, h1, by unfold maxLen at h2; omega, h3, k 0 (by omega), k 1 (by omega), k 2 (by omega), k 3 (by omega), k 4 (by omega), k 5 (by omega), k 6 (by omega)⟩
theorem infoH : (Try.prog.info? 28).map (fun i => (i.zero, i.size, i.bytes)) = some (some (.agg noPh.cells.toArray), 7, 48) := by kernel_rfl
theorem append_ph {ops : Array Oper} {rest : List Oper} {o : Oper} {a : Act} {Q : Exit → Act → World → Prop} (hgd : o.guard = none) (s x : Operand)
    (ho : o.op = .call { callee := .builtin .append, args := #[s, x], argTypes := #[24, 24] })
    (B : Nat) (wr : World) (v : Value) (l : List Ph) (hown : OwnH wr B v l) (e : Ph) (hs : a.eval s = v)
    (q : Nat) (hq : q = wr.heap.size) (hx : a.eval x = .slice (some ⟨q, 0, none⟩) 1 1) (hlen : l.length ≤ 1000000) (hB : B ≤ wr.heap.size)
    (h : ∀ v' w', OwnH w' B v' (l ++ [e]) → Below B wr w' → wpList Try.prog ops Q rest (a.put o.dst v') w') :
    wpList Try.prog ops Q (o :: rest) a (wr.alloc (.cells e.cells.toArray 28)) := by
  subst hq
  obtain ⟨i, hi, hz0, hz1, hz2⟩ := info_parts infoH
  have hb : ∀ k, v.ownBlock = some k → B ≤ k := fun k hk => (World.ownsRow.lt hown k hk).1
  refine wpList_append_own (P := Try.prog) (wr.alloc (.cells e.cells.toArray 28)) hgd s x 24 ho B 28 i _ 7 48 Try.underlying24 hi hz0 hz1 hz2 rfl (by decide) v l.length (flatH l) hs (World.ownsRow.alloc hown _)
    ⟨wr.heap.size, 0, none⟩ 1 1 e.cells hx rfl ?_ e.one ?_ ?_ ?_ ?_
  · intro j u hj
    have hj5 : j < 7 := (List.getElem?_eq_some_iff.1 hj).1
    rw [add_at, Nat.zero_add, World.cell?_alloc_at _ _ _ _ (by simp)]
    simpa using hj
  · unfold maxLen; omega
  · omega
  · simp; omega
  · intro v' w' h1 h2 _
    refine h v' w' ?_ ?_
    · unfold OwnH
      rw [List.length_append, flatH_app]
      simpa [flatH] using h1
    · exact ((Below.refl B wr).alloc hB _).grown h2 (by simp; omega) hb
theorem results_cell1 {P : Program} {fn : Func} {p : Tmp} {ty : TypeId} (h : fn.results = #[.cell p ty]) (tmps : Array Value) (w : World) (g : Nat) (t : TypeId) (cs : Array Value) (fr : Nat × Nat) (d : TypeDesc)
    (hp : tmps.getD p undef = .pointer (some ⟨g, 0, none⟩)) (hg : w.heap[g]? = some (.cells cs t fr))
    (hu : P.underlying ty = some d) (hd : (match d with | .struct _ | .array _ _ => true | _ => false) = true) (hi : (P.info? ty).map (·.size) = some cs.size) :
    (results fn tmps).run P w = .ok (.agg cs) w := by
  have hp' : tmps[p]?.getD undef = .pointer (some ⟨g, 0, none⟩) := by simpa using hp
  simp [results, h, hp', asAddr, run_loadVar_row w g t ty cs fr d hg hu hd hi]
end Go.Proofs.Ytdclofiifcpkkaa
namespace Go.Proofs.Ytdclofiifcpkkaa
open Go.RowKit Go.PlainAid
theorem pow256_is : isPow 256 := ⟨8, by omega, by decide⟩
/-- The cells of what headers say. -/
def hdCells (m : Nat) (v : Value) (d r : Ph) : List Value := [.int .u16 m, v, .int .u32 d.type, .int .u32 d.flags, .int .u64 d.off, .int .u64 d.vaddr, .int .u64 d.filesz, .int .u64 d.memsz, .int .u64 d.align,
  .int .u32 r.type, .int .u32 r.flags, .int .u64 r.off, .int .u64 r.vaddr, .int .u64 r.filesz, .int .u64 r.memsz, .int .u64 r.align]
def offV (x : Nat × Bool) : Value := .tuple #[.int .u64 x.1, .bool x.2]
set_option maxHeartbeats 2000000 in
theorem head_Off (w : World) (m : Nat) (v : Value) (d r : Ph) (ps : List Ph) (h : ArgH w v ps) (ok : ∀ p ∈ ps, p.ok) (x s : Nat) (hx : x < 18446744073709551616) (hs : s < 18446744073709551616) :
    Calls Try.prog 45 #[.agg (hdCells m v d r).toArray, .int .u64 x, .int .u64 s] w fun e w' => e = .returned (offV (offN ps x s)) ∧ Below w.heap.size w w' := by
  have HB : Hid (Below w.heap.size w (w.alloc (.cells (hdCells m v d r).toArray 30))) := (Below.refl _ w).alloc (Nat.le_refl _) _
  have HA := hide (h.below HB.out)
  have hl := h.1
  obtain ⟨a, cap, rfl⟩ := h.form
  have HK := hide ok
  obtain ⟨O, hO⟩ : ∃ O, offN ps x s = O := ⟨_, rfl⟩
  have HO : Hid (offN (ps.drop 0) x s = O) := hO
  rw [hO]
  clear h ok hO
  unfold hdCells at *
  go_enter Try.func45, Try.ntmps45
  go_wp2
  generalize w.alloc _ = w0 at *
  go_loopw [9, 13] (fun _ vi wr => ∃ i : Nat, i ≤ ps.length ∧ vi = .int .i64 i ∧ Hid (Below w0.heap.size w0 wr) ∧ Hid (offN (ps.drop i) x s = O)) (fun _ vi _ => ps.length - (intOf vi).toNat)
  case atStart => exact ⟨0, by omega, rfl, Below.refl _ _, HO⟩
  case round =>
    obtain ⟨i, hi, rfl, HW, HF⟩ := hrel
    by_cases hlt : i < ps.length
    · have hltI : (i : Int) < (ps.length : Int) := by omega
      obtain ⟨g, rfl, hc1, hc2, hg, y0, y1, y2, y3, y4, y5, y6⟩ := (HA.out.below HW.out).at i hlt
      have hok := HK.out ps[i] (List.getElem_mem hlt)
      have hF := HF.out
      rw [List.drop_eq_getElem_cons hlt, offN] at hF
      clear HF
      generalize ps[i] = p at *
      have p1 := hok.vaddr
      have p2 := hok.filesz
      have p3 := hok.off
      obtain ⟨ty, fl, off, va, fs, ms, al⟩ := p
      simp only at y0 y1 y2 y3 y4 y5 y6 p1 p2 p3 hF
      have HB1 : Hid (Below w0.heap.size w0 (wr.alloc (.cells #[.int .u32 ty, .int .u32 fl, .int .u64 off, .int .u64 va, .int .u64 fs, .int .u64 ms, .int .u64 al] 28))) := HW.out.alloc HW.out.size _
      have hI := num_Inside (x : Int) (s : Int) (va : Int) (fs : Int) (wr.alloc (.cells #[.int .u32 ty, .int .u32 fl, .int .u64 off, .int .u64 va, .int .u64 fs, .int .u64 ms, .int .u64 al] 28)) (by omega) (by omega) (by omega) (by omega) (by omega) (by omega)
      rw [insN_is] at hI
      clear hok
      by_cases cI : insN x s va fs = true
      · rw [if_pos cI] at hF
        rw [cI] at hI
        have hv : va ≤ x := by unfold insN at cI; simp at cI; omega
        have hvI : (va : Int) ≤ (x : Int) := by omega
        by_cases cA : off + (x - va) ≤ 18446744073709551615
        · rw [if_pos cA] at hF
          have HF := hide hF
          clear hF
          have hA := num_Add_yes (off : Int) ((x : Int) - (va : Int)) (wr.alloc (.cells #[.int .u32 ty, .int .u32 fl, .int .u64 off, .int .u64 va, .int .u64 fs, .int .u64 ms, .int .u64 al] 28)) (by omega) (by omega) (by omega)
          have eV : (off : Int) + ((x : Int) - (va : Int)) = ((off + (x - va) : Nat) : Int) := by omega
          rw [eV] at hA
          obtain ⟨q, hq⟩ : ∃ q, off + (x - va) = q := ⟨_, rfl⟩
          rw [hq] at hA
          have HQ := hide hq
          clear eV cI cA hv hq
          go_wp2_with fail
          refine hI.mono ?_
          rintro e w1 ⟨rfl, rfl⟩
          go_wp2_with fail
          refine hA.mono ?_
          rintro e w1 ⟨rfl, rfl⟩
          go_wp2
          go_ret2
          exact ⟨by rw [← HF.out, HQ.out]; rfl, HB.out.trans (HB1.out.mono HB.out.size)⟩
        · rw [if_neg cA] at hF
          subst hF
          have hA := num_Add_no (off : Int) ((x : Int) - (va : Int)) (wr.alloc (.cells #[.int .u32 ty, .int .u32 fl, .int .u64 off, .int .u64 va, .int .u64 fs, .int .u64 ms, .int .u64 al] 28)) (by omega) (by omega) (by omega) (by omega)
          clear cI cA hv
          go_wp2_with fail
          refine hI.mono ?_
          rintro e w1 ⟨rfl, rfl⟩
          go_wp2_with fail
          refine hA.mono ?_
          rintro e w1 ⟨rfl, rfl⟩
          go_wp2
          go_ret2
          exact ⟨rfl, HB.out.trans (HB1.out.mono HB.out.size)⟩
      · rw [if_neg cI] at hF
        have cI' : insN x s va fs = false := by simpa using cI
        rw [cI'] at hI
        have HF := hide hF
        clear cI cI' hF
        go_wp2_with fail
        refine hI.mono ?_
        rintro e w1 ⟨rfl, rfl⟩
        go_wp2
        go_roundw
        case rel => exact ⟨i + 1, by omega, by go_num, HB1, HF⟩
        case measure => simp [intOf]; omega
    · have hltI : ¬ (i : Int) < (ps.length : Int) := by omega
      have he : i = ps.length := by omega
      subst he
      have hF := HF.out
      rw [List.drop_length, offN] at hF
      subst hF
      clear HF
      go_wp2
      go_ret2
      exact ⟨rfl, HB.out.trans (HW.out.mono HB.out.size)⟩
end Go.Proofs.Ytdclofiifcpkkaa
namespace Go.Proofs.Ytdclofiifcpkkaa
open Go.RowKit Go.PlainAid
theorem flatH_set (L : List Ph) (i : Nat) (hi : i < L.length) (e : Ph) : (flatH L).take (i * 7) ++ e.cells ++ (flatH L).drop (i * 7 + 7) = flatH (L.set i e) := by
  have h1 : L = L.take i ++ L[i] :: L.drop (i + 1) := by rw [List.getElem_cons_drop hi, List.take_append_drop]
  have h2 : L.set i e = L.take i ++ e :: L.drop (i + 1) := by
    rw [List.set_eq_take_append_cons_drop, if_pos hi]
  have e1 : ∀ (X Y : List Ph) (y : Ph), flatH (X ++ y :: Y) = flatH X ++ (y.cells ++ flatH Y) := fun X Y y => by rw [flatH_app]; rfl
  have hl : (flatH (L.take i)).length = i * 7 := by rw [flatH_len, List.length_take, Nat.min_eq_left (by omega)]
  rw [h2, e1]
  conv => lhs; rw [h1, e1]
  rw [← hl, List.take_left, List.drop_length_add_append, show (7 : Nat) = L[i].cells.length from rfl, List.drop_left]
  simp
/-- A whole program header is stored into a row that is known. -/
theorem store_ph {ops : Array Oper} {rest : List Oper} {o : Oper} {a : Act} {Q : Exit → Act → World → Prop} {w : World} (hgd : o.guard = none) (x y : Operand) (ho : o.op = .store 28 x y)
    (g i : Nat) (L : List Ph) (e : Ph) (hg : w.heap[g]? = some (.cells (flatH L).toArray 28 (0, 0))) (hi : i < L.length) (hx : a.eval x = .pointer (some ⟨g, i * 7, none⟩)) (hy : a.eval y = .agg e.cells.toArray)
    (h : ∀ w', w'.heap[g]? = some (.cells (flatH (L.set i e)).toArray 28 (0, 0)) → w.grownBy w' (some g) → wpList Try.prog ops Q rest (a.put o.dst undef) w') : wpList Try.prog ops Q (o :: rest) a w := by
  have hlen : i * 7 + 7 ≤ (flatH L).length := by rw [flatH_len]; omega
  have hst := run_storeCells_at Try.prog g (i * 7) 28 e.cells 0 (flatH L).toArray w hg (by show i * 7 + 0 + 7 ≤ _; simpa using hlen) (fun v hv => e.one v hv)
  have hr : (Instr.storeAt 28 (.pointer (some ⟨g, i * 7, none⟩)) (.agg e.cells.toArray)).run Try.prog w = .ok () (w.setRow g (flatH (L.set i e)).toArray) := by
    have hsz : ∀ w, (Go.sizeOf 28).run Try.prog w = .ok 7 w := Try.sizeOf28
    have hcl : e.cells.length = 7 := rfl
    simp only [Nat.add_zero, hcl] at hst
    simp only [Instr.storeAt, Instr.sureAddr, Sem.run_bind, Sem.run_pure, Result.andThen_ok, storeVar, hsz, Value.cells, List.size_toArray, hcl]
    rw [flatH_set L i hi e] at hst
    simpa using hst
  refine wpList_plain hgd fun _ hK => ?_
  unfold Oper.wp execOp
  simp only [ho, hx, hy, Sem.run_bind, Sem.run_pure, Result.andThen_ok, hr]
  exact hK _ _ (h _ (setRow_heap w g _ _ _ _ hg) ⟨rfl, rfl, rfl, by simp, fun k _ hk => setRow_other w g k _ (fun e => hk (by rw [e]))⟩)
theorem made_phs (n : Nat) : (madeCells (Value.cells (.agg noPh.cells.toArray)) (n * 7)).toList = flatH (List.replicate n noPh) := by
  have hm : ∀ (zc : Array Value) (N : Nat), (madeCells zc N).toList = (List.range N).map (fun i => zc[i % zc.size]!) := fun zc N => by unfold madeCells; simp
  rw [hm]
  apply List.ext_getElem?
  intro j
  by_cases hj : j < n * 7
  · have h1 : j / 7 < n := by omega
    have h2 : j % 7 < 7 := by omega
    have h3 : j = (j / 7) * 7 + j % 7 := by omega
    have e : (flatH (List.replicate n noPh))[j]? = noPh.cells[j % 7]? := by
      rw [h3, flatH_get _ (j / 7) (by simpa using h1) (j % 7) h2, ← h3]
      simp
    rw [List.getElem?_map, List.getElem?_range hj, e, List.getElem?_eq_getElem (by exact h2)]
    show some ((noPh.cells.toArray)[j % 7]!) = _
    rw [getElem!_pos _ _ (by exact h2)]
    rfl
  · rw [List.getElem?_eq_none (by simpa using hj), List.getElem?_eq_none (by rw [flatH_len]; simpa using hj)]
theorem OwnH.of_block {w : World} {B g : Nat} {L : List Ph} (hg : w.heap[g]? = some (.cells (flatH L).toArray 28 (0, 0))) (hB : B ≤ g) (hL : L.length ≤ 1000) : OwnH w B (.slice (some ⟨g, 0, none⟩) L.length L.length) L := by
  unfold OwnH
  refine ⟨by rw [flatH_len], .inr ⟨g, L.length, (flatH L).toArray, rfl, hB, hg, Nat.le_refl _, by unfold maxLen; omega, by simp [flatH_len], ?_⟩⟩
  rw [List.take_of_length_le (by simp [flatH_len])]
theorem OwnH.block {w : World} {B g n : Nat} {L : List Ph} (h : w.ownsRow B 28 7 (.slice (some ⟨g, 0, none⟩) n n) n (flatH L)) (hn : L.length = n) : w.heap[g]? = some (.cells (flatH L).toArray 28 (0, 0)) := by
  rcases h.2 with ⟨e, _⟩ | ⟨g', cap', cur, e, _, hg, _, _, hc, ht⟩
  · cases e
  · injection e with e1 e2 e3
    injection e1 with e1
    injection e1 with e1
    subst e1 e3
    rw [hg]
    have : cur.toList = flatH L := by rw [← ht, List.take_of_length_le (by simp [hc])]
    rw [← this]
theorem make_phs {ops : Array Oper} {rest : List Oper} {o : Oper} {a : Act} {Q : Exit → Act → World → Prop} {w : World} (hgd : o.guard = none) (l c : Operand) (ho : o.op = Op.makeSlice 24 l c)
    (n : Nat) (hn : n ≤ 1000) (hl : a.eval l = .int .u64 (n : Int)) (hc : a.eval c = .int .u64 (n : Int))
    (hK : ∀ w', w'.heap[w.heap.size]? = some (.cells (flatH (List.replicate n noPh)).toArray 28 (0, 0)) → Below w.heap.size w w' → wpList Try.prog ops Q rest (a.put o.dst (.slice (some ⟨w.heap.size, 0, none⟩) n n)) w') : wpList Try.prog ops Q (o :: rest) a w := by
  obtain ⟨i, hi, hz0, hz1, hz2⟩ := info_parts infoH
  refine wpList_make_full (P := Try.prog) w hgd l c 24 ho w.heap.size 28 i _ 7 Try.underlying24 hi hz0 hz1 .u64 .u64 n n n hl hc rfl rfl (by rw [hz2]; omega) (by unfold maxLen; omega) (Nat.le_refl _) ?_
  intro w' h1 h2
  rw [made_phs] at h1
  exact hK w' (OwnH.block h1 (by simp)) ((Below.refl _ w).grown h2 (Nat.le_refl _) (by simp))
/-- What Table answers. -/
def TableIs (w' : World) (B : Nat) (o : Except Nat (List Ph)) (e : Ending) : Prop :=
  match o with
  | .error n => e = .returned (.tuple #[.slice none 0 0, .int .i64 n])
  | .ok ps => ∃ v, e = .returned (.tuple #[v, .int .i64 0]) ∧ OwnH w' B v ps
theorem Arg.below' {w w' : World} {v : Value} {l : List UInt8} (h : Arg w v l) (hb : Below w.heap.size w w') : Arg w' v l := h.below hb rfl
theorem tab_next (l : List UInt8) (p m i : Nat) (hi : i < m) : ((tabFrom l p i) ++ List.replicate (m - i) noPh).set i (phAt l (p + i * 56)) = (tabFrom l p (i + 1)) ++ List.replicate (m - (i + 1)) noPh := by
  have hl : (tabFrom l p i).length = i := by simp [tabFrom]
  rw [show m - i = (m - (i + 1)) + 1 by omega, List.replicate_succ, List.set_append_right _ _ (by omega), hl, Nat.sub_self, List.set_cons_zero]
  have e : tabFrom l p (i + 1) = tabFrom l p i ++ [phAt l (p + i * 56)] := by unfold tabFrom; rw [List.range_succ, List.map_append]; rfl
  rw [e, List.append_assoc]
  rfl
theorem grown_below {w w0 w1 : World} {g : Nat} (hg : w.heap.size ≤ g) (h0 : Below w.heap.size w w0) (h : w0.grownBy w1 (some g)) : Below w.heap.size w w1 :=
  h0.grown h h0.size (fun k hk => by injection hk with hk; omega)
end Go.Proofs.Ytdclofiifcpkkaa
namespace Go.Proofs.Ytdclofiifcpkkaa
open Go.RowKit Go.PlainAid
theorem endN_le (p : Ph) : endN p ≤ 18446744073709551615 := by unfold endN; split <;> omega
theorem Own.low {w : World} {B C : Nat} {v : Value} {l : List UInt8} (h : Own w B v l) (hb : C ≤ B) : Own w C v l := by
  unfold Own at h ⊢
  refine ⟨h.1, ?_⟩
  rcases h.2 with hn | ⟨g, cap, cur, rfl, hB, rest⟩
  · exact .inl hn
  · exact .inr ⟨g, cap, cur, rfl, Nat.le_trans hb hB, rest⟩
def partZ (l : List UInt8) (ps : List Ph) (x s : Nat) : List UInt8 × Bool :=
  if (offN ps x s).2 = true ∧ (offN ps x s).1 + s ≤ l.length then (win l (offN ps x s).1 s, true) else ([], false)
theorem offN_le (ps : List Ph) (x s : Nat) : (offN ps x s).1 ≤ 18446744073709551615 := by
  induction ps with
  | nil => simp [offN]
  | cons p t ih =>
    rw [offN]
    split
    · split
      · assumption
      · simp
    · exact ih
set_option maxHeartbeats 2000000 in
theorem head_Part (w : World) (b : Value) (l : List UInt8) (hb : Arg w b l) (m : Nat) (v : Value) (d r : Ph) (ps : List Ph) (h : ArgH w v ps) (ok : ∀ p ∈ ps, p.ok) (x s : Nat) (hx : x < 18446744073709551616) (hs : s < 18446744073709551616) :
    Calls Try.prog 15 #[b, .agg (hdCells m v d r).toArray, .int .u64 x, .int .u64 s] w fun e w' => (∃ v', e = .returned (.tuple #[v', .bool (partZ l ps x s).2]) ∧ Own w' w.heap.size v' (partZ l ps x s).1) ∧ Below w.heap.size w w' := by
  have HB : Hid (Below w.heap.size w (w.alloc (.cells (hdCells m v d r).toArray 30))) := (Below.refl _ w).alloc (Nat.le_refl _) _
  have HA := hide (hb.below' HB.out)
  have hOf := head_Off _ m v d r ps (h.below HB.out) ok x s hx hs
  have hle := offN_le ps x s
  obtain ⟨O, hO⟩ : ∃ O, partZ l ps x s = O := ⟨_, rfl⟩
  rw [hO]
  unfold partZ at hO
  generalize offN ps x s = y at *
  obtain ⟨o, b1⟩ := y
  have HO := hide hO
  obtain ⟨a, cap, rfl, _⟩ := hb.isSlice
  obtain ⟨a2, cap2, rfl⟩ := h.form
  clear hb h ok hO
  unfold hdCells at *
  simp only [offV] at *
  cases b1 with
  | false =>
    have hO := HO.out
    simp only [Bool.false_eq_true, false_and, if_false] at hO
    subst hO
    clear HO
    go_enter Try.func15, Try.ntmps15
    go_wp2_with fail
    refine hOf.mono ?_
    rintro e w1 ⟨rfl, hb1⟩
    have HB1 : Hid (Below w.heap.size w w1) := HB.out.trans (hb1.mono HB.out.size)
    clear hb1 hOf
    go_wp2
    go_ret2
    exact ⟨⟨_, rfl, Own.nil _ _⟩, HB1.out⟩
  | true =>
    by_cases c : o + s ≤ l.length
    · have hO := HO.out
      rw [if_pos ⟨rfl, c⟩] at hO
      subst hO
      clear HO
      go_enter Try.func15, Try.ntmps15
      go_wp2_with fail
      refine hOf.mono ?_
      rintro e w1 ⟨rfl, hb1⟩
      have HB1 : Hid (Below w.heap.size w w1) := HB.out.trans (hb1.mono HB.out.size)
      have hP := le_Part_yes w1 _ l (HA.out.below' hb1) o s c
      clear hb1 hOf
      go_wp2_with fail
      refine hP.mono ?_
      rintro e w2 ⟨v', rfl, hown, hb2⟩
      have HB2 : Hid (Below w.heap.size w w2) := HB1.out.trans (hb2.mono HB1.out.size)
      have HOW := hide (hown.low HB1.out.size)
      clear hb2 hP hown
      go_wp2
      go_ret2
      exact ⟨⟨_, rfl, HOW.out⟩, HB2.out⟩
    · have hO := HO.out
      rw [if_neg (fun e => c e.2)] at hO
      subst hO
      clear HO
      go_enter Try.func15, Try.ntmps15
      go_wp2_with fail
      refine hOf.mono ?_
      rintro e w1 ⟨rfl, hb1⟩
      have HB1 : Hid (Below w.heap.size w w1) := HB.out.trans (hb1.mono HB.out.size)
      have hP := le_Part_no w1 _ l (HA.out.below' hb1) o s (by omega) c
      clear hb1 hOf
      go_wp2_with fail
      refine hP.mono ?_
      rintro e w2 ⟨rfl, rfl⟩
      clear hP
      go_wp2
      go_ret2
      exact ⟨⟨_, rfl, Own.nil _ _⟩, HB1.out⟩
end Go.Proofs.Ytdclofiifcpkkaa
namespace Go.Proofs.Ytdclofiifcpkkaa
open Go.RowKit Go.PlainAid
end Go.Proofs.Ytdclofiifcpkkaa
namespace Go.Proofs.Ytdclofiifcpkkaa
open Go.RowKit Go.PlainAid
theorem ofT_len (ps : List Ph) (k : Nat) : (ofT ps k).length ≤ ps.length := List.length_filter_le _ _
end Go.Proofs.Ytdclofiifcpkkaa
namespace Go.Proofs.Ytdclofiifcpkkaa
open Go.RowKit Go.PlainAid Go.Sort
theorem and_two (n : Nat) (h : n < 4294967296) : (bits .and .u32 (n : Int) 2 != 0) = decide (n / 2 % 2 = 1) := by
  have e := u32_and_nat n 2 h (by omega)
  rw [show ((2 : Nat) : Int) = 2 from rfl] at e
  have e2 : n &&& 2 = (n / 2 % 2) * 2 := by
    have h1 : (n &&& 2) / 2 = n / 2 &&& 2 / 2 := Nat.and_div_two
    rw [show 2 / 2 = 1 from rfl, Nat.and_one_is_mod] at h1
    have h2 := Nat.and_mod_two_pow (a := n) (b := 2) (n := 1)
    rw [show 2 ^ 1 = 2 from rfl, show 2 % 2 = 0 from rfl, Nat.and_zero] at h2
    omega
  rw [e, e2]
  by_cases c : n / 2 % 2 = 1
  · rw [decide_eq_true c, c]; rfl
  · rw [decide_eq_false c, show n / 2 % 2 = 0 by omega]; rfl
theorem q_same {F : FuncId} {args : Array Value} {W : World} {d : Nat} {os : Array Obj} {v : Value} (h : Calls Try.prog F args (grow (redrawn W d) os) fun e w' => e = .returned v ∧ grow (redrawn W d) os = w') :
    Calls Try.prog F args (grow (redrawn W d) os) fun e w'' => e = .returned v ∧ ∃ p : Regrown, w'' = grow (redrawn W p.d) p.os :=
  h.mono fun _ _ ⟨he, hw⟩ => ⟨he, ⟨d, os⟩, hw.symm⟩
end Go.Proofs.Ytdclofiifcpkkaa
