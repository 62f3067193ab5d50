
/-
  Pages that are told: how one is made and laid behind others.
-/
import Derived.Test.YtdecbnmibjcnaaaVmW
set_option linter.unusedVariables false
namespace Go.Proofs.Ytdecbnmibjcnaaa
open Go.RowKit Go.PlainAid
/-- A page that is told. -/
structure Pg where
  pos : Nat
  prot : Int
  data : List UInt8
def dv (d : List UInt8) : List Value := d.map (fun b => .int .u8 (b.toNat : Int))
def Pg.cells (p : Pg) : List Value := .int .u64 p.pos :: .int .i64 p.prot :: dv p.data
def flatP (l : List Pg) : List Value := l.flatMap Pg.cells
def page0 : Pg := ⟨0, 0, List.replicate 256 0⟩
set_option maxRecDepth 100000 in
theorem Try.infoP : (Try.prog.info? 90).map (fun i => (i.zero, i.size, i.bytes)) = some (some (.agg page0.cells.toArray), 258, 272) := by kernel_rfl
set_option maxRecDepth 100000 in
theorem Try.infoA : (Try.prog.info? 86).map (·.size) = some 256 := by kernel_rfl
theorem Pg.cells_len (p : Pg) (h : p.data.length = 256) : p.cells.length = 258 := by simp [Pg.cells, dv, h]
theorem Pg.one (p : Pg) : ∀ u ∈ p.cells, u.oneCell' = true := by
  intro u hu
  unfold Pg.cells at hu
  rcases List.mem_cons.1 hu with rfl | hu
  · rfl
  · rcases List.mem_cons.1 hu with rfl | hu
    · rfl
    · obtain ⟨b, _, rfl⟩ := List.mem_map.1 hu; rfl
set_option maxRecDepth 100000 in
theorem built_page (parts : List (Nat × Value)) : Try.prog.built 90 parts = Instr.fill (fun i => (#[(0, 1), (1, 1), (2, 256)] : Array (Nat × Nat))[i]?) page0.cells.toArray parts := by kernel_rfl
theorem page0_form : ∃ r, page0.cells = .int .u64 0 :: .int .i64 0 :: r ∧ r.length = 256 := ⟨dv page0.data, rfl, by unfold dv page0; rw [List.length_map]; exact List.length_replicate⟩
theorem run_page (p : Pg) (h : p.data.length = 256) (w : World) : (Instr.build 90 #[(0, .int .u64 p.pos), (1, .int .i64 p.prot), (2, .agg (dv p.data).toArray)]).run Try.prog w = .ok (.agg p.cells.toArray) w := by
  refine run_build (P := Try.prog) w 90 _ _ ?_
  have hd : (dv p.data).length = 256 := by simp [dv, h]
  rw [built_page]
  obtain ⟨r, hr, hrl⟩ := page0_form
  rw [hr]
  show Instr.fill _ (.int .u64 0 :: .int .i64 0 :: r : List Value).toArray [(0, .int .u64 p.pos), (1, .int .i64 p.prot), (2, .agg (dv p.data).toArray)] = _
  rw [fill_cons _ _ 0 0 1 _ _ rfl rfl (by simp)]
  rw [fill_cons _ _ 1 1 1 _ _ rfl rfl (by simp [Value.cells])]
  rw [fill_cons _ _ 2 2 256 _ _ rfl (by simp [Value.cells, hd]) (by simp [Value.cells, hrl])]
  simp only [Instr.fill]
  congr 2
  unfold Pg.cells
  simp [Value.cells]
  omega
theorem build_page {ops : Array Oper} {rest : List Oper} {o : Oper} {a : Act} {Q : Exit → Act → World → Prop} {w : World} (hgd : o.guard = none) (x y z : Operand) (ho : o.op = .build 90 #[(0, x), (1, y), (2, z)])
    (p : Pg) (hp : p.data.length = 256) (hx : a.eval x = .int .u64 p.pos) (hy : a.eval y = .int .i64 p.prot) (hz : a.eval z = .agg (dv p.data).toArray) (h : wpList Try.prog ops Q rest (a.put o.dst (.agg p.cells.toArray)) w) : wpList Try.prog ops Q (o :: rest) a w := by
  refine build_eq hgd _ _ ho _ ?_ h
  simp only [List.map_toArray, List.map_cons, List.map_nil, hx, hy, hz]
  exact run_page p hp w
theorem load_data {ops : Array Oper} {rest : List Oper} {o : Oper} {a : Act} {Q : Exit → Act → World → Prop} {w : World} (hgd : o.guard = none) (x : Operand) (ho : o.op = .load 86 x)
    (g : Nat) (s : Sh) (hs : s.data.length = 256) (hc : Holds w g 88 s.cells) (hx : a.eval x = .pointer (some ⟨g, 2, none⟩))
    (h : wpList Try.prog ops Q rest (a.put o.dst (.agg (dv s.data).toArray)) w) : wpList Try.prog ops Q (o :: rest) a w :=
  wpList_load_mid (P := Try.prog) hgd 86 x ho g 2 hx (dv s.data) _ (fun j v hv => hc.cell _ _ (by rw [Nat.add_comm]; exact hv)) Try.underlying86 rfl (by rw [Try.infoA]; simp [dv, hs]) h
theorem alloc_sheet {ops : Array Oper} {rest : List Oper} {o : Oper} {a : Act} {Q : Exit → Act → World → Prop} {w : World} (hgd : o.guard = none) (ho : o.op = .alloc 88)
    (h : wpList Try.prog ops Q rest (a.put o.dst (.pointer (some ⟨w.heap.size, 0, none⟩))) (w.alloc (.cells blank.cells.toArray 88))) : wpList Try.prog ops Q (o :: rest) a w := by
  obtain ⟨i, hi, hz0, hz1, hz2⟩ := info_parts Try.infoSh
  have hz : (zeroValue 88).run Try.prog w = .ok (.agg blank.cells.toArray) w := by simp [zeroValue, typeInfo, hi, hz0]
  have hr : (Instr.alloc 88 true (.tuple #[])).run Try.prog w = .ok (.pointer (some ⟨w.heap.size, 0, none⟩)) (w.alloc (.cells blank.cells.toArray 88)) := by
    simp only [Instr.alloc, Sem.run_bind, hz, Result.andThen_ok]
    simp [newVar, newRow, Value.cells]
  refine wpList_plain hgd fun _ hK => ?_
  unfold Oper.wp execOp
  simp only [ho, Sem.run_bind, Sem.run_pure, Result.andThen_ok, hr]
  exact hK _ _ h
theorem slice_page {ops : Array Oper} {rest : List Oper} {o : Oper} {a : Act} {Q : Exit → Act → World → Prop} {w : World} (hgd : o.guard = none) (x : Operand) (ho : o.op = .buildSlice 52 1 #[(0, x)])
    (p : Pg) (hp : p.data.length = 256) (hx : a.eval x = .agg p.cells.toArray)
    (h : wpList Try.prog ops Q rest (a.put o.dst (.slice (some ⟨w.heap.size, 0, none⟩) 1 1)) (w.alloc (.cells p.cells.toArray 90))) : wpList Try.prog ops Q (o :: rest) a w := by
  obtain ⟨i, hi, hz0, hz1, hz2⟩ := info_parts Try.infoP
  have hz : (zeroValue 90).run Try.prog w = .ok (.agg page0.cells.toArray) w := by simp [zeroValue, typeInfo, hi, hz0]
  have hsz : (Go.sizeOf 90).run Try.prog w = .ok 258 w := by simp [Go.sizeOf, typeInfo, hi, hz1]
  have hl := p.cells_len hp
  have hZ : ((Array.range (1 * 258)).map (page0.cells.toArray[· % page0.cells.toArray.size]!)).size = 258 := by rw [Array.size_map, Array.size_range]
  have hf : ∀ Z : Array Value, Z.size = 258 → Instr.fill (fun i => some (i * 258, 258)) Z [(0, .agg p.cells.toArray)] = some p.cells.toArray := by
    intro Z hZ
    have e1 : (Value.agg p.cells.toArray).cells.size = 258 := by show p.cells.toArray.size = 258; rw [List.size_toArray, hl]
    rw [fill_cons _ _ 0 0 258 _ _ rfl e1 (by omega)]
    have e2 : Z.toList.drop (0 + 258) = [] := List.drop_of_length_le (by simp [hZ])
    have e3 : (Value.agg p.cells.toArray).cells.toList = p.cells := rfl
    rw [e2, e3]
    simp [Instr.fill]
  have hr : (Instr.buildSlice 52 1 #[(0, .agg p.cells.toArray)]).run Try.prog w = .ok (.slice (some ⟨w.heap.size, 0, none⟩) 1 1) (w.alloc (.cells p.cells.toArray 90)) := by
    have n1 : ¬ (1 * 258 > 2 ^ 24) := by decide
    have n2 : ¬ (1 * 258 = 0) := by decide
    simp only [Instr.buildSlice, Sem.run_bind, run_underlying Try.underlying52, Result.andThen_ok, hsz, if_neg n1, if_neg n2, hz, Sem.run_pure, Value.cells]
    rw [hf _ hZ]
    simp [newRow]
  refine wpList_plain hgd fun _ hK => ?_
  unfold Oper.wp execOp
  simp only [ho, List.map_toArray, List.map_cons, List.map_nil, hx, Sem.run_bind, Sem.run_pure, Result.andThen_ok, hr]
  exact hK _ _ h
end Go.Proofs.Ytdecbnmibjcnaaa
