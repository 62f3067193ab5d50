
/-
  The step from a walk to a row that lists variables, the world's shape kept; the table of the lowest bits, out of what is listed.
-/
import Derived.Test.YtkelipoiopkokaaDoorRrJ
import Derived.Test.YtkelipoiopkokaaDoorRows
import Derived.Test.YtkelipoiopkokaaDoorTie
import Derived.Test.YtkelipoiopkokaaDoorCards
import Derived.ProofKit
import Derived.Handed
import Derived.HandedShaped
import Derived.Shelf.Vars
import Derived.LaidMore
import Derived.Lay
import Derived.SevenTiedAt
import Derived.Stop.Joined
import Derived.OpenShut
set_option linter.unusedVariables false
namespace Go.Proofs.YtkelipoiopkokaaDoor
open Go.RowKit Go.PlainAid
theorem wrap_and_shaped {H : Type} {enc : TypeId × Value → H} {a : Assume} {C : Checked} {os : Os} {f : FuncId} {fn : Func} {s : ChangeSpec} {conds : List PathCond} {apart fresh handsOn again : Bool} {X : World → Array Value → Prop}
    (hX : ∀ (w w' : World) (args : Array Value), w.heap = w'.heap → X w args → X w' args)
    (own : ownKnob C.prog.godebug = none) (started : os.Started) (noInit : C.prog.inits.idxOf? f = none) (hfn : C.prog.funcs[f]? = some fn)
    (witness : ∃ (w : World) (tape : Tape) (i : Input), w.os = os ∧ (w.forCall tape i).Shaped C.prog ∧ i.vars = [] ∧ Input.okWide C.prog (w.forCall tape i) .any w.heap.size f i ∧
      ((s.pre enc C.prog fn conds apart (w.forCall tape i).memory i.args ∧ X (w.forCall tape i).memory i.args) ∧ sizedMet enc C.prog fn (OpenSpec.ofChange s) apart (w.forCall tape i).memory i.args) ∧ a.holds C.prog (lone (Frame.enter C.prog f i.args .normal) [] (w.forCall tape i)))
    (contract : ∀ (W : World) (base : Nat) (args : Array Value) (ds gs : List (DataW H)) (before : List MemPlace),
      (∀ (j : Nat) t v, fn.params[j]? = some t → args[j]? = some v → Value.okWide C.prog W .any base t v) →
      DataW.Whole enc C.prog fn.params.toList s.vars apart W args.toList ds gs before →
      conds.all (PathCond.test C.prog ⟨fn.params.toList, ds, s.plain.varTypes C.prog, gs⟩) = true →
      (DataW.weightsEach C.prog (fn.params.toList ++ s.plain.varTypes C.prog) (ds ++ gs)).all (· ≤ reachBytes) = true → X W args → W.ShapedOpen C.prog →
      Calls C.prog f args W fun e W' => ∃ v, e = .returned v ∧ s.post enc C.prog fn apart fresh handsOn again W args v W') :
    ReturnsInHanded a C os f .any (fun w args => (s.pre enc C.prog fn conds apart w args ∧ X w args) ∧ sizedMet enc C.prog fn (OpenSpec.ofChange s) apart w args) (s.post enc C.prog fn apart fresh handsOn again) := by
  refine returnsInHanded_of_calls own started noInit witness ?_
  intro w tape i _ hsh _ hok hpre _
  obtain ⟨_, _, _, fn', hfn', _, _, _, _, hval⟩ := hok
  have e : fn' = fn := Option.some.inj (hfn'.symm.trans hfn)
  subst e
  obtain ⟨⟨⟨ds, gs, before, hw, hc⟩, hx⟩, hz⟩ := hpre
  have hw' := DataW.Whole.of_heap (w' := w.forCall tape i) (by rfl) hw
  refine (contract (w.forCall tape i) w.heap.size i.args ds gs before hval hw' hc (hz.weights hw) (hX _ _ _ (by rfl) hx) hsh).mono fun e W' ⟨v, he, hp⟩ => ?_
  subst he
  exact ChangeSpec.post_blind hp
theorem cells_u8 : Tryd.prog.cellsOf 5 = 1 := by kernel_rfl
def aggOf {H : Type} : DataW H → List (DataW H)
  | .agg l => l
  | _ => []
theorem tab_lits : aggOf (Rows.laid_math_bits_deBruijn64tab : DataW Unit) = Lib.deBruijn64tab.map (fun k => DataW.lit (.int .u8 (k : Nat))) := by kernel_rfl
theorem tab_trod {H : Type} {enc : TypeId × Value → H} {W : World} {base : Nat} {sp : Nat → Bool} {held : Bool} {fuel : Nat} {cs : Array Value} {ps : List MemPlace} {d : DataW H} (hl : aggOf d = Lib.deBruijn64tab.map (fun k => DataW.lit (.int .u8 (k : Nat))))
    (hd : DataW.trod enc Tryd.prog W base sp held fuel 71 cs.toList = some (d, ps)) : ∀ j, j < 64 → cs[j]? = some (.int .u8 (Lib.deBruijn64tab.getD j 0 : Nat)) := by
  obtain ⟨xs, m, _, hx, hlen, hn, hel⟩ := DataW.trod_array Tryd.underlying71 hd
  intro j hj
  injection hx with hx1 hx2
  rw [hx1] at hl
  simp only [aggOf] at hl
  have hj2 : j < xs.length := by omega
  have h := hel j hj
  rw [cells_u8, Nat.mul_one, List.getElem?_eq_getElem hj2] at h
  obtain ⟨k, e1, e2, _⟩ := DataW.trod_int Tryd.underlying5 h
  have h64 : Lib.deBruijn64tab.length = 64 := by decide
  have e3 : (xs.map (·.1))[j]? = some (DataW.lit (.int .u8 (Lib.deBruijn64tab.getD j 0 : Nat))) := by
    rw [hl, List.getElem?_map, List.getElem?_eq_getElem (by omega)]
    simp [List.getD, List.getElem?_eq_getElem (show j < Lib.deBruijn64tab.length by omega)]
  rw [List.getElem?_map, List.getElem?_eq_getElem hj2] at e3
  simp only [Option.map_some, Option.some.injEq] at e3
  rw [e2] at e3
  injection e3 with e3
  injection e3 with _ e3
  subst e3
  have hl2 : j < cs.toList.length := by
    apply Nat.lt_of_not_le
    intro hge
    rw [List.drop_eq_nil_of_le hge] at e1
    simp at e1
  rw [List.drop_eq_getElem_cons hl2] at e1
  simp only [List.take_succ_cons, List.take_zero, List.cons.injEq, and_true] at e1
  rw [Array.getElem?_eq_getElem (by simpa using hl2)]
  first
    | (congr 1; done)
    | (congr 1; simpa using e1)
theorem tab_of_vars {laid : List (String × DataW Unit)} {W : World} (n : String) (hn : laid = [(n, Rows.laid_math_bits_deBruijn64tab)]) (hg : Tryd.prog.globalNamed n = some 0) (ht : (Tryd.prog.globals[0]?).map (·.type) = some 71)
    (hp : (laid.all fun x => x.2.handleName?.isNone) = true) (h : laidMetH Tryd.prog laid W) : TabZ W := by
  rw [MakeChecks.laidMetH_plain _ _ _ hp] at h
  subst hn
  obtain ⟨ps, ⟨g0, t0, cs0, f0, p0, q0, hg0, ht0, hv0, hd0, _⟩, _, _⟩ := h
  obtain rfl := Option.some.inj (hg.symm.trans hg0)
  obtain rfl := Option.some.inj (ht.symm.trans ht0)
  intro j hj
  rw [World.var?_cell hg0 hv0 j]
  exact tab_trod tab_lits hd0 j hj
end Go.Proofs.YtkelipoiopkokaaDoor
