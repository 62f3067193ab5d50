
/-
  Layer 7 (zip): an entry of the list.
-/
import Derived.Test.YtegcdddfccmljaaZpA
import Derived.Laws.ResultCell
import Derived.Laws.Rows
import Derived.Deep.RegionHeldLaw
set_option linter.unusedVariables false
namespace Go.Proofs.Ytegcdddfccmljaa
open Go.RowKit Go.PlainAid
/-- An entry. -/
structure En where
  name : List UInt8
  method : Nat
  size : Nat
  stored : Nat
  pos : Nat
def En.cells (e : En) : List Value := [.string ⟨e.name.toArray⟩, .int .i64 e.method, .int .u64 e.size, .int .u64 e.stored, .int .u64 e.pos]
def noEn : En := ⟨[], 0, 0, 0, 0⟩
/-- The entry at a place of a list, and how many bytes it takes. -/
def entryAt (l : List UInt8) (p : Nat) : Option (En × Nat) :=
  if p + 46 ≤ l.length ∧ rd l p 4 = 33639248 then
    if p + (46 + rd l (p + 28) 2 + rd l (p + 30) 2 + rd l (p + 32) 2) ≤ l.length then
      some (⟨win l (p + 46) (rd l (p + 28) 2), rd l (p + 10) 2, rd l (p + 24) 4, rd l (p + 20) 4, rd l (p + 42) 4⟩, 46 + rd l (p + 28) 2 + rd l (p + 30) 2 + rd l (p + 32) 2)
    else none
  else none
def entV : Option (En × Nat) → Value
  | none => .tuple #[.agg noEn.cells.toArray, .int .u64 0, .bool false]
  | some (e, s) => .tuple #[.agg e.cells.toArray, .int .u64 s, .bool true]
theorem results_cell3 {P : Program} {fn : Func} {p u v : Tmp} {ty : TypeId} (h : fn.results = #[.cell p ty, .tmp u, .tmp v]) (tmps : Array Value) (w : World) (g : Nat) (t : TypeId) (cs : Array Value) (fr : Nat × Nat) (d : TypeDesc)
    (hp : tmps.getD p undef = .pointer (some ⟨g, 0, none⟩)) (hg : w.heap[g]? = some (.cells cs t fr))
    (hu : P.underlying ty = some d) (hd : (match d with | .struct _ | .array _ _ => true | _ => false) = true) (hi : (P.info? ty).map (·.size) = some cs.size) :
    (results fn tmps).run P w = .ok (.tuple #[.agg cs, tmps.getD u undef, tmps.getD v undef]) w := by
  have hp' : tmps[p]?.getD undef = .pointer (some ⟨g, 0, none⟩) := by simpa using hp
  simp [results, h, hp', asAddr, run_loadVar_row w g t ty cs fr d hg hu hd hi]
theorem hide {p : Prop} (h : p) : Hid p := h
theorem Arg.heap {w w' : World} {v : Value} {l : List UInt8} (h : Arg w v l) (e : w'.heap = w.heap) : Arg w' v l := by
  obtain ⟨a, cap, rfl, h1, h2, h3, h4⟩ := h
  refine ⟨a, cap, rfl, h1, h2, h3, ?_⟩
  rcases h4 with h4 | ⟨x, rfl, hc⟩
  · exact .inl h4
  · exact .inr ⟨x, rfl, fun j hj => by rw [← hc j hj]; unfold World.cell?; rw [e]⟩
theorem two_blocks (w : World) (x y : Obj) : (((w.alloc x).alloc y).drew).heap[w.heap.size]? = some x := by
  show ((w.alloc x).alloc y).heap[w.heap.size]? = some x
  rw [heap_alloc_old _ _ (by simp)]
  exact heap_alloc_new _ _
theorem below_two (w : World) (x y : Obj) : Below w.heap.size w ((w.alloc x).alloc y).drew := (((Below.refl _ w).alloc (Nat.le_refl _) x).alloc (by simp) y).drew
set_option maxHeartbeats 4000000 in
set_option maxRecDepth 20000 in
theorem zip_readEntry (w : World) (v : Value) (l : List UInt8) (h : Arg w v l) (p : Nat) (hl : l.length ≤ 1000000) (hp : p ≤ l.length) :
    Calls Try.prog 51 #[v, .int .u64 p] w fun e w' => e = .returned (entV (entryAt l p)) ∧ Below w.heap.size w w' := by
  have HA : Hid (Arg w v l) := h
  obtain ⟨a, cap, rfl, hc1, hc2, _⟩ := h.isSlice
  have HB1 : Hid (Below w.heap.size w (w.alloc (.cells #[.string ByteArray.empty, .int .i64 0, .int .u64 0, .int .u64 0, .int .u64 0] 32))) := (Below.refl _ w).alloc (Nat.le_refl _) _
  have hg1 : (w.alloc (.cells #[.string ByteArray.empty, .int .i64 0, .int .u64 0, .int .u64 0, .int .u64 0] 32)).heap[w.heap.size]? = some (.cells #[.string ByteArray.empty, .int .i64 0, .int .u64 0, .int .u64 0, .int .u64 0] 32 (0, 0)) := heap_alloc_new _ _
  have HA1 : Hid (Arg (w.alloc (.cells #[.string ByteArray.empty, .int .i64 0, .int .u64 0, .int .u64 0, .int .u64 0] 32)) (.slice a l.length cap) l) := h.alloc _
  have HG1 : Hid _ := hg1
  clear h hg1
  obtain ⟨n, hn⟩ : ∃ n, l.length = n := ⟨_, rfl⟩
  have HN : Hid (l.length = n) := hn
  obtain ⟨E, hE⟩ : ∃ E, entryAt l p = E := ⟨_, rfl⟩
  have HE : Hid (entryAt l p = E) := hE
  rw [hE]
  clear hE
  have hH := zip_has _ _ l HA1.out p 46 (by omega)
  rw [hn] at hl hp hH HA1 HA hc1 ⊢
  clear hn
  by_cases c1 : p + 46 ≤ n
  · rw [show decide (p + 46 ≤ n) = true from decide_eq_true c1] at hH
    have h4 := zip_four _ _ l HA1.out p (by omega)
    by_cases c2 : rd l p 4 = 33639248
    · rw [c2] at h4
      have h28 := zip_two _ _ l HA1.out (p + 28) (by omega)
      have h30 := zip_two _ _ l HA1.out (p + 30) (by omega)
      have h32 := zip_two _ _ l HA1.out (p + 32) (by omega)
      have b28 := rd2 l (p + 28)
      have b30 := rd2 l (p + 30)
      have b32 := rd2 l (p + 32)
      obtain ⟨q, hq⟩ : ∃ q, rd l (p + 28) 2 = q := ⟨_, rfl⟩
      obtain ⟨q30, hq30⟩ : ∃ q, rd l (p + 30) 2 = q := ⟨_, rfl⟩
      obtain ⟨q32, hq32⟩ : ∃ q, rd l (p + 32) 2 = q := ⟨_, rfl⟩
      have hEe := HE.out
      rw [entryAt, if_pos ⟨by rw [HN.out]; exact c1, c2⟩, hq, hq30, hq32, HN.out] at hEe
      rw [hq] at h28 b28
      rw [hq30] at h30 b30
      rw [hq32] at h32 b32
      have hH2 := zip_has _ _ l HA1.out p (46 + q + q30 + q32) (by omega)
      rw [HN.out] at hH2
      have hqI : (q : Int) < 65536 := by omega
      have hq30I : (q30 : Int) < 65536 := by omega
      have hq32I : (q32 : Int) < 65536 := by omega
      clear HE hq hq30 hq32 c2
      by_cases c3 : p + (46 + q + q30 + q32) ≤ n
      · rw [show decide (p + (46 + q + q30 + q32) ≤ n) = true from decide_eq_true c3] at hH2
        rw [if_pos c3] at hEe
        have HEE : Hid _ := hEe
        have hin : p + 46 + q ≤ l.length := by rw [HN.out]; omega
        have hI1 : (p : Int) + 46 + (q : Int) ≤ (cap : Int) := by omega
        have hcap : cap ≤ 9223372036854775807 := by unfold maxLen at hc2; omega
        have z10 : ((rd l (p + 10) 2 : Nat) : Int) < 65536 := by have := rd2 l (p + 10); omega
        have F10 : Hid (∀ W, Arg W (.slice a n cap) l → Calls Try.prog 34 #[.slice a n cap, .int .u64 ((p : Int) + 10)] W fun e w' => e = .returned (.int .u64 (rd l (p + 10) 2)) ∧ W = w') := fun W hW => zip_two W (.slice a n cap) l hW (p + 10) (by omega)
        have F24 : Hid (∀ W, Arg W (.slice a n cap) l → Calls Try.prog 35 #[.slice a n cap, .int .u64 ((p : Int) + 24)] W fun e w' => e = .returned (.int .u64 (rd l (p + 24) 4)) ∧ W = w') := fun W hW => zip_four W (.slice a n cap) l hW (p + 24) (by omega)
        have F20 : Hid (∀ W, Arg W (.slice a n cap) l → Calls Try.prog 35 #[.slice a n cap, .int .u64 ((p : Int) + 20)] W fun e w' => e = .returned (.int .u64 (rd l (p + 20) 4)) ∧ W = w') := fun W hW => zip_four W (.slice a n cap) l hW (p + 20) (by omega)
        have F42 : Hid (∀ W, Arg W (.slice a n cap) l → Calls Try.prog 35 #[.slice a n cap, .int .u64 ((p : Int) + 42)] W fun e w' => e = .returned (.int .u64 (rd l (p + 42) 4)) ∧ W = w') := fun W hW => zip_four W (.slice a n cap) l hW (p + 42) (by omega)
        clear hEe
        generalize rd l (p + 10) 2 = q10 at *
        generalize rd l (p + 24) 4 = q24 at *
        generalize rd l (p + 20) 4 = q20 at *
        generalize rd l (p + 42) 4 = q42 at *
        obtain ⟨X, hX⟩ : ∃ X, win l (p + 46) q = X := ⟨_, rfl⟩
        rw [hX] at HEE
        have HX : Hid (win l (p + 46) q = X) := hX
        clear hX
        go_enter Try.func51, Try.ntmps51
        go_wp2_with fail
        refine hH.mono ?_
        rintro e w1 ⟨rfl, rfl⟩
        go_wp2_with fail
        refine h4.mono ?_
        rintro e w1 ⟨rfl, rfl⟩
        go_wp2_with fail
        refine h28.mono ?_
        rintro e w1 ⟨rfl, rfl⟩
        go_wp2_with fail
        refine h30.mono ?_
        rintro e w1 ⟨rfl, rfl⟩
        go_wp2_with fail
        refine h32.mono ?_
        rintro e w1 ⟨rfl, rfl⟩
        go_wp2_with fail
        refine hH2.mono ?_
        rintro e w1 ⟨rfl, rfl⟩
        go_wp2_with fail
        clear hH h4 h28 h30 h32 hH2
        have AD : Arg (w.alloc (.cells #[.string ByteArray.empty, .int .i64 0, .int .u64 0, .int .u64 0, .int .u64 0] 32)).drew (.slice a n cap) l := HA1.out.heap rfl
        have HAD := hide AD
        clear AD
        have f1 : 0 ≤ (p : Int) + 46 + (q : Int) := by omega
        have f3 : 0 ≤ (p : Int) + 46 := by omega
        have f4 : (p : Int) + 46 ≤ (p : Int) + 46 + (q : Int) := by omega
        have t1 : ((p : Int) + 46).toNat = p + 46 := by omega
        have t2 : ((p : Int) + 46 + (q : Int)).toNat = p + 46 + q := by omega
        have g0 : IntKind.u64.wrap ((p : Int) + 46 + (q : Int)) = (p : Int) + 46 + (q : Int) := by rw [IntKind.wrap_u64]; omega
        have g10 : IntKind.u64.wrap ((p : Int) + 10) = (p : Int) + 10 := by rw [IntKind.wrap_u64]; omega
        have g20 : IntKind.u64.wrap ((p : Int) + 20) = (p : Int) + 20 := by rw [IntKind.wrap_u64]; omega
        have g24 : IntKind.u64.wrap ((p : Int) + 24) = (p : Int) + 24 := by rw [IntKind.wrap_u64]; omega
        have g42 : IntKind.u64.wrap ((p : Int) + 42) = (p : Int) + 42 := by rw [IntKind.wrap_u64]; omega
        have gz : IntKind.i64.wrap (q10 : Int) = (q10 : Int) := by rw [IntKind.wrap_i64]; omega
        by_cases hcp : cap = p + 46
        · subst hcp
          have f2 : (p : Int) + 46 + (q : Int) ≤ (p : Int) + 46 := by omega
          clear hI1
          have cv : ∀ W, Arg W (.slice a n (p + 46)) l → (convert 22 9 (.slice a q 0)).run Try.prog W = .ok (.string ⟨X.toArray⟩) W ∧ Hid (Arg W (.slice a n (p + 46)) l) := fun W hW => by
            have := HX.out; subst this; have := HN.out; subst this; exact ⟨(hW.cut0 (p + 46) q hin rfl).text, hW⟩
          have DD := cv _ HAD.out
          have HGA := hide (fun o => cv _ (Arg.alloc HAD.out o))
          have G10 : Hid (∀ W, _ → _) := fun W (hW : (convert 22 9 (.slice a q 0)).run Try.prog W = .ok (.string ⟨X.toArray⟩) W ∧ Hid (Arg W (.slice a n (p + 46)) l)) => F10.out W hW.2.out
          have G24 : Hid (∀ W, _ → _) := fun W (hW : (convert 22 9 (.slice a q 0)).run Try.prog W = .ok (.string ⟨X.toArray⟩) W ∧ Hid (Arg W (.slice a n (p + 46)) l)) => F24.out W hW.2.out
          have G20 : Hid (∀ W, _ → _) := fun W (hW : (convert 22 9 (.slice a q 0)).run Try.prog W = .ok (.string ⟨X.toArray⟩) W ∧ Hid (Arg W (.slice a n (p + 46)) l)) => F20.out W hW.2.out
          have G42 : Hid (∀ W, _ → _) := fun W (hW : (convert 22 9 (.slice a q 0)).run Try.prog W = .ok (.string ⟨X.toArray⟩) W ∧ Hid (Arg W (.slice a n (p + 46)) l)) => F42.out W hW.2.out
          clear cv
          go_region_held_law (fun w' => (convert 22 9 (.slice a q 0)).run Try.prog w' = .ok (.string ⟨X.toArray⟩) w' ∧ Hid (Arg w' (.slice a n (p + 46)) l))
            (first | with_reducible assumption | exact HGA.out _)
            (first
              | (go_at_call 34; with_reducible refine (G10.out _ (by assumption)).mono ?_; rintro e w1 ⟨rfl, rfl⟩)
              | (go_at_call 35; with_reducible refine (G24.out _ (by assumption)).mono ?_; rintro e w1 ⟨rfl, rfl⟩)
              | (go_at_call 35; with_reducible refine (G20.out _ (by assumption)).mono ?_; rintro e w1 ⟨rfl, rfl⟩)
              | (go_at_call 35; with_reducible refine (G42.out _ (by assumption)).mono ?_; rintro e w1 ⟨rfl, rfl⟩))
          all_goals
            go_wp2
            (try simp only [Exit.inBlock, Exit.then])
            refine bodyPost_ret (results_cell3 rfl _ _ w.heap.size _ _ _ _ rfl (two_blocks _ _ _) Try.underlying32 rfl (by kernel_rfl)) rfl ?_
            exact ⟨by rw [← HEE.out]; rfl, below_two _ _ _⟩
        · obtain ⟨g, o, rfl⟩ : ∃ g o, a = some ⟨g, o, none⟩ := by
            obtain ⟨g, o, c', e, _⟩ := HA.out.cells (by rw [HN.out]; omega)
            injection e with e1
            exact ⟨g, o, e1⟩
          have ad : (Addr.add ⟨g, o, none⟩ (p + 46)) = ⟨g, o + (p + 46), none⟩ := add_at _ _ _
          have cv : ∀ W, Arg W (.slice (some ⟨g, o, none⟩) n cap) l → (convert 22 9 (.slice (some ⟨g, o + (p + 46), none⟩) q (cap - (p + 46)))).run Try.prog W = .ok (.string ⟨X.toArray⟩) W ∧ Hid (Arg W (.slice (some ⟨g, o, none⟩) n cap) l) := fun W hW => by
            have := HX.out; subst this; have := HN.out; subst this; have q := hW.cut (p + 46) q hin hcp; simp only [Option.map_some, ad] at q; exact ⟨q.text, hW⟩
          have DD := cv _ HAD.out
          have HGA := hide (fun o => cv _ (Arg.alloc HAD.out o))
          have G10 : Hid (∀ W, _ → _) := fun W (hW : (convert 22 9 (.slice (some ⟨g, o + (p + 46), none⟩) q (cap - (p + 46)))).run Try.prog W = .ok (.string ⟨X.toArray⟩) W ∧ Hid (Arg W (.slice (some ⟨g, o, none⟩) n cap) l)) => F10.out W hW.2.out
          have G24 : Hid (∀ W, _ → _) := fun W (hW : (convert 22 9 (.slice (some ⟨g, o + (p + 46), none⟩) q (cap - (p + 46)))).run Try.prog W = .ok (.string ⟨X.toArray⟩) W ∧ Hid (Arg W (.slice (some ⟨g, o, none⟩) n cap) l)) => F24.out W hW.2.out
          have G20 : Hid (∀ W, _ → _) := fun W (hW : (convert 22 9 (.slice (some ⟨g, o + (p + 46), none⟩) q (cap - (p + 46)))).run Try.prog W = .ok (.string ⟨X.toArray⟩) W ∧ Hid (Arg W (.slice (some ⟨g, o, none⟩) n cap) l)) => F20.out W hW.2.out
          have G42 : Hid (∀ W, _ → _) := fun W (hW : (convert 22 9 (.slice (some ⟨g, o + (p + 46), none⟩) q (cap - (p + 46)))).run Try.prog W = .ok (.string ⟨X.toArray⟩) W ∧ Hid (Arg W (.slice (some ⟨g, o, none⟩) n cap) l)) => F42.out W hW.2.out
          clear cv
          go_region_held_law (fun w' => (convert 22 9 (.slice (some ⟨g, o + (p + 46), none⟩) q (cap - (p + 46)))).run Try.prog w' = .ok (.string ⟨X.toArray⟩) w' ∧ Hid (Arg w' (.slice (some ⟨g, o, none⟩) n cap) l))
            (first | with_reducible assumption | exact HGA.out _)
            (first
              | (go_at_call 34; with_reducible refine (G10.out _ (by assumption)).mono ?_; rintro e w1 ⟨rfl, rfl⟩)
              | (go_at_call 35; with_reducible refine (G24.out _ (by assumption)).mono ?_; rintro e w1 ⟨rfl, rfl⟩)
              | (go_at_call 35; with_reducible refine (G20.out _ (by assumption)).mono ?_; rintro e w1 ⟨rfl, rfl⟩)
              | (go_at_call 35; with_reducible refine (G42.out _ (by assumption)).mono ?_; rintro e w1 ⟨rfl, rfl⟩))
          all_goals
            go_wp2
            (try simp only [Exit.inBlock, Exit.then])
            refine bodyPost_ret (results_cell3 rfl _ _ w.heap.size _ _ _ _ rfl (two_blocks _ _ _) Try.underlying32 rfl (by kernel_rfl)) rfl ?_
            exact ⟨by rw [← HEE.out]; rfl, below_two _ _ _⟩
      · rw [show decide (p + (46 + q + q30 + q32) ≤ n) = false from decide_eq_false c3] at hH2
        rw [if_neg c3] at hEe
        have HV : Hid (E = none) := hEe.symm
        clear hEe
        go_enter Try.func51, Try.ntmps51
        go_wp2_with fail
        refine hH.mono ?_
        rintro e w1 ⟨rfl, rfl⟩
        go_wp2_with fail
        refine h4.mono ?_
        rintro e w1 ⟨rfl, rfl⟩
        go_wp2_with fail
        refine h28.mono ?_
        rintro e w1 ⟨rfl, rfl⟩
        go_wp2_with fail
        refine h30.mono ?_
        rintro e w1 ⟨rfl, rfl⟩
        go_wp2_with fail
        refine h32.mono ?_
        rintro e w1 ⟨rfl, rfl⟩
        go_wp2_with fail
        refine hH2.mono ?_
        rintro e w1 ⟨rfl, rfl⟩
        go_wp2
        (try simp only [Exit.inBlock, Exit.then])
        refine bodyPost_ret (results_cell3 rfl _ _ w.heap.size _ _ _ _ rfl (heap_alloc_new _ _) Try.underlying32 rfl (by kernel_rfl)) rfl ?_
        exact ⟨by rw [HV.out]; rfl, HB1.out⟩
    · have HV : Hid (E = none) := by rw [Hid, ← HE.out, entryAt, if_neg (fun e => c2 e.2)]
      generalize rd l p 4 = q at *
      have hb : ((q : Int) != 33639248) = true := by simp; omega
      clear c2 HE
      go_enter Try.func51, Try.ntmps51
      go_wp2_with fail
      refine hH.mono ?_
      rintro e w1 ⟨rfl, rfl⟩
      go_wp2_with fail
      refine h4.mono ?_
      rintro e w1 ⟨rfl, rfl⟩
      go_wp2
      (try simp only [Exit.inBlock, Exit.then])
      refine bodyPost_ret (results_cell3 rfl _ _ w.heap.size _ _ _ _ rfl (heap_alloc_new _ _) Try.underlying32 rfl (by kernel_rfl)) rfl ?_
      exact ⟨by rw [HV.out]; rfl, HB1.out⟩
  · have HV : Hid (E = none) := by rw [Hid, ← HE.out, entryAt, if_neg (fun e => c1 (by rw [← HN.out]; exact e.1))]
    rw [show decide (p + 46 ≤ n) = false from decide_eq_false c1] at hH
    clear HE
    go_enter Try.func51, Try.ntmps51
    go_wp2_with fail
    refine hH.mono ?_
    rintro e w1 ⟨rfl, rfl⟩
    go_wp2
    (try simp only [Exit.inBlock, Exit.then])
    refine bodyPost_ret (results_cell3 rfl _ _ w.heap.size _ _ _ _ rfl (heap_alloc_new _ _) Try.underlying32 rfl (by kernel_rfl)) rfl ?_
    exact ⟨by rw [HV.out]; rfl, HB1.out⟩
end Go.Proofs.Ytegcdddfccmljaa
