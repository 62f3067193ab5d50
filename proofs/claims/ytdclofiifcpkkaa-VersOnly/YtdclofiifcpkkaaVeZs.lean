
/-
  VeZ VeW
-/
import Derived.Test.YtdclofiifcpkkaaSxI
import Derived.Test.YtdclofiifcpkkaaVeSup
import Derived.Test.YtdclofiifcpkkaaDyKK
import Derived.Deep.RegionHeld
import Derived.Test.YtdclofiifcpkkaaVeXs
set_option linter.unusedVariables false
namespace Go.Proofs.Ytdclofiifcpkkaa
open Go.RowKit Go.PlainAid Go.Sort
theorem results_cell22 {P : Program} {fn : Func} {p q u v : Tmp} {ty ty' : TypeId} (h : fn.results = #[.cell p ty, .cell q ty', .tmp u, .tmp v]) (tmps : Array Value) (w : World) (g g' : Nat) (t t' : TypeId) (cs cs' : Array Value) (fr fr' : Nat × Nat) (d d' : TypeDesc)
    (hp : tmps.getD p undef = .pointer (some ⟨g, 0, none⟩)) (hg : w.heap[g]? = some (.cells cs t fr))
    (hu : P.underlying ty = some d) (hd : (match d with | .struct _ | .array _ _ => true | _ => false) = true) (hi : (P.info? ty).map (·.size) = some cs.size)
    (hp' : tmps.getD q undef = .pointer (some ⟨g', 0, none⟩)) (hg' : w.heap[g']? = some (.cells cs' t' fr'))
    (hu' : P.underlying ty' = some d') (hd' : (match d' with | .struct _ | .array _ _ => true | _ => false) = true) (hi' : (P.info? ty').map (·.size) = some cs'.size) :
    (results fn tmps).run P w = .ok (.tuple #[.agg cs, .agg cs', tmps.getD u undef, tmps.getD v undef]) w := by
  have e1 : tmps[p]?.getD undef = .pointer (some ⟨g, 0, none⟩) := by simpa using hp
  have e2 : tmps[q]?.getD undef = .pointer (some ⟨g', 0, none⟩) := by simpa using hp'
  simp [results, h, e1, e2, asAddr, run_loadVar_row w g t ty cs fr d hg hu hd hi, run_loadVar_row w g' t' ty' cs' fr' d' hg' hu' hd' hi']
theorem yields_load {ops : Array Oper} {S : World → Prop} {o : Oper} {a : Act} (T : TypeId) (x : Operand) (ho : o.op = .load T x) (g : Nat) (hx : a.eval x = .pointer (some ⟨g, 0, none⟩)) (v : Value)
    (hr : ∀ W, S W → (loadVar T ⟨g, 0, none⟩).run Try.prog W = .ok v W) (hw : Region.wanted o (yielded ops a.tmps) = true) : YieldsIf Try.prog ops S o v a := by
  refine .inl ⟨hw, fun W hW => ?_⟩
  unfold execOp
  simp only [ho, hx, Instr.loadAt, Instr.sureAddr, Sem.run_bind, Sem.run_pure, Result.andThen_ok, hr W hW]
theorem build_dy0 (w : World) : (Instr.build 35 #[]).run Try.prog w = .ok (.agg zeroDy.toArray) w := by kernel_rfl
/-- What is read of a file. -/
def ReadIs (w' : World) (l : List UInt8) (e : Ending) : Prop :=
  (∃ hc dc : List Value, hc.length = 16 ∧ dc.length = 40 ∧ (∀ u ∈ hc, u.oneCell' = true) ∧ (∀ u ∈ dc, u.oneCell' = true) ∧ e = .returned (.tuple #[.agg hc.toArray, .agg dc.toArray, .slice none 0 0, .bool false])) ∨
  ∃ (hd : Hd) (D : Dd) (a1 : Option Addr) (n1 c1 : Nat) (na : Option Addr) (nn nc : Nat) (vs : Value) (S : List Sy), l.length ≤ 262144 ∧ parseZ l = .ok hd ∧ dynZ l hd = .ok D ∧ ArgH w' (.slice a1 n1 c1) hd.loads ∧
    ArgSy w' vs S ∧ S ≠ [] ∧ S.length ≤ 256 ∧ (∀ s ∈ S, bareS s) ∧
    e = .returned (.tuple #[.agg (hdCells hd.machine (.slice a1 n1 c1) hd.dynamic hd.relro).toArray, .agg (dyCells D.so D.ru (.slice na nn nc) D.ents).toArray, vs, .bool true])
/-- What it holds: the two answers. -/
structure Yy (w wx : World) (hC dC : List Value) : Prop where
  b : Below w.heap.size w wx
  z2 : wx.heap[w.heap.size]? = some (.cells hC.toArray 30 (0, 0))
  z3 : wx.heap[w.heap.size + 1]? = some (.cells dC.toArray 35 (0, 0))
theorem Yy.stay {w wx wy : World} {hC dC : List Value} (h : Yy w wx hC dC) (hb : Below wx.heap.size wx wy) : Yy w wy hC dC := ⟨h.b.trans (hb.mono h.b.size), block_stay h.z2 hb, block_stay h.z3 hb⟩
theorem Yy.set2 {w wx wy : World} {hC dC hD : List Value} (h : Yy w wx hC dC) (hg : wy.heap[w.heap.size]? = some (.cells hD.toArray 30 (0, 0))) (hb : wx.grownBy wy (some w.heap.size)) : Yy w wy hD dC :=
  ⟨grown_below (Nat.le_refl _) h.b hb, hg, (hb.block _ (Array.getElem?_eq_some_iff.1 h.z3).1 (fun e => by injection e with e; omega)).trans h.z3⟩
theorem Yy.set3 {w wx wy : World} {hC dC dD : List Value} (h : Yy w wx hC dC) (hg : wy.heap[w.heap.size + 1]? = some (.cells dD.toArray 35 (0, 0))) (hb : wx.grownBy wy (some (w.heap.size + 1))) : Yy w wy hC dD :=
  ⟨grown_below (Nat.le_succ _) h.b hb, (hb.block _ (Array.getElem?_eq_some_iff.1 h.z2).1 (fun e => by injection e with e; omega)).trans h.z2, hg⟩
theorem Yy.begin (w : World) : Yy w ((w.alloc (.cells zeroHd.toArray 30)).alloc (.cells zeroDy.toArray 35)) zeroHd zeroDy := by
  have hs1 : (w.alloc (.cells zeroHd.toArray 30)).heap.size = w.heap.size + 1 := by simp
  refine ⟨((Below.refl _ w).alloc (Nat.le_refl _) _).alloc (by simp) _, ?_, ?_⟩
  · rw [heap_alloc_old _ _ (by simp)]; exact heap_alloc_new _ _
  · rw [← hs1]; exact heap_alloc_new _ _
theorem store_new {zs cs : List Value} (h : cs.length = zs.length) : (zs.toArray.toList.take 0 ++ cs ++ zs.toArray.toList.drop (0 + cs.length)).toArray = cs.toArray := by
  have e : List.drop (0 + cs.length) zs.toArray.toList = [] := List.drop_eq_nil_of_le (by simp [h])
  rw [e, List.append_nil]; rfl
theorem OwnSy.grown {w w' : World} {B R : Nat} {v : Value} {l : List Sy} (h : OwnSy w B v l) (hb : w.grownBy w' (some R)) (hR : R < B) : OwnSy w' B v l := by
  unfold OwnSy at h ⊢
  refine ⟨h.1, ?_⟩
  rcases h.2 with hn | ⟨g, cap, cur, rfl, hB, hg, rest⟩
  · exact .inl hn
  · refine .inr ⟨g, cap, cur, rfl, hB, ?_, rest⟩
    rw [hb.block g (Array.getElem?_eq_some_iff.1 hg).1 (fun e => by injection e with e; omega)]; exact hg
theorem grown_stay {w w' : World} {R g : Nat} {o : Obj} (h : w.heap[g]? = some o) (hb : w.grownBy w' (some R)) (hn : g ≠ R) : w'.heap[g]? = some o :=
  (hb.block _ (Array.getElem?_eq_some_iff.1 h).1 (fun e => by injection e with e; exact hn e)).trans h
set_option maxHeartbeats 8000000 in
set_option maxRecDepth 20000 in
theorem law_read (w : World) (v : Value) (l : List UInt8) (h : Arg w v l) (hl : l.length ≤ 140737488351232) :
    Calls Try.prog 5 #[v] w fun e w' => ReadIs w' l e ∧ Below w.heap.size w w' := by
  have HZ := hide (Yy.begin w)
  have hP := ref8_Parse _ v l (h.below' HZ.out.b) hl
  have HPO := hide (fun hd => parse_ok (l := l) (h := hd))
  have HPE := hide (fun k => parse_err (l := l) (k := k))
  have HA := hide h
  have HLL := hide hl
  obtain ⟨a, cap, rfl, _, _, _⟩ := h.isSlice
  obtain ⟨O, hO⟩ : ∃ O, parseZ l = O := ⟨_, rfl⟩
  have HO := hide hO
  rw [hO] at hP HPO HPE
  obtain ⟨n, hn⟩ : ∃ n, l.length = n := ⟨_, rfl⟩
  have HN := hide hn
  rw [hn] at hP HA hl ⊢
  clear h hn hO
  go_enter Try.func5, Try.ntmps5
  go_wp2_with (first
    | ((with_reducible refine at_allocT (T := 30) ?_); refine alloc_opR rfl rfl _ _ (alloc_hd _) ?_)
    | ((with_reducible refine at_allocT (T := 35) ?_); refine alloc_opR rfl rfl _ _ (alloc_dy _) ?_))
  refine hP.mono ?_
  rintro e w1 ⟨hE, hb1⟩
  have HZ1 := hide (HZ.out.stay hb1)
  have HA1 := hide (HA.out.below' HZ1.out.b)
  have HC1 := hide (below1 w1 (.cells zeroHd.toArray 30))
  have HB1 : Hid ((w1.alloc (.cells zeroHd.toArray 30)).heap[w1.heap.size]? = some (.cells zeroHd.toArray 30 (0, 0))) := heap_alloc_new _ _
  clear hP hb1 HZ HA
  cases O with
  | error k =>
    have hE' : e = _ := hE
    subst hE'
    have hk : ((k : Int) != 0) = true := by
      have := HPE.out k rfl
      simp; omega
    clear hE HPE HPO
    go_wp2_with (first
      | ((with_reducible refine at_allocT (T := 30) ?_); refine alloc_opR rfl rfl _ _ (alloc_hd _) ?_)
      | ((with_reducible refine at_storeT (T := 30) ?_); refine store_part rfl _ _ _ rfl w1.heap.size 0 30 _ zeroHd zeroHd.toArray HB1.out rfl rfl hd_size (hd_one _ _ _ _ _ _) (by decide) (by rfl) ?_))
    intro w2 hg2 hb2
    have HZ2 := hide (HZ1.out.stay (grown_below (Nat.le_refl _) HC1.out hb2))
    have HG2 := hide hg2
    clear hg2 hb2 HC1 HB1 HZ1
    go_wp2_with (first
      | ((with_reducible refine at_load ?_); refine load_row rfl _ _ rfl w1.heap.size _ (load_hd HG2.out rfl) rfl ?_)
      | ((with_reducible refine at_buildY (T := 35) ?_); refine build_eq rfl _ _ rfl (.agg zeroDy.toArray) ?hr ?_; (simp only [List.map_toArray, List.map_nil]; exact build_dy0 _))
      | ((with_reducible refine at_storeT (T := 30) ?_); refine store_part rfl _ _ _ rfl w.heap.size 0 30 _ (zeroHd) (zeroHd).toArray HZ2.out.z2 rfl rfl hd_size (hd_one _ _ _ _ _ _) (Nat.le_refl 16) (by rfl) ?_))
    intro w3 hg3 hb3
    have HZ3 := hide (HZ2.out.set2 hg3 hb3)
    clear hg3 hb3
    go_wp2_with ((with_reducible refine at_storeT (T := 35) ?_); refine store_part rfl _ _ _ rfl (w.heap.size + 1) 0 35 _ zeroDy zeroDy.toArray HZ3.out.z3 rfl rfl dy_size zeroDy_one (Nat.le_refl 40) (by rfl) ?_)
    intro w4 hg4 hb4
    have HZ4 := hide (HZ3.out.set3 hg4 hb4)
    clear hg4 hb4
    go_wp2
    refine bodyPost_ret (results_cell22 rfl _ _ w.heap.size (w.heap.size + 1) _ _ _ _ _ _ _ _ rfl HZ4.out.z2 Try.underlying30 rfl (by kernel_rfl) rfl HZ4.out.z3 Try.underlying35 rfl (by kernel_rfl)) rfl ?_
    exact ⟨.inl ⟨_, _, rfl, rfl, hd_one _ _ _ _ _ _, zeroDy_one, rfl⟩, HZ4.out.b⟩
  | ok hd =>
    obtain ⟨_, hph, hlen⟩ := HPO.out hd rfl
    have HPH := hide hph
    obtain ⟨v1, rfl, hown⟩ := hE
    have hA1 := hown.arg (by omega)
    have HOH := hide (hown.low (C := w.heap.size + 2) (by simp))
    obtain ⟨a1, n1, c1, rfl⟩ : ∃ x n c, v1 = .slice x n c := by obtain ⟨x, c, e⟩ := hA1.form; exact ⟨_, _, _, e⟩
    have HLH := hide hA1
    have HLP : Hid (hd.loads.length ≤ 65536) := hA1.1
    clear HPO HPE hph hown hA1 hlen
    go_wp2_with (first
      | ((with_reducible refine at_allocT (T := 30) ?_); refine alloc_opR rfl rfl _ _ (alloc_hd _) ?_)
      | ((with_reducible refine at_storeT (T := 30) ?_); refine store_part rfl _ _ _ rfl w1.heap.size 0 30 _ (hdCells hd.machine (.slice a1 n1 c1) hd.dynamic hd.relro) (hdCells hd.machine (.slice a1 n1 c1) hd.dynamic hd.relro).toArray HB1.out rfl rfl hd_size (hd_one _ _ _ _ _ _) (Nat.le_refl 16) (by rfl) ?_))
    intro w2 hg2 hb2
    have HB12 : Hid (Below w1.heap.size w1 w2) := grown_below (Nat.le_refl _) HC1.out hb2
    have HZ2 := hide (HZ1.out.stay HB12.out)
    have HG2 := hide hg2
    have HA2 := hide (HA1.out.below' HB12.out)
    have HLH2 := hide (HLH.out.below HB12.out)
    have HOH2 := hide (HOH.out.stay HB12.out)
    have HL1 : Hid (w.heap.size + 1 < w1.heap.size) := (Array.getElem?_eq_some_iff.1 HZ1.out.z3).1
    clear hg2 hb2 HC1 HB1 HZ1 HA1 HLH HB12 HOH
    by_cases hbig : 262144 < n
    · have hbI : (262144 : Int) < (n : Int) := by omega
      go_wp2_with (first
        | ((with_reducible refine at_load ?_); refine load_row rfl _ _ rfl w1.heap.size _ (load_hd HG2.out rfl) rfl ?_)
        | ((with_reducible refine at_buildY (T := 35) ?_); refine build_eq rfl _ _ rfl (.agg zeroDy.toArray) ?hr ?_; (simp only [List.map_toArray, List.map_nil]; exact build_dy0 _))
        | ((with_reducible refine at_storeT (T := 30) ?_); refine store_part rfl _ _ _ rfl w.heap.size 0 30 _ (hdCells hd.machine (.slice a1 n1 c1) hd.dynamic hd.relro) (hdCells hd.machine (.slice a1 n1 c1) hd.dynamic hd.relro).toArray HZ2.out.z2 rfl rfl hd_size (hd_one _ _ _ _ _ _) (Nat.le_refl 16) (by rfl) ?_))
      intro w3 hg3 hb3
      have HZ3 := hide (HZ2.out.set2 hg3 hb3)
      clear hg3 hb3
      go_wp2_with ((with_reducible refine at_storeT (T := 35) ?_); refine store_part rfl _ _ _ rfl (w.heap.size + 1) 0 35 _ zeroDy zeroDy.toArray HZ3.out.z3 rfl rfl dy_size zeroDy_one (Nat.le_refl 40) (by rfl) ?_)
      intro w4 hg4 hb4
      have HZ4 := hide (HZ3.out.set3 hg4 hb4)
      clear hg4 hb4
      go_wp2
      refine bodyPost_ret (results_cell22 rfl _ _ w.heap.size (w.heap.size + 1) _ _ _ _ _ _ _ _ rfl HZ4.out.z2 Try.underlying30 rfl (by kernel_rfl) rfl HZ4.out.z3 Try.underlying35 rfl (by kernel_rfl)) rfl ?_
      exact ⟨.inl ⟨_, _, rfl, rfl, hd_one _ _ _ _ _ _, zeroDy_one, rfl⟩, HZ4.out.b⟩
    · have hbI : decide ((262144 : Int) < (n : Int)) = false := decide_eq_false (by omega)
      have HL2 : Hid (l.length ≤ 262144) := by rw [Hid, HN.out]; omega
      have hsm := parse_small HO.out HL2.out
      have HSM : Hid (∀ p ∈ hd.loads, p.off + p.filesz ≤ 1000000) := fun p hp => (hsm p hp).1
      have HSP : Hid (∀ p ∈ hd.loads, p.vaddr + p.memsz ≤ 1000000) := fun p hp => Nat.le_trans (hsm p hp).2 (by decide)
      have HLM : Hid (l.length ≤ 1000000) := Nat.le_trans HL2.out (by decide)
      have HDO := hide (parse_dyn HO.out)
      have kD := ref9_Parse w2 (.slice a n cap) l HA2.out HLM.out hd (.slice a1 n1 c1) HLH2.out HPH.out HSM.out HDO.out
      have HDE := hide (fun k => dyn_err (l := l) (h := hd) (n := k))
      have HDN := hide (fun D => dyn_ents (l := l) (h := hd) (D := D))
      obtain ⟨OD, hOD⟩ : ∃ o, dynZ l hd = o := ⟨_, rfl⟩
      have HOD := hide hOD
      rw [hOD] at kD HDE HDN
      clear hOD hsm hbig
      go_wp2_with ((with_reducible refine at_load ?_); refine load_row rfl _ _ rfl w1.heap.size _ (load_hd HG2.out rfl) rfl ?_)
      refine kD.mono ?_
      rintro e w3 ⟨hE, hb3⟩
      have HG3 := hide (block_stay HG2.out hb3)
      have HZ3 := hide (HZ2.out.stay hb3)
      have HA3 := hide (HA2.out.below' hb3)
      have HLH3 := hide (HLH2.out.below hb3)
      have HOH3 := hide (HOH2.out.stay hb3)
      have HB3 : Hid ((w3.alloc (.cells zeroDy.toArray 35)).heap[w3.heap.size]? = some (.cells zeroDy.toArray 35 (0, 0))) := heap_alloc_new _ _
      have HC3 := hide (below1 w3 (.cells zeroDy.toArray 35))
      have HL3 : Hid (w1.heap.size < w3.heap.size) := (Array.getElem?_eq_some_iff.1 HG3.out).1
      clear kD hb3 HG2 HZ2 HA2 HLH2 HOH2
      cases OD with
      | error k =>
        have hE' : e = _ := hE
        subst hE'
        have hk : ((k : Int) != 0) = true := by
          have := HDE.out k rfl
          simp; omega
        clear hE HDE HDN
        go_wp2_with (first
          | ((with_reducible refine at_allocT (T := 35) ?_); refine alloc_opR rfl rfl _ _ (alloc_dy _) ?_)
          | ((with_reducible refine at_storeT (T := 35) ?_); refine store_part rfl _ _ _ rfl w3.heap.size 0 35 _ zeroDy zeroDy.toArray HB3.out rfl rfl dy_size zeroDy_one (by decide) (by rfl) ?_))
        intro w4 hg4 hb4
        have HB34 := hide (grown_below (Nat.le_refl _) HC3.out hb4)
        have HZ4 := hide (HZ3.out.stay HB34.out)
        have HG4 := hide (block_stay HG3.out HB34.out)
        have HD4 := hide hg4
        clear hg4 hb4 HB3 HC3 HZ3 HG3
        go_upto_region 6 with fail
        refine wp_region_held_drew (S := fun W => W.heap[w1.heap.size]? = some (.cells (hdCells hd.machine (.slice a1 n1 c1) hd.dynamic hd.relro).toArray 30 (0, 0)) ∧ W.heap[w3.heap.size]? = some (.cells (zeroDy).toArray 35 (0, 0))) (by kernel_rfl) ⟨HG4.out, HD4.out⟩ (fun hHeld => ?_)
        refine wpAnyH_take (i := 0) (oi := { dst := some 32, op := .load 30 (.tmp 6), type := _, pos := _, after := _, guard := none }) (v := .agg (hdCells hd.machine (.slice a1 n1 c1) hd.dynamic hd.relro).toArray) rfl (by kernel_rfl) (by kernel_rfl) (by kernel_rfl) (fun _ _ _ h => h) (yields_load 30 _ rfl w1.heap.size rfl _ (fun W hW => load_hd hW.1 rfl) rfl) hHeld ?_
        try simp only [Act.put]
        try simp only [List.setIfInBounds_toArray]
        refine wpAnyH_take (i := 1) (oi := { dst := some 33, op := .load 35 (.tmp 8), type := _, pos := _, after := _, guard := none }) (v := .agg (zeroDy).toArray) rfl (by kernel_rfl) (by kernel_rfl) (by kernel_rfl) (fun _ _ _ h => h) (yields_load 35 _ rfl (w3.heap.size) rfl _ (fun W hW => load_dy hW.2 rfl) rfl) hHeld ?_
        try simp only [Act.put]
        try simp only [List.setIfInBounds_toArray]
        have HY1 := hide (HZ4.out.stay (Below.refl _ _).drew)
        refine wpAnyH_ready (rs := [2]) (by kernel_rfl) (by simp) ?_
        refine AllReadyH.cons rfl (fun K hK => ?_) AllReadyH.nil
        rw [if_pos (by rfl)]
        refine store_o 30 _ _ rfl w.heap.size 0 30 zeroHd.toArray _ (hdCells hd.machine (.slice a1 n1 c1) hd.dynamic hd.relro) (hdCells hd.machine (.slice a1 n1 c1) hd.dynamic hd.relro).toArray HY1.out.z2 rfl rfl rfl hd_size (hd_one _ _ _ _ _ _) (Nat.le_refl 16) (by rfl) ?_
        intro w5 hg5 hb5
        have HY2 := hide (HY1.out.set2 hg5 hb5)
        have hS5 := And.intro (grown_stay hHeld.1 hb5 (by have := HL1.out; omega)) (grown_stay hHeld.2 hb5 (by have := HL1.out; have := HL3.out; omega))
        refine hK.out _ _ hS5 (fun _ => ?_)
        clear hg5 hb5 HY1 hK K
        refine wpAnyH_ready (rs := [3]) (by kernel_rfl) (by simp) ?_
        refine AllReadyH.cons rfl (fun K hK => ?_) AllReadyH.nil
        rw [if_pos (by rfl)]
        refine store_o 35 _ _ rfl (w.heap.size + 1) 0 35 zeroDy.toArray _ (zeroDy) (zeroDy).toArray HY2.out.z3 rfl rfl rfl dy_size zeroDy_one (Nat.le_refl 40) (by rfl) ?_
        intro w6 hg6 hb6
        have HY3 := hide (HY2.out.set3 hg6 hb6)
        have hS6 := And.intro (grown_stay hS5.1 hb6 (by have := HL1.out; omega)) (grown_stay hS5.2 hb6 (by have := HL1.out; have := HL3.out; omega))
        refine hK.out _ _ hS6 (fun _ => ?_)
        clear hg6 hK K
        refine wpAnyH_take (i := 4) (oi := { dst := some 4, op := .assign (.const (.slice none 0 0)), type := _, pos := _, after := _, guard := none }) (v := .slice none 0 0) rfl (by kernel_rfl) (by kernel_rfl) (by kernel_rfl) (fun _ _ _ h => h) (.inl ⟨by rfl, fun _ _ => by rfl⟩) hS6 ?_
        try simp only [Act.put]
        try simp only [List.setIfInBounds_toArray]
        refine wpAnyH_take (i := 5) (oi := { dst := some 5, op := .assign (.const (.bool false)), type := _, pos := _, after := _, guard := none }) (v := .bool false) rfl (by kernel_rfl) (by kernel_rfl) (by kernel_rfl) (fun _ _ _ h => h) (.inl ⟨by rfl, fun _ _ => by rfl⟩) hS6 ?_
        try simp only [Act.put]
        try simp only [List.setIfInBounds_toArray]
        refine wpAnyH_done (by kernel_rfl) ?_ _
        go_wp2
        refine bodyPost_ret (results_cell22 rfl _ _ w.heap.size (w.heap.size + 1) _ _ _ _ _ _ _ _ rfl HY3.out.z2 Try.underlying30 rfl (by kernel_rfl) rfl HY3.out.z3 Try.underlying35 rfl (by kernel_rfl)) rfl ?_
        exact ⟨.inl ⟨_, _, rfl, rfl, hd_one _ _ _ _ _ _, zeroDy_one, rfl⟩, HY3.out.b⟩
      | ok D =>
        obtain ⟨vn, rfl, hT⟩ := hE
        obtain ⟨na, nn, nc, rfl⟩ : ∃ x n c, vn = .slice x n c := by obtain ⟨x, c, e⟩ := hT.form; exact ⟨_, _, _, e⟩
        have HEO := hide (HDN.out D rfl)
        have HV := hide (fun t => val_le HEO.out t)
        obtain ⟨DC, hDC⟩ : ∃ DC, dyCells D.so D.ru (.slice na nn nc) D.ents = DC := ⟨_, rfl⟩
        have HD40 : Hid (DC.length = 40) := by rw [Hid, ← hDC]; exact dy_len _ _ _ _
        have HD1 : Hid (∀ u ∈ DC, u.oneCell' = true) := by rw [Hid, ← hDC]; exact dy_one _ _ _ _ _ _
        have h7 : DC[7]? = some (.int .u64 (valT D.ents 5 : Nat)) := by rw [← hDC]; rfl
        have h8 : DC[8]? = some (.int .u64 (valT D.ents 10 : Nat)) := by rw [← hDC]; rfl
        have h9 : DC[9]? = some (.int .u64 (valT D.ents 6 : Nat)) := by rw [← hDC]; rfl
        have h10 : DC[10]? = some (.int .u64 (valT D.ents 4 : Nat)) := by rw [← hDC]; rfl
        have h11 : DC[11]? = some (.int .u64 (valT D.ents 1879047925 : Nat)) := by rw [← hDC]; rfl
        have HSZ : Hid (∀ w, (Go.sizeOf 35).run Try.prog w = .ok DC.length w) := by rw [Hid, HD40.out]; exact dy_size
        have HNW : Hid ((zeroDy.toArray.toList.take 0 ++ DC ++ zeroDy.toArray.toList.drop (0 + DC.length)).toArray = DC.toArray) := store_new (by rw [HD40.out]; rfl)
        have HS40 : Hid (DC.toArray.size = 40) := by rw [Hid, List.size_toArray]; exact HD40.out
        have HLK : Hid (∀ X, Below w3.heap.size w3 X → Lk X ⟨a, n, cap, l, hd.machine, a1, n1, c1, hd.dynamic, hd.relro, hd.loads, DC, valT D.ents 5, valT D.ents 10, valT D.ents 6, valT D.ents 4, valT D.ents 1879047925⟩) := fun X hX =>
          ⟨HA3.out.below' hX, HLH3.out.below hX, HPH.out, HSM.out, HSP.out, HD40.out, HD1.out, h7, h8, h9, h10, h11, by have := HV.out 5; simp only; omega, by have := HV.out 10; simp only; omega, by have := HV.out 6; simp only; omega, by have := HV.out 4; simp only; omega, by have := HV.out 1879047925; simp only; omega, HLM.out⟩
        have HDC := hide hDC
        rw [hDC]
        clear hT HDE HDN HEO h7 h8 h9 h10 h11 hDC HPH HSM HSP HDO HV
        go_wp2_with (first
          | ((with_reducible refine at_allocT (T := 35) ?_); refine alloc_opR rfl rfl _ _ (alloc_dy _) ?_)
          | ((with_reducible refine at_storeT (T := 35) ?_); refine store_part rfl _ _ _ rfl w3.heap.size 0 35 _ DC DC.toArray HB3.out rfl rfl HSZ.out HD1.out (by rw [HD40.out]; decide) HNW.out ?_))
        intro w4 hg4 hb4
        have HB34 := hide (grown_below (Nat.le_refl _) HC3.out hb4)
        have HZ4 := hide (HZ3.out.stay HB34.out)
        have HG4 := hide (block_stay HG3.out HB34.out)
        have HD4 := hide hg4
        have HOH4 := hide (HOH3.out.stay HB34.out)
        have kP := rf_Parse10 w4 _ (HLK.out w4 HB34.out)
        unfold Lp.hC at kP
        simp only at kP
        clear hg4 hb4 HB3 HC3 HZ3 HG3 HLK HLH3 HA3 HOH3
        go_wp2_with (first
          | ((with_reducible refine at_load ?_); refine load_row rfl _ _ rfl w1.heap.size _ (load_hd HG4.out rfl) rfl ?_)
          | ((with_reducible refine at_loadD ?_); refine load_row rfl _ _ rfl w3.heap.size _ (load_dy HD4.out HS40.out) rfl ?_))
        refine kP.mono ?_
        rintro e w5 ⟨hE, hb5⟩
        have HZ5 := hide (HZ4.out.stay hb5)
        have HG5 := hide (block_stay HG4.out hb5)
        have HD5 := hide (block_stay HD4.out hb5)
        have HOH5 := hide (HOH4.out.stay hb5)
        have HWS : Hid (w.heap.size + 2 ≤ w4.heap.size) := by have := (Array.getElem?_eq_some_iff.1 HZ4.out.z3).1; unfold Hid; omega
        clear kP hb5 HZ4 HG4 HD4 HOH4 HB34
        rcases hE with ⟨k, hk0, hk1, rfl⟩ | ⟨vs, S, rfl, hS, hne, hSn, hbare⟩
        · have hkb : ((k : Int) == 0) = false := by simp; omega
          go_upto_region 8 with fail
          refine wp_region_held_drew (S := fun W => W.heap[w1.heap.size]? = some (.cells (hdCells hd.machine (.slice a1 n1 c1) hd.dynamic hd.relro).toArray 30 (0, 0)) ∧ W.heap[w3.heap.size]? = some (.cells (DC).toArray 35 (0, 0))) (by kernel_rfl) ⟨HG5.out, HD5.out⟩ (fun hHeld => ?_)
          refine wpAnyH_take (i := 0) (oi := { dst := some 41, op := .load 30 (.tmp 6), type := _, pos := _, after := _, guard := none }) (v := .agg (hdCells hd.machine (.slice a1 n1 c1) hd.dynamic hd.relro).toArray) rfl (by kernel_rfl) (by kernel_rfl) (by kernel_rfl) (fun _ _ _ h => h) (yields_load 30 _ rfl w1.heap.size rfl _ (fun W hW => load_hd hW.1 rfl) rfl) hHeld ?_
          try simp only [Act.put]
          try simp only [List.setIfInBounds_toArray]
          refine wpAnyH_take (i := 1) (oi := { dst := some 42, op := .load 35 (.tmp 8), type := _, pos := _, after := _, guard := none }) (v := .agg (DC).toArray) rfl (by kernel_rfl) (by kernel_rfl) (by kernel_rfl) (fun _ _ _ h => h) (yields_load 35 _ rfl (w3.heap.size) rfl _ (fun W hW => load_dy hW.2 HS40.out) rfl) hHeld ?_
          try simp only [Act.put]
          try simp only [List.setIfInBounds_toArray]
          refine wpAnyH_take (i := 2) (oi := { dst := some 43, op := .move (.tmp 9), type := _, pos := _, after := _, guard := none }) (v := (.slice none 0 0)) rfl (by kernel_rfl) (by kernel_rfl) (by kernel_rfl) (fun _ _ _ h => h) (.inl ⟨by rfl, fun _ _ => by go_simp⟩) hHeld ?_
          try simp only [Act.put]
          try simp only [List.setIfInBounds_toArray]
          refine wpAnyH_take (i := 3) (oi := { dst := some 44, op := .move (.tmp 7), type := _, pos := _, after := _, guard := none }) (v := .int .i64 (k : Nat)) rfl (by kernel_rfl) (by kernel_rfl) (by kernel_rfl) (fun _ _ _ h => h) (.inl ⟨by rfl, fun _ _ => by go_simp⟩) hHeld ?_
          try simp only [Act.put]
          try simp only [List.setIfInBounds_toArray]
          refine wpAnyH_take (i := 4) (oi := { dst := some 45, op := .binOp .eql 3 (.tmp 44) (.const (.int .i64 0)) 3, type := _, pos := _, after := _, guard := none }) (v := .bool false) rfl (by kernel_rfl) (by kernel_rfl) (by kernel_rfl) (fun _ _ _ h => h) (.inl ⟨by rfl, fun _ _ => by go_simp⟩) hHeld ?_
          try simp only [Act.put]
          try simp only [List.setIfInBounds_toArray]
          have HY1 := hide (HZ5.out.stay (Below.refl _ _).drew)
          refine wpAnyH_ready (rs := [5]) (by kernel_rfl) (by simp) ?_
          refine AllReadyH.cons rfl (fun K hK => ?_) AllReadyH.nil
          rw [if_pos (by rfl)]
          refine store_o 30 _ _ rfl w.heap.size 0 30 zeroHd.toArray _ (hdCells hd.machine (.slice a1 n1 c1) hd.dynamic hd.relro) (hdCells hd.machine (.slice a1 n1 c1) hd.dynamic hd.relro).toArray HY1.out.z2 rfl rfl rfl hd_size (hd_one _ _ _ _ _ _) (Nat.le_refl 16) (by rfl) ?_
          intro w7 hg7 hb7
          have HY2 := hide (HY1.out.set2 hg7 hb7)
          have hS5 := And.intro (grown_stay hHeld.1 hb7 (by have := HL1.out; omega)) (grown_stay hHeld.2 hb7 (by have := HL1.out; have := HL3.out; omega))
          refine hK.out _ _ hS5 (fun _ => ?_)
          clear hg7 hb7 HY1 hK K
          refine wpAnyH_ready (rs := [6]) (by kernel_rfl) (by simp) ?_
          refine AllReadyH.cons rfl (fun K hK => ?_) AllReadyH.nil
          rw [if_pos (by rfl)]
          refine store_o 35 _ _ rfl (w.heap.size + 1) 0 35 zeroDy.toArray _ (DC) (DC).toArray HY2.out.z3 rfl rfl rfl HSZ.out HD1.out (by rw [HD40.out]; exact Nat.le_refl 40) HNW.out ?_
          intro w6 hg6 hb6
          have HY3 := hide (HY2.out.set3 hg6 hb6)
          have hS6 := And.intro (grown_stay hS5.1 hb6 (by have := HL1.out; omega)) (grown_stay hS5.2 hb6 (by have := HL1.out; have := HL3.out; omega))
          refine hK.out _ _ hS6 (fun _ => ?_)
          clear hg6 hK K
          refine wpAnyH_take (i := 7) (oi := { dst := some 4, op := .assign (.tmp 43), type := _, pos := _, after := _, guard := none }) (v := (.slice none 0 0)) rfl (by kernel_rfl) (by kernel_rfl) (by kernel_rfl) (fun _ _ _ h => h) (.inl ⟨by rfl, fun _ _ => by rfl⟩) hS6 ?_
          try simp only [Act.put]
          try simp only [List.setIfInBounds_toArray]
          refine wpAnyH_take (i := 8) (oi := { dst := some 5, op := .assign (.tmp 45), type := _, pos := _, after := _, guard := none }) (v := .bool false) rfl (by kernel_rfl) (by kernel_rfl) (by kernel_rfl) (fun _ _ _ h => h) (.inl ⟨by rfl, fun _ _ => by rfl⟩) hS6 ?_
          try simp only [Act.put]
          try simp only [List.setIfInBounds_toArray]
          refine wpAnyH_done (by kernel_rfl) ?_ _
          go_wp2
          refine bodyPost_ret (results_cell22 rfl _ _ w.heap.size (w.heap.size + 1) _ _ _ _ _ _ _ _ rfl HY3.out.z2 Try.underlying30 rfl (by kernel_rfl) rfl HY3.out.z3 Try.underlying35 rfl (by rw [HS40.out]; kernel_rfl)) rfl ?_
          exact ⟨.inl ⟨_, _, rfl, HD40.out, hd_one _ _ _ _ _ _, HD1.out, rfl⟩, HY3.out.b⟩
        · have HS5 := hide (hS.low HWS.out)
          clear hS
          go_upto_region 8 with fail
          refine wp_region_held_drew (S := fun W => W.heap[w1.heap.size]? = some (.cells (hdCells hd.machine (.slice a1 n1 c1) hd.dynamic hd.relro).toArray 30 (0, 0)) ∧ W.heap[w3.heap.size]? = some (.cells (DC).toArray 35 (0, 0))) (by kernel_rfl) ⟨HG5.out, HD5.out⟩ (fun hHeld => ?_)
          refine wpAnyH_take (i := 0) (oi := { dst := some 41, op := .load 30 (.tmp 6), type := _, pos := _, after := _, guard := none }) (v := .agg (hdCells hd.machine (.slice a1 n1 c1) hd.dynamic hd.relro).toArray) rfl (by kernel_rfl) (by kernel_rfl) (by kernel_rfl) (fun _ _ _ h => h) (yields_load 30 _ rfl w1.heap.size rfl _ (fun W hW => load_hd hW.1 rfl) rfl) hHeld ?_
          try simp only [Act.put]
          try simp only [List.setIfInBounds_toArray]
          refine wpAnyH_take (i := 1) (oi := { dst := some 42, op := .load 35 (.tmp 8), type := _, pos := _, after := _, guard := none }) (v := .agg (DC).toArray) rfl (by kernel_rfl) (by kernel_rfl) (by kernel_rfl) (fun _ _ _ h => h) (yields_load 35 _ rfl (w3.heap.size) rfl _ (fun W hW => load_dy hW.2 HS40.out) rfl) hHeld ?_
          try simp only [Act.put]
          try simp only [List.setIfInBounds_toArray]
          refine wpAnyH_take (i := 2) (oi := { dst := some 43, op := .move (.tmp 9), type := _, pos := _, after := _, guard := none }) (v := vs) rfl (by kernel_rfl) (by kernel_rfl) (by kernel_rfl) (fun _ _ _ h => h) (.inl ⟨by rfl, fun _ _ => by go_simp⟩) hHeld ?_
          try simp only [Act.put]
          try simp only [List.setIfInBounds_toArray]
          refine wpAnyH_take (i := 3) (oi := { dst := some 44, op := .move (.tmp 7), type := _, pos := _, after := _, guard := none }) (v := .int .i64 0) rfl (by kernel_rfl) (by kernel_rfl) (by kernel_rfl) (fun _ _ _ h => h) (.inl ⟨by rfl, fun _ _ => by go_simp⟩) hHeld ?_
          try simp only [Act.put]
          try simp only [List.setIfInBounds_toArray]
          refine wpAnyH_take (i := 4) (oi := { dst := some 45, op := .binOp .eql 3 (.tmp 44) (.const (.int .i64 0)) 3, type := _, pos := _, after := _, guard := none }) (v := .bool true) rfl (by kernel_rfl) (by kernel_rfl) (by kernel_rfl) (fun _ _ _ h => h) (.inl ⟨by rfl, fun _ _ => by go_simp⟩) hHeld ?_
          try simp only [Act.put]
          try simp only [List.setIfInBounds_toArray]
          have HY1 := hide (HZ5.out.stay (Below.refl _ _).drew)
          refine wpAnyH_ready (rs := [5]) (by kernel_rfl) (by simp) ?_
          refine AllReadyH.cons rfl (fun K hK => ?_) AllReadyH.nil
          rw [if_pos (by rfl)]
          refine store_o 30 _ _ rfl w.heap.size 0 30 zeroHd.toArray _ (hdCells hd.machine (.slice a1 n1 c1) hd.dynamic hd.relro) (hdCells hd.machine (.slice a1 n1 c1) hd.dynamic hd.relro).toArray HY1.out.z2 rfl rfl rfl hd_size (hd_one _ _ _ _ _ _) (Nat.le_refl 16) (by rfl) ?_
          intro w7 hg7 hb7
          have HY2 := hide (HY1.out.set2 hg7 hb7)
          have hS5 := And.intro (grown_stay hHeld.1 hb7 (by have := HL1.out; omega)) (grown_stay hHeld.2 hb7 (by have := HL1.out; have := HL3.out; omega))
          have HO1 := hide ((HOH5.out.stay (Below.refl _ _).drew).grown hb7 (by omega))
          have HQ1 := hide ((HS5.out.stay (Below.refl _ _).drew).grown hb7 (by omega))
          refine hK.out _ _ hS5 (fun _ => ?_)
          clear hg7 hb7 HY1 hK K
          refine wpAnyH_ready (rs := [6]) (by kernel_rfl) (by simp) ?_
          refine AllReadyH.cons rfl (fun K hK => ?_) AllReadyH.nil
          rw [if_pos (by rfl)]
          refine store_o 35 _ _ rfl (w.heap.size + 1) 0 35 zeroDy.toArray _ (DC) (DC).toArray HY2.out.z3 rfl rfl rfl HSZ.out HD1.out (by rw [HD40.out]; exact Nat.le_refl 40) HNW.out ?_
          intro w6 hg6 hb6
          have HY3 := hide (HY2.out.set3 hg6 hb6)
          have hS6 := And.intro (grown_stay hS5.1 hb6 (by have := HL1.out; omega)) (grown_stay hS5.2 hb6 (by have := HL1.out; have := HL3.out; omega))
          have HO2 := hide (HO1.out.grown hb6 (by omega))
          have HQ2 := hide (HQ1.out.grown hb6 (by omega))
          refine hK.out _ _ hS6 (fun _ => ?_)
          clear hg6 hK K
          refine wpAnyH_take (i := 7) (oi := { dst := some 4, op := .assign (.tmp 43), type := _, pos := _, after := _, guard := none }) (v := vs) rfl (by kernel_rfl) (by kernel_rfl) (by kernel_rfl) (fun _ _ _ h => h) (.inl ⟨by rfl, fun _ _ => by rfl⟩) hS6 ?_
          try simp only [Act.put]
          try simp only [List.setIfInBounds_toArray]
          refine wpAnyH_take (i := 8) (oi := { dst := some 5, op := .assign (.tmp 45), type := _, pos := _, after := _, guard := none }) (v := .bool true) rfl (by kernel_rfl) (by kernel_rfl) (by kernel_rfl) (fun _ _ _ h => h) (.inl ⟨by rfl, fun _ _ => by rfl⟩) hS6 ?_
          try simp only [Act.put]
          try simp only [List.setIfInBounds_toArray]
          refine wpAnyH_done (by kernel_rfl) ?_ _
          go_wp2
          refine bodyPost_ret (results_cell22 rfl _ _ w.heap.size (w.heap.size + 1) _ _ _ _ _ _ _ _ rfl HY3.out.z2 Try.underlying30 rfl (by kernel_rfl) rfl HY3.out.z3 Try.underlying35 rfl (by rw [HS40.out]; kernel_rfl)) rfl ?_
          exact ⟨.inr ⟨hd, D, a1, n1, c1, na, nn, nc, vs, S, HL2.out, HO.out, HOD.out, HO2.out.arg HLP.out, HQ2.out.arg (Nat.le_trans hSn (by decide)), hne, hSn, hbare, by rw [HDC.out]; rfl⟩, HY3.out.b⟩
end Go.Proofs.Ytdclofiifcpkkaa
namespace Go.Proofs.Ytdclofiifcpkkaa
open Go.RowKit Go.PlainAid Go.Sort
theorem putL_get (f : Nat → Sy → Option Sy) : ∀ (S : List Sy) (j : Nat) (D : List Sy), putL f j S = some D → D.length = S.length ∧ ∀ k (h : k < S.length) (h' : k < D.length), f (j + k) S[k] = some D[k]
  | [], j, D, e => by
    unfold putL at e
    injection e with e; subst e
    exact ⟨rfl, fun k h => by simp at h⟩
  | s :: S, j, D, e => by
    unfold putL at e
    cases h1 : f j s with
    | none => rw [h1] at e; simp at e
    | some t =>
      cases h2 : putL f (j + 1) S with
      | none => rw [h1, h2] at e; simp at e
      | some T =>
        rw [h1, h2] at e
        simp at e
        subst e
        obtain ⟨a, b⟩ := putL_get f S (j + 1) T h2
        refine ⟨by simp [a], fun k h h' => ?_⟩
        cases k with
        | zero => simpa using h1
        | succ k => simpa [Nat.add_assoc, Nat.add_comm 1 k] using b k (by simpa using h) (by simpa using h')
/-- What becomes of a symbol. -/
def FromS (vs : List Vv) (x : List UInt8) (k : Nat) (s t : Sy) : Prop := t = s ∨ withV vs s (rd x (2 * k) 2) = some t
theorem vput_get {l : List UInt8} {ps : List Ph} {S : List UInt8} {sb : Bool} {q : Vq} {sym : Nat} {L D : List Sy} (e : vputZ l ps S sb q sym L = some D) :
    D.length = L.length ∧ ∃ vs x, ∀ k (h : k < L.length) (h' : k < D.length), FromS vs x k L[k] D[k] := by
  unfold vputZ at e
  cases hv : verZ l ps S sb q with
  | none => rw [hv] at e; cases e
  | some vs =>
    rw [hv] at e
    simp only at e
    split at e
    · injection e with e; subst e
      exact ⟨rfl, vs, [], fun k h h' => .inl rfl⟩
    · split at e
      · cases e
      · obtain ⟨a, b⟩ := putL_get _ _ _ _ e
        refine ⟨a, vs, rc l ps sym (2 * L.length), fun k h h' => ?_⟩
        have := b k h h'
        rw [Nat.zero_add] at this
        unfold pv at this
        split at this
        · injection this with this; exact .inl this.symm
        · exact .inr this
theorem ownsy_empty (w : World) : OwnSy (w.alloc (.cells #[] 48)) w.heap.size (.slice (some ⟨w.heap.size, 0, none⟩) 0 0) [] :=
  World.ownsRow_made w #[] 0 (Nat.le_refl _) (by simp) (by simp)
end Go.Proofs.Ytdclofiifcpkkaa
