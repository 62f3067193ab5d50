
/-
  Layer 6's reference: a node's error behind those ahead.
-/
import Derived.Test.YthkpcafbfgfjpaaDoorFsZb
set_option linter.unusedVariables false
namespace Go.Proofs.YthkpcafbfgfjpaaDoor
open Go.RowKit Go.PlainAid
theorem NdsAt.stay {w w' : World} {a : Option Addr} {L : List Nd} (h : NdsAt w a L) (hb : Below w.heap.size w w') : NdsAt w' a L := by
  rcases h.at_ with e | ⟨y, o, e, hI⟩
  · exact ⟨.inl e⟩
  · exact ⟨.inr ⟨y, o, e, fun i hi => (hI i hi).stay hb⟩⟩
/-- The error of a node behind those of these paths. -/
def oneR (ps : List (List UInt8)) (p : List UInt8) (k : Int) (dn : Nat) (tt : ByteArray) : Int := if chkE p k dn tt ≠ 0 then chkE p k dn tt else if isIn ps p then 61 else 0
theorem oneR_is (ps : List (List UInt8)) (n : Nd) : oneR ps n.path.data.toList n.kind n.data.length n.to = addP ps n := rfl
theorem joinE_none : joinE [47] [] = 0 := by decide
theorem joinE_two (d n : List UInt8) : joinE d n = 0 ∨ joinE d n = 40 := by
  unfold joinE clE
  repeat' split
  all_goals simp
theorem refFind_pos {L : List Nd} {p : List UInt8} (hp : p ≠ [47]) : decide (0 < refFind L p) = isIn ([47] :: pathsOf L) p := by
  have hps : pathsOf (rootN :: L) = [47] :: pathsOf L := rfl
  have h := refFind_is L p
  rw [hps] at h
  rw [h]
  have e : ([47] :: pathsOf L).idxOf? p = ((pathsOf L).idxOf? p).map (· + 1) := by simp [List.idxOf?_cons, Ne.symm hp]
  unfold isIn numOf
  rw [e]
  cases (pathsOf L).idxOf? p with
  | none => simp
  | some j => simp
set_option maxHeartbeats 4000000 in
theorem ref6_one (w : World) (p tt : ByteArray) (k : Int) (da : Option Addr) (dn dc : Nat) (hd : dn ≤ 9223372036854775807) (hp : p.size ≤ 4096) (ht : tt.size ≤ 4096)
    (a : Option Addr) (cap : Nat) (L : List Nd) (hlc : L.length ≤ cap) (hcm : cap ≤ maxLen) (hl : L.length ≤ 400) (h : NdsAt w a L) :
    Calls Tryd.prog 20 #[.agg #[.string p, .int .i64 k, .slice da dn dc, .string tt], .slice a L.length cap] w fun e w' => e = .returned (.int .i64 (oneR ([47] :: pathsOf L) p.data.toList k dn tt)) ∧ Below w.heap.size w w' := by
  have HB : Hid (Below w.heap.size w (w.alloc (.cells #[.string p, .int .i64 k, .slice da dn dc, .string tt] 40))) := below_box _ _
  have hI := ref6_clean p (w.alloc (.cells #[.string p, .int .i64 k, .slice da dn dc, .string tt] 40)) (by omega)
  have HE : Hid (chkE p.data.toList k dn tt = if isCl p.data.toList = false ∨ p.data.toList = [47] then 40 else if fitsB k dn tt = false then 60 else if 262144 < dn then 67 else joinE [47] tt.data.toList) := rfl
  have HF : Hid (fitsB k dn tt = if k = 1 then dn == 0 && tt.toList.isEmpty else if k = 2 then tt.toList.isEmpty else if k = 3 then dn == 0 && !tt.toList.isEmpty else false) := rfl
  have x0 : (w.alloc (.cells #[.string p, .int .i64 k, .slice da dn dc, .string tt] 40)).cell? ⟨w.heap.size, 0, none⟩ = some (.string p) := by simp
  have x1 : (w.alloc (.cells #[.string p, .int .i64 k, .slice da dn dc, .string tt] 40)).cell? ⟨w.heap.size, 1, none⟩ = some (.int .i64 k) := by simp
  have x2 : (w.alloc (.cells #[.string p, .int .i64 k, .slice da dn dc, .string tt] 40)).cell? ⟨w.heap.size, 2, none⟩ = some (.slice da dn dc) := by simp
  have x3 : (w.alloc (.cells #[.string p, .int .i64 k, .slice da dn dc, .string tt] 40)).cell? ⟨w.heap.size, 3, none⟩ = some (.string tt) := by simp
  have HX : Hid (w.heap.size < (w.alloc (.cells #[.string p, .int .i64 k, .slice da dn dc, .string tt] 40)).heap.size) := by unfold Hid; simp
  have HN : Hid (NdsAt (w.alloc (.cells #[.string p, .int .i64 k, .slice da dn dc, .string tt] 40)) a L) := h.stay HB.out
  have HC : Hid (cap ≤ maxLen) := hcm
  clear h hcm
  have HQ : Hid (oneR ([47] :: pathsOf L) p.data.toList k dn tt = if chkE p.data.toList k dn tt ≠ 0 then chkE p.data.toList k dn tt else if isIn ([47] :: pathsOf L) p.data.toList then 61 else 0) := rfl
  generalize oneR ([47] :: pathsOf L) p.data.toList k dn tt = Q at *
  generalize chkE p.data.toList k dn tt = R at *
  go_enter Tryd.func20, Tryd.ntmps20
  go_wp2_with fail
  generalize w.alloc (.cells #[.string p, .int .i64 k, .slice da dn dc, .string tt] 40) = w0 at *
  refine hI.mono ?_
  rintro e w1 ⟨rfl, hb1⟩
  have y0 : w1.cell? ⟨w.heap.size, 0, none⟩ = some (.string p) := by rw [World.cell?_of_block (a := ⟨w.heap.size, 0, none⟩) (hb1.block _ HX.out)]; exact x0
  have y1 : w1.cell? ⟨w.heap.size, 1, none⟩ = some (.int .i64 k) := by rw [World.cell?_of_block (a := ⟨w.heap.size, 1, none⟩) (hb1.block _ HX.out)]; exact x1
  have y2 : w1.cell? ⟨w.heap.size, 2, none⟩ = some (.slice da dn dc) := by rw [World.cell?_of_block (a := ⟨w.heap.size, 2, none⟩) (hb1.block _ HX.out)]; exact x2
  have y3 : w1.cell? ⟨w.heap.size, 3, none⟩ = some (.string tt) := by rw [World.cell?_of_block (a := ⟨w.heap.size, 3, none⟩) (hb1.block _ HX.out)]; exact x3
  have HB1 : Hid (Below w.heap.size w w1) := HB.out.trans (hb1.mono HB.out.size)
  have HN1 : Hid (NdsAt w1 a L) := HN.out.stay hb1
  have HX1 : Hid (w.heap.size < w1.heap.size) := Nat.lt_of_lt_of_le HX.out hb1.size
  clear hI hb1 x0 x1 x2 x3 HB HN HX
  by_cases hcr : isCl p.data.toList = false ∨ p.data.toList = [47]
  · rw [if_pos hcr] at HE
    have hb : (isCl p.data.toList && !decide (p.data.toList = [47])) = false := by
      rcases hcr with e | e
      · rw [e]; rfl
      · rw [decide_eq_true e]; simp
    rw [hb]
    clear hb hcr
    have HQ2 : Hid (Q = 40) := by rw [Hid, HQ.out, HE.out]; rfl
    clear HQ
    go_wp2
    go_ret
    exact ⟨by rw [HQ2.out]; rfl, HB1.out⟩
  rw [if_neg hcr] at HE
  have hb : (isCl p.data.toList && !decide (p.data.toList = [47])) = true := by
    rw [not_or] at hcr
    rw [decide_eq_false hcr.2]
    simpa using hcr.1
  rw [hb]
  have HP := hide (refFind_pos (L := L) (fun e => hcr (.inr e)))
  clear hb hcr
  have hF := fun w' (hn : NdsAt w' a L) => ref6_Find w' a cap L hlc HC.out hl hn p
  generalize refFind L p.data.toList = F at *
  generalize isIn ([47] :: pathsOf L) p.data.toList = I at *
  have HZ : Hid (tt.toList.isEmpty = true → joinE [47] tt.data.toList = 0) := by
    intro e
    rw [tl, List.isEmpty_iff] at e
    rw [e]; exact joinE_none
  have hJ := fun w => ref_Join ⟨#[47]⟩ tt w (by show (1 : Nat) ≤ 40000; omega) (by omega)
  rw [show (⟨#[47]⟩ : ByteArray).data.toList = [47] from rfl] at hJ
  have HJ2 := hide (joinE_two [47] tt.data.toList)
  generalize joinE [47] tt.data.toList = E at *
  generalize tx (joinT [47] tt.data.toList) = T at *
  have HJ := hide hJ
  have HFF := hide hF
  clear hJ hF
  generalize fitsB k dn tt = FB at *
  have hk : k = 1 ∨ k = 2 ∨ k = 3 ∨ (k ≠ 1 ∧ k ≠ 2 ∧ k ≠ 3) := by omega
  have HBq : Hid (∀ n, Below w.heap.size w (w1.drewN n)) := fun n => HB1.out.trans ((below_drewN w1 n).mono HB1.out.size)
  have HNq : Hid (∀ n, NdsAt (w1.drewN n) a L) := fun n => HN1.out.stay (below_drewN w1 n)
  rcases hk with rfl | rfl | rfl | ⟨n1, n2, n3⟩
  · rw [if_pos rfl] at HF
    by_cases hfb : FB = false
    · rw [if_pos hfb] at HE
      have HQ2 : Hid (Q = 60) := by rw [Hid, HQ.out, HE.out]; rfl
      rw [hfb] at HF
      clear HQ HE
      have hc : dn ≠ 0 ∨ (dn = 0 ∧ tt.toList.isEmpty = false) := by
        have := HF.out
        by_cases hz : dn = 0
        · rw [hz] at this; right; exact ⟨hz, by simpa using this.symm⟩
        · exact .inl hz
      clear HF hfb
      rcases hc with hz | ⟨rfl, hB2⟩
      · have hB1 : (0 : Nat) < dn := by omega
        obtain ⟨B2, hB2⟩ : ∃ b, tt.toList.isEmpty = b := ⟨_, rfl⟩
        go_wp2
        go_quiet (fail)
        go_wp2
        go_ret
        exact ⟨by rw [HQ2.out]; rfl, HBq.out _⟩
      · go_wp2
        go_quiet (fail)
        go_wp2
        go_ret
        exact ⟨by rw [HQ2.out]; rfl, HBq.out _⟩
    · rw [if_neg hfb] at HE
      have hft : FB = true := by simpa using hfb
      rw [hft] at HF
      have hc : dn = 0 ∧ tt.toList.isEmpty = true := by simpa using HF.out.symm
      obtain ⟨rfl, hB2⟩ := hc
      rw [if_neg (by omega), HZ.out hB2] at HE
      have HQ2 : Hid (Q = if I then 61 else 0) := by rw [Hid, HQ.out, HE.out]; rfl
      clear HF HQ HE hfb
      go_wp2
      go_quiet (fail)
      go_wp2_with fail
      refine (HFF.out _ (HNq.out _)).mono ?_
      rintro e w2 ⟨rfl, rfl⟩
      cases I with
      | false =>
        have hI : ¬ (0 : Int) < F := by simpa using HP.out
        go_wp2
        go_ret
        exact ⟨by rw [HQ2.out]; rfl, HBq.out _⟩
      | true =>
        have hI : (0 : Int) < F := by simpa using HP.out
        go_wp2
        go_ret
        exact ⟨by rw [HQ2.out]; rfl, HBq.out _⟩
  · rw [if_neg (by omega), if_pos rfl] at HF
    obtain ⟨B1, hB1⟩ : ∃ b, decide (0 < dn) = b := ⟨_, rfl⟩
    cases B1
    all_goals
      by_cases hfb : FB = false
      · rw [if_pos hfb] at HE
        have HQ2 : Hid (Q = 60) := by rw [Hid, HQ.out, HE.out]; rfl
        rw [hfb] at HF
        have hB2 : tt.toList.isEmpty = false := HF.out.symm
        clear HQ HE HF hfb
        go_wp2
        go_quiet (fail)
        go_wp2
        go_ret
        exact ⟨by rw [HQ2.out]; rfl, HBq.out _⟩
      · rw [if_neg hfb] at HE
        have hft : FB = true := by simpa using hfb
        rw [hft] at HF
        have hB2 : tt.toList.isEmpty = true := HF.out.symm
        by_cases hbig : 262144 < dn
        · rw [if_pos hbig] at HE
          have HQ2 : Hid (Q = 67) := by rw [Hid, HQ.out, HE.out]; rfl
          have hbI : (262144 : Int) < (dn : Int) := by omega
          clear HF HQ HE hfb
          go_wp2
          go_quiet (fail)
          go_wp2
          go_ret
          exact ⟨by rw [HQ2.out]; rfl, HBq.out _⟩
        · rw [if_neg hbig, HZ.out hB2] at HE
          have HQ2 : Hid (Q = if I then 61 else 0) := by rw [Hid, HQ.out, HE.out]; rfl
          have hbI : ¬ (262144 : Int) < (dn : Int) := by omega
          clear HF HQ HE hfb
          go_wp2
          go_quiet (fail)
          go_wp2_with fail
          refine (HFF.out _ (HNq.out _)).mono ?_
          rintro e w2 ⟨rfl, rfl⟩
          cases I with
          | false =>
            have hI : ¬ (0 : Int) < F := by simpa using HP.out
            go_wp2
            go_ret
            exact ⟨by rw [HQ2.out]; rfl, HBq.out _⟩
          | true =>
            have hI : (0 : Int) < F := by simpa using HP.out
            go_wp2
            go_ret
            exact ⟨by rw [HQ2.out]; rfl, HBq.out _⟩
  · rw [if_neg (by omega), if_neg (by omega), if_pos rfl] at HF
    by_cases hfb : FB = false
    · rw [if_pos hfb] at HE
      have HQ2 : Hid (Q = 60) := by rw [Hid, HQ.out, HE.out]; rfl
      rw [hfb] at HF
      clear HQ HE
      have hc : dn ≠ 0 ∨ (dn = 0 ∧ tt.toList.isEmpty = true) := by
        have := HF.out
        by_cases hz : dn = 0
        · rw [hz] at this; right; exact ⟨hz, by simpa using this.symm⟩
        · exact .inl hz
      clear HF hfb
      rcases hc with hz | ⟨rfl, hB2⟩
      · have hB1 : (0 : Nat) < dn := by omega
        obtain ⟨B2, hB2⟩ : ∃ b, tt.toList.isEmpty = b := ⟨_, rfl⟩
        go_wp2
        go_quiet (fail)
        go_wp2
        go_ret
        exact ⟨by rw [HQ2.out]; rfl, HBq.out _⟩
      · go_wp2
        go_quiet (fail)
        go_wp2
        go_ret
        exact ⟨by rw [HQ2.out]; rfl, HBq.out _⟩
    · rw [if_neg hfb] at HE
      have hft : FB = true := by simpa using hfb
      rw [hft] at HF
      have hc : dn = 0 ∧ tt.toList.isEmpty = false := by simpa using HF.out.symm
      obtain ⟨rfl, hB2⟩ := hc
      rw [if_neg (by omega)] at HE
      clear HF hfb
      have HXq : Hid (∀ n, w.heap.size < (w1.drewN n).heap.size) := fun n => Nat.lt_of_lt_of_le HX1.out (below_drewN w1 n).size
      go_wp2
      go_quiet (fail)
      have q0 : (w1.drewN nq).cell? ⟨w.heap.size, 0, none⟩ = some (.string p) := by rw [World.cell?_of_block (a := ⟨w.heap.size, 0, none⟩) ((below_drewN w1 nq).block _ HX1.out)]; exact y0
      have HJq := HJ.out (w1.drewN nq)
      have HBn := hide (HBq.out nq)
      have HNn := hide (HNq.out nq)
      have HXn := hide (HXq.out nq)
      go_wp2_with fail
      refine HJq.mono ?_
      rintro e w2 ⟨rfl, hb2⟩
      have z0 : w2.cell? ⟨w.heap.size, 0, none⟩ = some (.string p) := by rw [World.cell?_of_block (a := ⟨w.heap.size, 0, none⟩) (hb2.block _ HXn.out)]; exact q0
      have HB2 : Hid (Below w.heap.size w w2) := HBn.out.trans (hb2.mono HBn.out.size)
      have HN2 : Hid (NdsAt w2 a L) := HNn.out.stay hb2
      clear hb2 HJq q0
      rcases HJ2.out with rfl | rfl
      · have HQ2 : Hid (Q = if I then 61 else 0) := by rw [Hid, HQ.out, HE.out]; rfl
        clear HQ HE
        go_wp2_with fail
        refine (HFF.out _ HN2.out).mono ?_
        rintro e w3 ⟨rfl, rfl⟩
        cases I with
        | false =>
          have hI : ¬ (0 : Int) < F := by simpa using HP.out
          go_wp2
          go_ret
          exact ⟨by rw [HQ2.out]; rfl, HB2.out⟩
        | true =>
          have hI : (0 : Int) < F := by simpa using HP.out
          go_wp2
          go_ret
          exact ⟨by rw [HQ2.out]; rfl, HB2.out⟩
      · have HQ2 : Hid (Q = 40) := by rw [Hid, HQ.out, HE.out]; rfl
        clear HQ HE
        go_wp2
        go_ret
        exact ⟨by rw [HQ2.out]; rfl, HB2.out⟩
  · rw [if_neg n1, if_neg n2, if_neg n3] at HF
    rw [if_pos HF.out] at HE
    have HQ2 : Hid (Q = 60) := by rw [Hid, HQ.out, HE.out]; rfl
    clear HQ HE HF
    have b1 : (k == 1) = false := by rw [beq_eq_false_iff_ne]; exact n1
    have b2 : (k == 2) = false := by rw [beq_eq_false_iff_ne]; exact n2
    have b3 : (k == 3) = false := by rw [beq_eq_false_iff_ne]; exact n3
    obtain ⟨B2, hB2⟩ : ∃ b, tt.toList.isEmpty = b := ⟨_, rfl⟩
    go_wp2
    go_quiet (fail)
    go_wp2
    go_ret
    exact ⟨by rw [HQ2.out]; rfl, HBq.out _⟩
end Go.Proofs.YthkpcafbfgfjpaaDoor
