
/-
  Layer 14 (aps): ApsBack's walk, over Decode's contract.
-/
import Derived.Test.YthbikbeedopbcaaApL
set_option linter.unusedVariables false
namespace Go.Proofs.Ythbikbeedopbcaa
open Go.RowKit Go.PlainAid
open Classical
theorem nilA (w : World) : Arg w (.slice none 0 0) [] := ⟨none, 0, rfl, by simp, by simp, by simp, .inl ⟨rfl, rfl, rfl⟩⟩
theorem nilR (w : World) : ArgR w (.slice none 0 0) [] := ⟨fun r hr => by simp at hr, none, 0, rfl, by simp, by simp, .inl ⟨rfl, fun _ => rfl⟩⟩
theorem Arg.below1' {w w' : World} {v : Value} {l : List UInt8} (h : Arg w v l) (hb : Below w.heap.size w w') : Arg w' v l := h.below hb rfl
theorem enc_short {l : List Rl} {rela : Bool} {x : List UInt8} (hx : encA l rela = some x) : x.length ≤ 1000000 := by
  unfold encA at hx
  split at hx
  · rename_i hc
    injection hx with hx
    have h1 := lebs_len ((l.length : Int) :: 0 :: encG rela l.length 0 0 l)
    have h2 : ∀ (k pl : Nat) (ad : Int) (l : List Rl), (encG rela k pl ad l).length ≤ 5 * l.length := by
      intro k
      induction k with
      | zero => intro pl ad l; simp [encG]
      | succ k ih =>
        intro pl ad l
        cases l with
        | nil => simp [encG]
        | cons r t =>
          have e1 := alike_le r (r :: t)
          have e2 := alike_pos r t
          have e3 := rowE_len rela ((r :: t).take (alikeN r (r :: t))) pl ad
          have e4 := ih (lastP pl ((r :: t).take (alikeN r (r :: t)))) (lastA ad ((r :: t).take (alikeN r (r :: t)))) ((r :: t).drop (alikeN r (r :: t)))
          rw [List.length_take] at e3
          rw [List.length_drop] at e4
          have e5 : (headN rela (alikeN r (r :: t)) r).length = 3 := rfl
          simp only [encG, List.length_append, e5]
          omega
    have h3 := h2 l.length 0 0 l
    rw [← hx]
    simp only [List.length_append, List.length_cons, List.length_nil] at h1 ⊢
    omega
  · cases hx
/-- Encode, both ways in one. -/
theorem enc_is (w : World) (v : Value) (l : List Rl) (rela : Bool) (h : ArgR w v l) (hl : l.length ≤ 1000) :
    Calls Try.prog 10 #[v, .bool rela] w fun e w' => (∃ vx x q, e = .returned (.tuple #[vx, .int .i64 q]) ∧ Arg w' vx x ∧ ((encA l rela = none ∧ x = [] ∧ q = 140) ∨ (encA l rela = some x ∧ q = 0))) ∧ Below w.heap.size w w' := by
  refine (aps_Encode w v l rela h hl).mono ?_
  rintro e w' ⟨hE, hb⟩
  refine ⟨?_, hb⟩
  cases hO : encA l rela with
  | none => rw [hO] at hE; exact ⟨_, [], 140, hE, nilA _, .inl ⟨rfl, rfl, rfl⟩⟩
  | some x =>
    rw [hO] at hE
    obtain ⟨vx, he, hown⟩ := hE
    exact ⟨vx, x, 0, he, hown.arg (by have := enc_short hO; omega), .inr ⟨rfl, rfl⟩⟩
theorem dec_is (HD : DecSpec) (w : World) (v : Value) (l : List UInt8) (rela : Bool) (h : Arg w v l) :
    Calls Try.prog 6 #[v, .bool rela] w fun e w' => (∃ vx L q, e = .returned (.tuple #[vx, .int .i64 q]) ∧ ArgR w' vx L ∧ ((apsZ l rela = none ∧ L = [] ∧ q = 140) ∨ (apsZ l rela = some L ∧ q = 0))) ∧ Below w.heap.size w w' := by
  refine (HD w v l h rela).mono ?_
  rintro e w' ⟨hE, hb⟩
  refine ⟨?_, hb⟩
  cases hO : apsZ l rela with
  | none => rw [hO] at hE; exact ⟨_, [], 140, hE, nilR _, .inl ⟨rfl, rfl, rfl⟩⟩
  | some L =>
    rw [hO] at hE
    obtain ⟨vx, he, hown⟩ := hE
    exact ⟨vx, L, 0, he, hown.arg (fun r hr => ((apsZ_good hO).1 r hr).1), .inr ⟨rfl, rfl⟩⟩
theorem enc_good {L : List Rl} {rela : Bool} (h : ∀ r ∈ L, r.ok ∧ r.has = rela ∧ (rela = false → r.add = 0)) (hl : L.length ≤ 512) : ∃ c, encA L rela = some c := by
  unfold encA
  rw [if_pos]
  · exact ⟨_, rfl⟩
  · refine ⟨hl, ?_⟩
    rw [List.all_eq_true]
    intro r hr
    obtain ⟨_, h2, h3⟩ := h r hr
    unfold rlGood
    cases rela with
    | true => simp [h2]
    | false => simp [h2, h3 rfl]
theorem same_yes (w : World) (v1 v2 : Value) (L : List Rl) (h1 : ArgR w v1 L) (h2 : ArgR w v2 L) : Calls Try.prog 8 #[v1, v2] w fun e w' => e = .returned (.bool true) ∧ Below w.heap.size w w' := by
  have k := ref12_Same w v1 v2 L L h1 h2
  have e : decide (L = L) = true := by simp
  rw [e] at k
  exact k
set_option maxHeartbeats 1000000 in
set_option maxRecDepth 20000 in
theorem back_core (HD : DecSpec) (w : World) (v u : Value) (l : List Rl) (b : List UInt8) (h : ArgR w v l) (hb : Arg w u b) (hl : l.length ≤ 1000) (hbl : b.length ≤ 20000) (rela : Bool) :
    Calls Try.prog 5 #[v, u, .bool rela] w fun e w' => e = .returned (.bool true) ∧ Below w.heap.size w w' := by
  have HA := hide (fun W (hW : Below w.heap.size w W) => h.below hW)
  have hE := enc_is w v l rela h hl
  have HU := hide (fun W (hW : Below w.heap.size w W) => dec_is HD W u b rela (hb.below hW rfl))
  have HBK := hide (fun x hx => aps_back (l := l) (rela := rela) (b := x) h.1 hx)
  have HAL := hide (alive14 HD)
  have HDD := hide HD
  obtain ⟨a, cap, rfl, _⟩ := h.form
  obtain ⟨ua, ucap, rfl, _⟩ := hb.isSlice
  obtain ⟨n, hn⟩ : ∃ n, l.length = n := ⟨_, rfl⟩
  obtain ⟨k, hk⟩ : ∃ k, b.length = k := ⟨_, rfl⟩
  rw [hn] at hl hE HA ⊢
  rw [hk] at hbl HU ⊢
  have hnI : ¬ (1000 : Int) < (n : Int) := by omega
  have hkI : ¬ (20000 : Int) < (k : Int) := by omega
  clear h hb hn hk HD
  -- the second half, from whatever world
  have SEC : ∀ w1, Below w.heap.size w w1 → Hid (Calls Try.prog 6 #[.slice ua k ucap, .bool rela] w1 fun e w' => (∃ vx L q, e = .returned (.tuple #[vx, .int .i64 q]) ∧ ArgR w' vx L ∧ ((L = [] ∧ q = 140) ∨ (q = 0 ∧ L.length ≤ 512 ∧ ∃ c, encA L rela = some c))) ∧ Below w1.heap.size w1 w') := by
    intro w1 hb1
    refine (HU.out w1 hb1).mono ?_
    rintro e w' ⟨⟨vx, L, q, rfl, hL, hc⟩, hb⟩
    refine ⟨⟨vx, L, q, rfl, hL, ?_⟩, hb⟩
    rcases hc with ⟨_, h1, h2⟩ | ⟨h1, h2⟩
    · exact .inl ⟨h1, h2⟩
    · obtain ⟨g1, g2⟩ := apsZ_good h1
      exact .inr ⟨h2, g2, enc_good g1 g2⟩
  have HSEC := hide SEC
  clear SEC HU
  go_enter Try.func5, Try.ntmps5
  go_wp2_with fail
  refine hE.mono ?_
  rintro e w1 ⟨⟨vx, x, q, rfl, hx, hq⟩, hb1⟩
  have HB1 := hide hb1
  have hD := dec_is HDD.out w1 vx x rela hx
  obtain ⟨xa, xc, rfl, _⟩ := hx.isSlice
  clear hE hb1 hx
  go_wp2_with fail
  refine hD.mono ?_
  rintro e w2 ⟨⟨vy, Y, f, rfl, hy, hf⟩, hb2⟩
  have HB2 : Hid (Below w.heap.size w w2) := HB1.out.trans (hb2.mono HB1.out.size)
  have HY := hide hy
  clear hD hb2 hy
  go_upto_region 5 with fail
  go_cut [57] from 17 (fun v57 wx => v57 = .bool false ∧ Hid (Below w.heap.size w wx))
  case first =>
    rcases hq with ⟨_, rfl, rfl⟩ | ⟨hq, rfl⟩
    · clear hf
      simp only [List.length_nil] at *
      go_wp2
      go_meet
      case rel => exact ⟨rfl, HB2⟩
    · have hYl := HBK.out x hq
      rw [hYl] at hf
      rcases hf with ⟨h1, _⟩ | ⟨h1, rfl⟩
      · cases h1
      injection h1 with h1
      have HY2 : Hid (ArgR w2 vy l) := by rw [h1]; exact HY.out
      have hSm := same_yes w2 vy (.slice a n cap) l HY2.out (HA.out w2 HB2.out)
      clear hYl hq h1 HY HY2
      go_wp2_with fail
      refine hSm.mono ?_
      rintro e w3 ⟨rfl, hb3⟩
      have HB3 : Hid (Below w.heap.size w w3) := HB2.out.trans (hb3.mono HB2.out.size)
      clear hSm hb3
      go_wp2
      go_meet
      case rel => exact ⟨rfl, HB3⟩
  case rest =>
    obtain ⟨rfl, HB3⟩ := hcut
    have hZ := HSEC.out wc HB3.out
    clear hq hf HY HB2 HSEC HBK HA
    go_wp2_with fail
    refine hZ.out.mono ?_
    rintro e w4 ⟨⟨vz, Z, g, rfl, hz, hg⟩, hb4⟩
    have HB4 : Hid (Below w.heap.size w w4) := HB3.out.trans (hb4.mono HB3.out.size)
    have HZ := hide hz
    obtain ⟨za, zc, rfl, _⟩ := hz.form
    clear hZ hb4
    rcases hg with ⟨rfl, rfl⟩ | ⟨rfl, hZ5, c, hc⟩
    · have hAl := HAL.out w4
      simp only [List.length_nil] at *
      go_wp2_with fail
      refine hAl.mono ?_
      rintro e w5 ⟨rfl, hb5⟩
      have HB5 : Hid (Below w.heap.size w w5) := HB4.out.trans (hb5.mono HB4.out.size)
      clear hAl hb5
      go_wp2
      go_ret
      exact ⟨rfl, HB5.out⟩
    · have hE2 := enc_is w4 _ Z rela HZ.out (by omega)
      have HBZ := hide (aps_back HZ.out.1 hc)
      have HC := hide hc
      have HZS := hide (fun W (hW : Below w4.heap.size w4 W) => HZ.out.below hW)
      obtain ⟨nz, hnz⟩ : ∃ nz, Z.length = nz := ⟨_, rfl⟩
      rw [hnz] at hE2 HZS ⊢
      clear hz hc hnz hZ5 HZ
      go_wp2_with fail
      refine hE2.mono ?_
      rintro e w5 ⟨⟨vc, c2, q2, rfl, hc2, hq2⟩, hb5⟩
      have hcc : c2 = c ∧ q2 = 0 := by
        rcases hq2 with ⟨h1, _⟩ | ⟨h1, h2⟩
        · rw [HC.out] at h1; cases h1
        · rw [HC.out] at h1; injection h1 with h1; exact ⟨h1.symm, h2⟩
      obtain ⟨rfl, rfl⟩ := hcc
      have HB5 : Hid (Below w4.heap.size w4 w5) := hb5
      have hD3 := dec_is HDD.out w5 vc c2 rela hc2
      obtain ⟨ca, cc, rfl, _⟩ := hc2.isSlice
      obtain ⟨nc, hnc⟩ : ∃ nc, c2.length = nc := ⟨_, rfl⟩
      rw [hnc] at hD3 ⊢
      clear hE2 hb5 hq2 hc2 hnc
      go_wp2_with fail
      refine hD3.mono ?_
      rintro e w6 ⟨⟨vw, Wl, q3, rfl, hw, hq3⟩, hb6⟩
      have hww : Wl = Z ∧ q3 = 0 := by
        rcases hq3 with ⟨h1, _⟩ | ⟨h1, h2⟩
        · rw [HBZ.out] at h1; cases h1
        · rw [HBZ.out] at h1; injection h1 with h1; exact ⟨h1.symm, h2⟩
      obtain ⟨rfl, rfl⟩ := hww
      have HB6 : Hid (Below w4.heap.size w4 w6) := HB5.out.trans (hb6.mono HB5.out.size)
      have hSm := same_yes w6 vw _ Wl hw (HZS.out w6 HB6.out)
      clear hD3 hb6 hq3 hw
      go_wp2_with fail
      refine hSm.mono ?_
      rintro e w7 ⟨rfl, hb7⟩
      have HB7 : Hid (Below w4.heap.size w4 w7) := HB6.out.trans (hb7.mono HB6.out.size)
      have hAl := HAL.out w7
      clear hSm hb7
      go_wp2_with fail
      refine hAl.mono ?_
      rintro e w8 ⟨rfl, hb8⟩
      have HB8 : Hid (Below w.heap.size w w8) := HB4.out.trans ((HB7.out.trans (hb8.mono HB7.out.size)).mono HB4.out.size)
      clear hAl hb8
      go_wp2
      go_ret
      exact ⟨rfl, HB8.out⟩
end Go.Proofs.Ythbikbeedopbcaa
