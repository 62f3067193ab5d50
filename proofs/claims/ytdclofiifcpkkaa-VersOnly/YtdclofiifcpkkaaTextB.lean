
/-
  The reference's Text keeps the contract of le.Text.
-/
import Derived.Test.YtdclofiifcpkkaaRowB
import Derived.Lib.SmallJoins
set_option linter.unusedVariables false
namespace Go.Proofs.Ytdclofiifcpkkaa
open Go.RowKit Go.PlainAid
theorem zat_some : ∀ (m : List UInt8) (k : Nat), (∀ j, j < k → m.getD j 0 ≠ 0) → k < m.length → m.getD k 0 = 0 → zat m = some k
  | [], k, _, h, _ => by simp at h
  | c :: t, 0, _, _, h => by simp at h; simp [zat, h]
  | c :: t, k + 1, h1, h2, h3 => by
    have h0 := h1 0 (by omega)
    simp at h0
    have ih := zat_some t k (fun j hj => by have := h1 (j + 1) (by omega); simpa using this) (by simpa using h2) (by simpa using h3)
    simp [zat, h0, ih]
theorem zat_none : ∀ (m : List UInt8), (∀ j, j < m.length → m.getD j 0 ≠ 0) → zat m = none
  | [], _ => rfl
  | c :: t, h => by
    have h0 := h 0 (by simp)
    simp at h0
    have ih := zat_none t (fun j hj => by have := h (j + 1) (by simpa using hj); simpa using this)
    simp [zat, h0, ih]
theorem plain_100 (m : List UInt8) : plain (m.take 100) = plain m ∧ (plain m = true → m.take 100 = m) := by
  by_cases h : m.length ≤ 100
  · rw [List.take_of_length_le h]; exact ⟨rfl, fun _ => rfl⟩
  · have a : plain m = false := by unfold plain; simp; omega
    have b : plain (m.take 100) = false := by unfold plain; simp; omega
    rw [a, b]; exact ⟨rfl, fun h => by cases h⟩
theorem take_take_snoc (m : List UInt8) (k : Nat) (hk : k < m.length) : ((m.take k).length < 100 → (m.take (k + 1)).take 100 = (m.take k).take 100 ++ [m.getD k 0]) ∧ (¬ (m.take k).length < 100 → (m.take (k + 1)).take 100 = (m.take k).take 100) := by
  have e : m.take (k + 1) = m.take k ++ [m.getD k 0] := by
    rw [List.take_add_one]; congr 1; simp [List.getD, List.getElem?_eq_getElem hk]
  rw [e]
  constructor
  · intro h
    rw [List.take_of_length_le (l := m.take k ++ [m.getD k 0]) (by rw [List.length_append, List.length_singleton]; omega), List.take_of_length_le (l := m.take k) (by omega)]
  · intro h
    rw [List.take_append_of_le_length (by omega)]
set_option maxHeartbeats 2000000 in
set_option maxRecDepth 20000 in
theorem ref_Text (w : World) (v : Value) (l : List UInt8) (h : Arg w v l) (p : Nat) (hp : (p : Int) ≤ 18446744073709551615) :
    Calls Try.prog 32 #[v, .int .u64 p] w fun e w' => e = .returned (.tuple #[.string ⟨(textAt l p).1.toArray⟩, .int .i64 (textAt l p).2]) ∧ Below w.heap.size w w' := by
  by_cases hlt : p < l.length
  · obtain ⟨g, o, cap, rfl, hc1, hc2, hc⟩ := h.cells (by omega)
    obtain ⟨_, _, _, _, _, hl⟩ := h.isSlice
    have HC : Hid (∀ j, j < l.length → w.cell? ⟨g, o + j, none⟩ = some (.int .u8 ((l.getD j 0).toNat : Int))) := hc
    have hg : g < w.heap.size := by
      have := World.block_lt_of_cell? _ _ (hc 0 (by omega))
      exact this
    clear hc h
    have hltI : (p : Int) < (l.length : Int) := by omega
    obtain ⟨n, hn⟩ : ∃ n, l.length = n := ⟨_, rfl⟩
    obtain ⟨T, hT⟩ : ∃ T, textAt l p = T := ⟨_, rfl⟩
    have HT : Hid (textAt l p = T) := hT
    have HN : Hid (l.length = n) := hn
    have hcn : n ≤ cap := by omega
    have hcap : cap ≤ 9223372036854775807 := by unfold maxLen at hc2; omega
    rw [hT]
    rw [hn] at hl hltI hlt ⊢
    clear hT hn
    go_enter Try.func32, Try.ntmps32
    go_wp2
    go_loopw [6, 7] (fun vs vi wr => ∃ (k : Nat) (s : ByteArray), p + k ≤ n ∧ vi = .int .i64 ((p + k : Nat) : Int) ∧ vs = .string s ∧ Hid (s.data.toList = ((l.drop p).take k).take 100) ∧ Hid (∀ j, j < k → (l.drop p).getD j 0 ≠ 0) ∧ Below w.heap.size w wr) (fun _ vi _ => n - (intOf vi).toNat)
    case atStart => exact ⟨0, ⟨#[]⟩, by omega, by go_num, rfl, by simp [Hid], fun j hj => by omega, Below.refl _ _⟩
    case round =>
      obtain ⟨k, s, hk, rfl, rfl, HS, HZ, hbl⟩ := hrel
      by_cases hgo : p + k < n
      · obtain ⟨c, hc⟩ : ∃ c, (l.drop p).getD k 0 = c := ⟨_, rfl⟩
        have hkm : k < (l.drop p).length := by have := HN.out; simp; omega
        have HCC : Hid ((l.drop p).getD k 0 = c) := hc
        have hcl : l.getD (p + k) 0 = c := by rw [← hc]; simp [List.getD]
        have hcell : wr.cell? ⟨g, o + (p + k), none⟩ = some (.int .u8 (c.toNat : Int)) := by
          rw [hbl.cell (p := ⟨g, o + (p + k), none⟩) hg, HC.out (p + k) (by have := HN.out; omega), hcl]
        have hgoI : ((p + k : Nat) : Int) < (n : Int) := by omega
        have hsz : (s.size : Int) ≤ 100 := by rw [size_list, HS.out]; simp; omega
        have TS := take_take_snoc (l.drop p) k hkm
        rw [hc] at TS
        have HTS : Hid _ := TS
        have hszk : s.size < 100 ↔ ((l.drop p).take k).length < 100 := by rw [size_list, HS.out, List.length_take]; omega
        have HSK : Hid _ := hszk
        clear hc hcl TS hszk
        by_cases hz : c = 0
        · subst hz
          have Z : zat (l.drop p) = some k := zat_some _ k HZ.out hkm HCC.out
          have hT : (if plain ((l.drop p).take k) then ((l.drop p).take k, (0 : Int)) else ([], 21)) = T := by rw [← HT.out]; unfold textAt; rw [Z]
          have hP := ref_Plain s wr (by omega)
          have P1 := plain_100 ((l.drop p).take k)
          rw [HS.out, P1.1] at hP
          have HP2 : Hid _ := P1.2
          clear P1
          have hcell0 : wr.cell? ⟨g, o + (p + k), none⟩ = some (.int .u8 0) := hcell
          clear hcell
          have hA : ∀ A, plain ((l.drop p).take k) = A → Hid (A = true → s = ⟨T.1.toArray⟩ ∧ T.2 = 0) ∧ Hid (A = false → T.1 = [] ∧ T.2 = 21) := by
            intro A hA
            subst hA
            constructor
            · intro hpl
              have e := HS.out
              rw [HP2.out hpl] at e
              rw [if_pos hpl] at hT
              rw [← hT]
              exact ⟨by cases s; simp at e; simp [← e], rfl⟩
            · intro hpl
              rw [if_neg (by rw [hpl]; simp)] at hT
              rw [← hT]
              exact ⟨rfl, rfl⟩
          obtain ⟨A, hAe⟩ : ∃ A, plain ((l.drop p).take k) = A := ⟨_, rfl⟩
          have hA2 := hA A hAe
          rw [hAe] at hP
          obtain ⟨hA3, hA4⟩ := hA2
          obtain ⟨T1, T2⟩ := T
          simp only at hA3 hA4
          clear hA hAe hT Z HT HP2 HS HZ HTS HSK HCC HC hkm
          cases A
          · obtain ⟨r1, r2⟩ := hA4.out rfl
            clear hA3 hA4
            subst r1 r2
            go_wp2_with fail
            refine hP.mono ?_
            rintro e w1 ⟨rfl, rfl⟩
            go_wp2
            go_ret2
            exact ⟨rfl, hbl⟩
          · obtain ⟨r1, r2⟩ := hA3.out rfl
            have HR : Hid _ := r1
            clear hA3 hA4 r1
            subst r2
            go_wp2_with fail
            refine hP.mono ?_
            rintro e w1 ⟨rfl, rfl⟩
            go_wp2
            go_ret2
            exact ⟨by rw [HR.out]; rfl, hbl⟩
        · have hcn : ¬ (c.toNat : Int) = 0 := by
            intro h; apply hz; apply UInt8.toNat_inj.1; simpa using h
          have HZ2 : Hid (∀ j, j < k + 1 → (l.drop p).getD j 0 ≠ 0) := by
            intro j hj
            by_cases hjk : j = k
            · subst hjk; rw [HCC.out]; exact hz
            · exact HZ.out j (by omega)
          by_cases hs : s.size < 100
          · have hsI : (s.size : Int) < 100 := by omega
            obtain ⟨t, ht, hcv⟩ : ∃ t : ByteArray, t.data.toList = [c] ∧ Sem.run Try.prog (convert 22 9 (Value.slice (some ⟨wr.heap.size, 0, none⟩) 1 1)) (wr.alloc (Obj.cells #[Value.int IntKind.u8 (c.toNat : Int)] 5)) = .ok (.string t) (wr.alloc (Obj.cells #[Value.int IntKind.u8 (c.toNat : Int)] 5)) := by
              refine ⟨⟨[c].toArray⟩, rfl, ?_⟩
              exact run_convert_bytes_back (P := Try.prog) _ 22 9 5 ⟨wr.heap.size, 0, none⟩ 1 [c] Try.underlying22 Try.underlying5 Try.underlying9 (fun j hj => by
                have : j = 0 := by simpa using hj
                subst this
                simp [Addr.add])
            have HN2 : Hid ((s ++ t).data.toList = ((l.drop p).take (k + 1)).take 100) := by
              rw [Hid, Go.Joins.data_append, ht, HS.out, HTS.out.1 (HSK.out.1 hs)]
            have hts : (t.size : Int) = 1 := by rw [size_list, ht]; rfl
            have hts' : (t.size : Int) ≤ 1 := by omega
            clear ht hts hz
            go_wp2
            go_roundw
            case rel => exact ⟨k + 1, _, by omega, by go_num, rfl, HN2, HZ2, hbl.alloc hbl.size _⟩
            case measure => simp [intOf]; omega
          · have hsI : ¬ (s.size : Int) < 100 := by omega
            have HN2 : Hid (s.data.toList = ((l.drop p).take (k + 1)).take 100) := by
              rw [Hid, HS.out, HTS.out.2 (fun h => hs (HSK.out.2 h))]
            clear hz
            go_wp2
            go_roundw
            case rel => exact ⟨k + 1, _, by omega, by go_num, rfl, HN2, HZ2, hbl⟩
            case measure => simp [intOf]; omega
      · have hke : p + k = n := by omega
        have Z : zat (l.drop p) = none := zat_none _ (fun j hj => HZ.out j (by have := HN.out; simp at hj; omega))
        have hT : (([], 20) : List UInt8 × Int) = T := by rw [← HT.out]; unfold textAt; rw [Z]
        have hgoI : ¬ ((p + k : Nat) : Int) < (n : Int) := by omega
        subst hT
        go_wp2
        go_ret2
        exact ⟨rfl, hbl⟩
  · have ht : textAt l p = ([], 20) := by unfold textAt; rw [List.drop_of_length_le (by omega)]; rfl
    rw [ht]
    obtain ⟨a, cap, rfl, _, _, hl⟩ := h.isSlice
    have hlt2 : ¬ (p : Int) < (l.length : Int) := by omega
    clear ht h
    go_enter Try.func32, Try.ntmps32
    go_wp2
    go_ret2
    exact ⟨rfl, Below.refl _ _⟩
end Go.Proofs.Ytdclofiifcpkkaa
