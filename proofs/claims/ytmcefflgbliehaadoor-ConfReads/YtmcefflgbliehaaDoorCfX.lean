
/-
  Layer 18 (conf): the reference's Expand.
-/
import Derived.Test.YtmcefflgbliehaaDoorCfW
set_option linter.unusedVariables false
namespace Go.Proofs.YtmcefflgbliehaaDoor
open Go.RowKit Go.PlainAid Go.Sort
theorem extract_mid (s : ByteArray) (a b : Nat) : s.extract a b = tx ((s.data.toList.drop a).take (b - a)) := Lib.extract_eq s a b
theorem no_sign {l : List UInt8} (h : ∀ r, l ≠ 36 :: 123 :: r) : Lib.hasPrefix l [36, 123] = false := by
  cases hp : Lib.hasPrefix l [36, 123] with
  | false => rfl
  | true => obtain ⟨r, hr⟩ := pre_form l hp; exact absurd hr (h r)
set_option maxHeartbeats 4000000 in
set_option maxRecDepth 20000 in
theorem ref18_Expand (w : World) (s : ByteArray) (hl0 : s.size ≤ 40000) (n : Int) (h1 : -9223372036854775808 ≤ n) (h2 : n ≤ 9223372036854775807) :
    Calls Tryd.prog 18 #[.string s, .int .i64 n] w fun e w' => e = .returned (.tuple #[.string (tx (expT (levT n) s.data.toList)), .int .i64 (expE (levT n) s.data.toList)]) ∧ Below w.heap.size w w' := by
  obtain ⟨V, hV⟩ : ∃ V, expT (levT n) s.data.toList = V := ⟨_, rfl⟩
  obtain ⟨E, hE⟩ : ∃ E, expE (levT n) s.data.toList = E := ⟨_, rfl⟩
  rw [hV, hE]
  have HV : Hid ((expO (levT n) s.data.toList).getD [] = V) := hV
  have HE : Hid ((if (expO (levT n) s.data.toList).isSome then (0 : Int) else 192) = E) := hE
  have hT := fun w => tn_refText n w h1 h2
  have HLV := hide (levT_le n)
  have hsl := size_list s
  have HSL := hide hsl
  have HS0 : Hid (∃ z, expO (levT n) s.data.toList = z ∧ z.map (([] : List UInt8) ++ ·) = z) := ⟨_, rfl, by cases expO (levT n) s.data.toList <;> simp⟩
  clear hV hE hsl
  unfold tx at hT ⊢
  go_enter Tryd.func18, Tryd.ntmps18
  go_wp2
  go_loopw [6, 7, 8, 53, 57] (fun v6 v7 _ _ _ wr => ∃ (i : Nat) (acc : List UInt8), v7 = .int .i64 i ∧ v6 = .string (tx acc) ∧ i ≤ s.size ∧ acc.length ≤ 20 * i ∧ Hid (Below w.heap.size w wr) ∧ Hid (expO (levT n) s.data.toList = (expO (levT n) (s.data.toList.drop i)).map (acc ++ ·))) (fun _ v7 _ _ _ _ => s.size - (intOf v7).toNat)
  case atStart =>
    obtain ⟨z, hz, hz2⟩ := HS0.out
    exact ⟨0, [], rfl, rfl, by omega, by simp, Below.refl _ _, by rw [List.drop_zero, hz, Hid, hz2]⟩
  case round =>
    obtain ⟨i, acc, rfl, rfl, hi, hal, HB, HO⟩ := hrel
    have hal2 : acc.length ≤ 800000 := by omega
    have hsz : (tx acc).size = acc.length := tx_size acc
    by_cases hlt : i < s.size
    · have hltI : (i : Int) < (s.size : Int) := by omega
      obtain ⟨c, hc⟩ : ∃ c, s[i]'hlt = c := ⟨_, rfl⟩
      have HC : Hid (s.data.toList[i]? = some c) := getD_some (by rw [← size_list]; exact hlt) (by rw [← get_list s i hlt, hc])
      have hcl := c.toNat_lt
      have hiw : IntKind.i64.wrap ((i : Int) + 1) = (i : Int) + 1 := by rw [wrap_i64_is]; omega
      have hdc : s.data.toList.drop i = c :: s.data.toList.drop (i + 1) := by
        have hlt' : i < s.data.toList.length := by rw [← size_list]; exact hlt
        rw [List.drop_eq_getElem_cons hlt']
        have := HC.out
        rw [List.getElem?_eq_getElem hlt'] at this
        injection this with this
        rw [this]
      have HDC := hide hdc
      have HEX : Hid (tx acc ++ s.extract i (i + 1) = tx (acc ++ [c])) := by
        rw [Hid, extract_mid, show i + 1 - i = 1 by omega, hdc, tx_append]
        rfl
      by_cases h36 : c = 36
      · subst h36
        by_cases hend : i + 1 = s.size
        · have hnil : s.data.toList.drop (i + 1) = [] := by rw [hend, HSL.out, List.drop_length]
          have HO2 : Hid (expO (levT n) s.data.toList = (expO (levT n) (s.data.toList.drop (i + 1))).map (acc ++ [36] ++ ·)) := by
            rw [Hid, HO.out, hdc, expO_step _ _ _ (no_sign (fun r e => by injection e with _ e; rw [hnil] at e; cases e)), Option.map_map]
            congr 1
            funext z
            simp
          have hend1 : (i : Int) + 1 = (s.size : Int) := by omega
          have hend2 : (((i : Int) + 1) == (s.size : Int)) = true := by simp; omega
          have HEX2 : Hid (tx acc ++ s.extract i s.size = tx (acc ++ [36])) := by rw [← hend]; exact HEX.out
          rw [hend] at HO2
          clear hdc hnil hend
          go_wp2
          exact ⟨⟨s.size, acc ++ [36], rfl, by rw [HEX2.out], by omega, by simp; omega, HB, HO2⟩, by simp [intOf]; omega⟩
        · have hlt1 : i + 1 < s.size := by omega
          have hlt1I : (i : Int) + 1 < (s.size : Int) := by omega
          have hend1 : ¬ (i : Int) + 1 = (s.size : Int) := by omega
          have hend2 : (((i : Int) + 1) == (s.size : Int)) = false := by simp; omega
          obtain ⟨d, hd⟩ : ∃ d, s[i + 1]'hlt1 = d := ⟨_, rfl⟩
          have HD : Hid (s.data.toList[i + 1]? = some d) := getD_some (by rw [← size_list]; exact hlt1) (by rw [← get_list s (i + 1) hlt1, hd])
          have hdl := d.toNat_lt
          have hdd : s.data.toList.drop (i + 1) = d :: s.data.toList.drop (i + 2) := by
            have hlt' : i + 1 < s.data.toList.length := by rw [← size_list]; exact hlt1
            rw [List.drop_eq_getElem_cons hlt']
            have := HD.out
            rw [List.getElem?_eq_getElem hlt'] at this
            injection this with this
            rw [this]
          by_cases h123 : d = 123
          · subst h123
            rw [hdd] at hdc
            have HDD := hide hdd
            have hF : ∀ w, Calls Tryd.prog 25 #[.string (s.extract i s.size), .int .u8 125] w fun e w' => e = .returned (.int .i64 (Lib.index (s.extract i s.size).data.toList [125])) ∧ w = w' := fun w => ref18_find (s.extract i s.size) 125 w (by rw [extract_end, tx_size, List.length_drop]; have := HSL.out; omega)
            rw [extract_end, data_tx, hdc, index_sign, ← hdc, ← extract_end] at hF
            have hO3 := HO.out
            rw [hdc, expO_sign] at hO3
            have hrl : (s.data.toList.drop (i + 2)).length = s.size - (i + 2) := by rw [List.length_drop, HSL.out]
            clear hdc hdd
            by_cases hix : Lib.index (s.data.toList.drop (i + 2)) [125] = -1
            · rw [hix, if_pos rfl] at hF
              have hcut : (Lib.cut (s.data.toList.drop (i + 2)) [125]).2.2 = false := by unfold Lib.cut; rw [hix]; rfl
              have HR : Hid (([] : List UInt8) = V ∧ E = 192) := by
                unfold bodO at hO3
                rw [hcut, if_neg (by simp)] at hO3
                have hv := HV.out
                have he := HE.out
                rw [hO3] at hv he
                exact ⟨hv, he.symm⟩
              clear hO3 hcut hix hrl
              go_wp2_with (go_at_call 25; refine (hF _).mono ?_; rintro e w1 ⟨rfl, rfl⟩)
              go_ret2
              rw [← HR.out.1, HR.out.2]
              exact ⟨rfl, HB.out⟩
            · have hge := Lib.index_ge (s.data.toList.drop (i + 2)) [125]
              obtain ⟨k, hk⟩ := Int.eq_ofNat_of_zero_le (show 0 ≤ Lib.index (s.data.toList.drop (i + 2)) [125] by omega)
              have hroom := Lib.index_room (s.data.toList.drop (i + 2)) [125] (by omega)
              have hcut : Lib.cut (s.data.toList.drop (i + 2)) [125] = ((s.data.toList.drop (i + 2)).take k, s.data.toList.drop (i + k + 3), true) := by
                unfold Lib.cut
                rw [if_pos (by omega), hk]
                simp only [Int.toNat_natCast, List.length_cons, List.length_nil, List.drop_drop]
                rw [show i + 2 + (k + (0 + 1)) = i + k + 3 by omega]
              rw [if_neg hix, hk] at hF
              rw [hk, hrl] at hroom
              simp only [List.length_cons, List.length_nil] at hroom
              have hkb : i + k + 3 ≤ s.size := by omega
              unfold bodO at hO3
              rw [hcut] at hO3
              simp only [true_and] at hO3
              have HWD : Hid (s.extract (i + 2) (i + (k + 2)) = tx ((s.data.toList.drop (i + 2)).take k)) := by
                rw [Hid, extract_mid, show i + (k + 2) - (i + 2) = k by omega]
              have HO3 := hide hO3
              generalize (s.data.toList.drop (i + 2)).take k = wd at *
              have hb1 : (i : Int) + 2 ≤ (s.size : Int) := by omega
              have hb2 : (i : Int) + ((k : Int) + 2) ≤ (s.size : Int) := by omega
              have hb3 : (i : Int) + 2 ≤ (i : Int) + ((k : Int) + 2) := by omega
              clear hO3 hcut hix hrl hk hge hroom
              have HLT : Hid ((s.extract (i + 2) (i + (k + 2))).toList = wd) := by rw [Hid, HWD.out, Lib.toList_data, data_tx]
              have HNUM : Hid (Value.int IntKind.i64 ((i : Int) + ((k : Int) + 2 + 1)) = Value.int .i64 ((i + k + 3 : Nat) : Int)) := by unfold Hid; congr 1
              by_cases hw1 : wd = libW
              · have q1 : ((s.extract (i + 2) (i + (k + 2))).toList == [76, 73, 66]) = true := by rw [HLT.out, hw1]; rfl
                have HO4 : Hid (expO (levT n) s.data.toList = (expO (levT n) (s.data.toList.drop (i + k + 3))).map (acc ++ lib64 ++ ·)) := by
                  have h3 := HO3.out
                  rw [if_pos (by rw [hw1]; rfl)] at h3
                  rw [Hid, h3, Option.map_map]
                  have : meanT (levT n) wd = lib64 := by unfold meanT; rw [if_pos hw1]
                  rw [this]
                  congr 1
                  funext z
                  simp
                have HEX3 : Hid (tx acc ++ ⟨#[108, 105, 98, 54, 52]⟩ = tx (acc ++ lib64)) := tx_append acc lib64
                clear hw1
                go_wp2_with (go_at_call 25; refine (hF _).mono ?_; rintro e w1 ⟨rfl, rfl⟩)
                exact ⟨⟨i + k + 3, acc ++ lib64, HNUM.out, by rw [HEX3.out], hkb, by simp [lib64]; omega, HB, HO4⟩, by simp [intOf]; omega⟩
              · have q1 : ((s.extract (i + 2) (i + (k + 2))).toList == [76, 73, 66]) = false := by rw [HLT.out]; simpa [libW] using hw1
                by_cases hw2 : wd = levW
                · have q2 : ((s.extract (i + 2) (i + (k + 2))).toList == [76, 69, 86, 69, 76]) = true := by rw [HLT.out, hw2]; rfl
                  have HO4 : Hid (expO (levT n) s.data.toList = (expO (levT n) (s.data.toList.drop (i + k + 3))).map (acc ++ levT n ++ ·)) := by
                    have h3 := HO3.out
                    rw [if_pos (by rw [hw2]; rfl)] at h3
                    rw [Hid, h3, Option.map_map]
                    have : meanT (levT n) wd = levT n := by unfold meanT; rw [if_neg hw1, if_pos hw2]
                    rw [this]
                    congr 1
                    funext z
                    simp
                  have HEX3 : Hid (tx acc ++ ⟨(levT n).toArray⟩ = tx (acc ++ levT n)) := tx_append acc (levT n)
                  have hlv := HLV.out
                  clear hw1 hw2
                  go_wp2_with (first
                    | (go_at_call 25; refine (hF _).mono ?_; rintro e w1 ⟨rfl, rfl⟩)
                    | (go_at_call 38; refine (hT _).mono ?_; rintro e w1 ⟨rfl, hb⟩))
                  exact ⟨⟨i + k + 3, acc ++ levT n, HNUM.out, by rw [HEX3.out], hkb, by simp; omega, HB.out.trans (hb.mono HB.out.size), HO4⟩, by simp [intOf]; omega⟩
                · have q2 : ((s.extract (i + 2) (i + (k + 2))).toList == [76, 69, 86, 69, 76]) = false := by rw [HLT.out]; simpa [levW] using hw2
                  have HR : Hid (([] : List UInt8) = V ∧ E = 192) := by
                    have h3 := HO3.out
                    rw [if_neg (by unfold meanB; simp [hw1, hw2])] at h3
                    have hv := HV.out
                    have he := HE.out
                    rw [h3] at hv he
                    exact ⟨hv, he.symm⟩
                  clear hw1 hw2
                  go_wp2_with (go_at_call 25; refine (hF _).mono ?_; rintro e w1 ⟨rfl, rfl⟩)
                  go_ret2
                  rw [← HR.out.1, HR.out.2]
                  exact ⟨rfl, HB.out⟩
          · have hne : ¬ (d.toNat : Int) = 123 := fun e => h123 (UInt8.toNat_inj.1 (by
              have : d.toNat = 123 := by omega
              rw [this]; rfl))
            have HO2 : Hid (expO (levT n) s.data.toList = (expO (levT n) (s.data.toList.drop (i + 1))).map (acc ++ [36] ++ ·)) := by
              rw [Hid, HO.out, hdc, expO_step _ _ _ (no_sign (fun r e => by injection e with _ e; rw [hdd] at e; injection e with e; exact h123 e)), Option.map_map]
              congr 1
              funext z
              simp
            clear hdc hdd
            go_wp2
            exact ⟨⟨i + 1, acc ++ [36], by go_num, by rw [HEX.out], by omega, by simp; omega, HB, HO2⟩, by simp [intOf]; omega⟩
      · have hne : ¬ (c.toNat : Int) = 36 := fun e => h36 (UInt8.toNat_inj.1 (by
          have : c.toNat = 36 := by omega
          rw [this]; rfl))
        have HO2 : Hid (expO (levT n) s.data.toList = (expO (levT n) (s.data.toList.drop (i + 1))).map (acc ++ [c] ++ ·)) := by
          rw [Hid, HO.out, hdc, expO_step _ _ _ (no_sign (fun r e => by injection e with e; exact h36 e)), Option.map_map]
          congr 1
          funext z
          simp
        clear hdc
        go_wp2
        exact ⟨⟨i + 1, acc ++ [c], by go_num, by rw [HEX.out], by omega, by simp; omega, HB, HO2⟩, by simp [intOf]; omega⟩
    · have hltI : ¬ (i : Int) < (s.size : Int) := by omega
      have hie : i = s.size := by omega
      have HR : Hid (acc = V ∧ E = 0) := by
        have h1 := HO.out
        rw [hie, HSL.out, List.drop_length, expO_nil] at h1
        have hv := HV.out
        have he := HE.out
        rw [h1] at hv he
        simp at hv he
        exact ⟨hv, he.symm⟩
      clear hie
      go_wp2
      go_ret2
      rw [← HR.out.1, HR.out.2]
      exact ⟨rfl, HB.out⟩
end Go.Proofs.YtmcefflgbliehaaDoor
