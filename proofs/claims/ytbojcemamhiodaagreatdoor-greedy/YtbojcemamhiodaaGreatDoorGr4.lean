import Derived.Test.YtbojcemamhiodaaGreatDoorGr3
namespace Go.Proofs.YtbojcemamhiodaaGreatDoor
open Go.RowKit

set_option maxRecDepth 4000 in
set_option maxHeartbeats 1000000 in
theorem greedy_any (W : World) (a b d : ByteArray) (ha : a.size ≤ 9223372036854775806) (hb : b.size ≤ 9223372036854775807) (hd : d.size ≤ 9223372036854775807) :
    Calls Tryz.prog 10 #[.string a, .string b, .string d] W fun e w' => e = .returned (.bool true) ∧ Below W.heap.size W w' := by
  obtain ⟨c, l, hl, hcp, hcn⟩ := abc_head a
  obtain ⟨w, hw⟩ : ∃ w, (abcL b.data.toList).take 5 = w := ⟨_, rfl⟩
  obtain ⟨s, hs⟩ : ∃ s, abcL d.data.toList = s := ⟨_, rfl⟩
  have hlw : w.length ≤ 5 := by rw [← hw]; simp; omega
  have hls : s.length ≤ 60 := by rw [← hs]; exact abcL_len _
  have hwp : w.all isPlain = true := by rw [← hw]; exact abcT_plain _ 5
  have hsz : (a ++ ⟨#[97]⟩ : ByteArray).size ≤ 9223372036854775807 := by
    rw [ByteArray.size_append]
    show a.size + 1 ≤ _
    omega
  have N1 := hide (fun W : World => abc_any W (a ++ ⟨#[97]⟩) hsz)
  have N2 := hide (fun W : World => short_any W b 5 (by omega) hb)
  have N3 := hide (fun W : World => abc_any W d hd)
  rw [hl] at N1
  rw [hw] at N2
  rw [hs] at N3
  have hll : (c :: l).length ≤ 60 := by rw [← hl]; exact abcL_len _
  obtain ⟨K, hK⟩ : ∃ K, K = runTo s c s.length 0 := ⟨_, rfl⟩
  have hKr := runTo_ge s c s.length 0
  rw [← hK] at hKr
  have hKl : K ≤ s.length := by omega
  have H1 := hide (fun (W : World) => greedy1_ask W c w s K _ hcp hwp hlw hls hK rfl)
  have H2 := hide (fun (W : World) => greedy2_ask W c w s K _ hcn hwp hlw hls hK rfl)
  have HN := hide (fun W : World => number_any K W (by omega))
  have e1 : (bl (c :: l)).extract 0 1 = bl [c] := by rw [extract_bl]; rfl
  have hzc := bl_size (c :: l)
  have hzc1 := bl_size [c]
  have hzw := bl_size w
  have hzs := bl_size s
  have hdk := decC_len2 (K : Int)
  have hdz : (⟨(decC (K : Int)).toArray⟩ : ByteArray).size = (decC (K : Int)).length := by show (decC (K : Int)).toArray.size = _; rw [List.size_toArray]
  have HK := hide hK
  clear hl hw hs hb hd hsz hcp hcn hwp hK
  generalize c :: l = cl at *
  have hcl : 1 ≤ (bl cl).size := by rw [hzc]; have := congrArg ByteArray.size e1; rw [hzc1, ByteArray.size_extract, hzc] at this; simp at this; omega
  go_enter Tryz.func10, Tryz.ntmps10
  go_wp2_with fail
  refine (unhide N1 _).mono ?_
  rintro e w1 ⟨rfl, hb1⟩
  have HB1 := hide hb1
  clear hb1
  go_wp2_with fail
  refine (unhide N2 _).mono ?_
  rintro e w2 ⟨rfl, hb2⟩
  have HB2 := hide ((unhide HB1).trans (hb2.mono (unhide HB1).size))
  clear hb2
  go_wp2_with fail
  refine (unhide N3 _).mono ?_
  rintro e w3 ⟨rfl, hb3⟩
  have HB3 := hide ((unhide HB2).trans (hb3.mono (unhide HB2).size))
  clear hb3
  go_wp2_with fail
  go_loopw [8] (fun i wr => ∃ k : Nat, k ≤ s.length ∧ i = .int .i64 k ∧ Hid (runTo s c (s.length - k) k = K) ∧ Hid (Below W.heap.size W wr)) (fun i _ => s.length - (intOf i).toNat)
  case atStart => exact ⟨0, by omega, rfl, by rw [unhide HK]; rfl, HB3⟩
  case round =>
    obtain ⟨k, hk, rfl, HR, HBR⟩ := hrel
    clear HB3
    have HB3 := HBR
    clear HBR
    have hcut := stands_cut s [c] k
    rw [stands1] at hcut
    by_cases hlt : k < s.length
    · by_cases hin : s[k]? = some c
      · rw [decide_eq_true hin] at hcut
        have hcut' : (((bl s).extract k (k + 1)).toList == (bl [c]).toList) = true := hcut
        have HR' := hide ((run_go hlt hin).symm.trans (unhide HR))
        clear hcut hin
        go_wp2_with fail
        go_roundw
        case rel => exact ⟨k + 1, by omega, by go_num, HR', HB3⟩
        case measure => simp [intOf]; omega
      · rw [decide_eq_false hin] at hcut
        have hcut' : (((bl s).extract k (k + 1)).toList == (bl [c]).toList) = false := hcut
        have hkK : k = K := (run_stop hin).symm.trans (unhide HR)
        subst hkK
        clear hcut hin HR
        by_cases hA : standsB s k w = true
        · by_cases hB : 0 < k
          · rw [if_pos hA] at H1
            rw [if_pos ⟨hB, hA⟩] at H2
            simp only [Int.natCast_add] at H1 H2
            have hA2 := stands_len (by omega) hA
            go_wp2_with fail
            refine (at_any _ s w k (by omega) (by omega) (by omega)).mono ?_
            rintro e w5 ⟨rfl, hw5⟩
            replace hw5 := hw5.symm
            subst hw5
            go_wp2_with fail
            refine (unhide HN _).mono ?_
            rintro e w6 ⟨rfl, hb6⟩
            have HB6 := hide ((unhide HB3).trans (hb6.mono (unhide HB3).size))
            clear hb6
            go_wp2_with fail
            refine (unhide H1 _).mono ?_
            rintro e w7 ⟨rfl, hb7⟩
            have HB7 := hide ((unhide HB6).trans (hb7.mono (unhide HB6).size))
            clear hb7
            go_wp2_with fail
            refine (unhide HN _).mono ?_
            rintro e w8 ⟨rfl, hb8⟩
            have HB8 := hide ((unhide HB7).trans (hb8.mono (unhide HB7).size))
            clear hb8
            go_wp2_with fail
            refine (unhide H2 _).mono ?_
            rintro e w9 ⟨rfl, hb9⟩
            have HB9 := hide ((unhide HB8).trans (hb9.mono (unhide HB8).size))
            clear hb9
            go_wp2
            go_ret
            exact ⟨rfl, unhide HB9⟩
          · rw [if_pos hA] at H1
            rw [if_neg (fun x => hB x.1)] at H2
            simp only [Int.natCast_add] at H1
            have hA2 := stands_len (by omega) hA
            go_wp2_with fail
            refine (at_any _ s w k (by omega) (by omega) (by omega)).mono ?_
            rintro e w5 ⟨rfl, hw5⟩
            replace hw5 := hw5.symm
            subst hw5
            go_wp2_with fail
            refine (unhide HN _).mono ?_
            rintro e w6 ⟨rfl, hb6⟩
            have HB6 := hide ((unhide HB3).trans (hb6.mono (unhide HB3).size))
            clear hb6
            go_wp2_with fail
            refine (unhide H1 _).mono ?_
            rintro e w7 ⟨rfl, hb7⟩
            have HB7 := hide ((unhide HB6).trans (hb7.mono (unhide HB6).size))
            clear hb7
            go_wp2_with fail
            refine (unhide HN _).mono ?_
            rintro e w8 ⟨rfl, hb8⟩
            have HB8 := hide ((unhide HB7).trans (hb8.mono (unhide HB7).size))
            clear hb8
            go_wp2_with fail
            refine (unhide H2 _).mono ?_
            rintro e w9 ⟨rfl, hb9⟩
            have HB9 := hide ((unhide HB8).trans (hb9.mono (unhide HB8).size))
            clear hb9
            go_wp2
            go_ret
            exact ⟨rfl, unhide HB9⟩
        · rw [if_neg hA] at H1
          rw [if_neg (fun x => hA x.2)] at H2
          have hA2 : standsB s k w = false := by simpa using hA
          clear hA
          by_cases hB : 0 < k
          · go_wp2_with fail
            refine (at_any _ s w k (by omega) (by omega) (by omega)).mono ?_
            rintro e w5 ⟨rfl, hw5⟩
            replace hw5 := hw5.symm
            subst hw5
            go_wp2_with fail
            refine (unhide HN _).mono ?_
            rintro e w6 ⟨rfl, hb6⟩
            have HB6 := hide ((unhide HB3).trans (hb6.mono (unhide HB3).size))
            clear hb6
            go_wp2_with fail
            refine (unhide H1 _).mono ?_
            rintro e w7 ⟨rfl, hb7⟩
            have HB7 := hide ((unhide HB6).trans (hb7.mono (unhide HB6).size))
            clear hb7
            go_wp2_with fail
            refine (unhide HN _).mono ?_
            rintro e w8 ⟨rfl, hb8⟩
            have HB8 := hide ((unhide HB7).trans (hb8.mono (unhide HB7).size))
            clear hb8
            go_wp2_with fail
            refine (unhide H2 _).mono ?_
            rintro e w9 ⟨rfl, hb9⟩
            have HB9 := hide ((unhide HB8).trans (hb9.mono (unhide HB8).size))
            clear hb9
            go_wp2
            go_ret
            exact ⟨rfl, unhide HB9⟩
          · go_wp2_with fail
            refine (at_any _ s w k (by omega) (by omega) (by omega)).mono ?_
            rintro e w5 ⟨rfl, hw5⟩
            replace hw5 := hw5.symm
            subst hw5
            go_wp2_with fail
            refine (unhide HN _).mono ?_
            rintro e w6 ⟨rfl, hb6⟩
            have HB6 := hide ((unhide HB3).trans (hb6.mono (unhide HB3).size))
            clear hb6
            go_wp2_with fail
            refine (unhide H1 _).mono ?_
            rintro e w7 ⟨rfl, hb7⟩
            have HB7 := hide ((unhide HB6).trans (hb7.mono (unhide HB6).size))
            clear hb7
            go_wp2_with fail
            refine (unhide HN _).mono ?_
            rintro e w8 ⟨rfl, hb8⟩
            have HB8 := hide ((unhide HB7).trans (hb8.mono (unhide HB7).size))
            clear hb8
            go_wp2_with fail
            refine (unhide H2 _).mono ?_
            rintro e w9 ⟨rfl, hb9⟩
            have HB9 := hide ((unhide HB8).trans (hb9.mono (unhide HB8).size))
            clear hb9
            go_wp2
            go_ret
            exact ⟨rfl, unhide HB9⟩
    · have hin : ¬ s[k]? = some c := by rw [List.getElem?_eq_none (by omega)]; simp
      have hkK : k = K := (run_stop hin).symm.trans (unhide HR)
      subst hkK
      clear hcut hin HR
      by_cases hA : standsB s k w = true
      · by_cases hB : 0 < k
        · rw [if_pos hA] at H1
          rw [if_pos ⟨hB, hA⟩] at H2
          simp only [Int.natCast_add] at H1 H2
          have hA2 := stands_len (by omega) hA
          go_wp2_with fail
          refine (at_any _ s w k (by omega) (by omega) (by omega)).mono ?_
          rintro e w5 ⟨rfl, hw5⟩
          replace hw5 := hw5.symm
          subst hw5
          go_wp2_with fail
          refine (unhide HN _).mono ?_
          rintro e w6 ⟨rfl, hb6⟩
          have HB6 := hide ((unhide HB3).trans (hb6.mono (unhide HB3).size))
          clear hb6
          go_wp2_with fail
          refine (unhide H1 _).mono ?_
          rintro e w7 ⟨rfl, hb7⟩
          have HB7 := hide ((unhide HB6).trans (hb7.mono (unhide HB6).size))
          clear hb7
          go_wp2_with fail
          refine (unhide HN _).mono ?_
          rintro e w8 ⟨rfl, hb8⟩
          have HB8 := hide ((unhide HB7).trans (hb8.mono (unhide HB7).size))
          clear hb8
          go_wp2_with fail
          refine (unhide H2 _).mono ?_
          rintro e w9 ⟨rfl, hb9⟩
          have HB9 := hide ((unhide HB8).trans (hb9.mono (unhide HB8).size))
          clear hb9
          go_wp2
          go_ret
          exact ⟨rfl, unhide HB9⟩
        · rw [if_pos hA] at H1
          rw [if_neg (fun x => hB x.1)] at H2
          simp only [Int.natCast_add] at H1
          have hA2 := stands_len (by omega) hA
          go_wp2_with fail
          refine (at_any _ s w k (by omega) (by omega) (by omega)).mono ?_
          rintro e w5 ⟨rfl, hw5⟩
          replace hw5 := hw5.symm
          subst hw5
          go_wp2_with fail
          refine (unhide HN _).mono ?_
          rintro e w6 ⟨rfl, hb6⟩
          have HB6 := hide ((unhide HB3).trans (hb6.mono (unhide HB3).size))
          clear hb6
          go_wp2_with fail
          refine (unhide H1 _).mono ?_
          rintro e w7 ⟨rfl, hb7⟩
          have HB7 := hide ((unhide HB6).trans (hb7.mono (unhide HB6).size))
          clear hb7
          go_wp2_with fail
          refine (unhide HN _).mono ?_
          rintro e w8 ⟨rfl, hb8⟩
          have HB8 := hide ((unhide HB7).trans (hb8.mono (unhide HB7).size))
          clear hb8
          go_wp2_with fail
          refine (unhide H2 _).mono ?_
          rintro e w9 ⟨rfl, hb9⟩
          have HB9 := hide ((unhide HB8).trans (hb9.mono (unhide HB8).size))
          clear hb9
          go_wp2
          go_ret
          exact ⟨rfl, unhide HB9⟩
      · rw [if_neg hA] at H1
        rw [if_neg (fun x => hA x.2)] at H2
        have hA2 : standsB s k w = false := by simpa using hA
        clear hA
        by_cases hB : 0 < k
        · go_wp2_with fail
          refine (at_any _ s w k (by omega) (by omega) (by omega)).mono ?_
          rintro e w5 ⟨rfl, hw5⟩
          replace hw5 := hw5.symm
          subst hw5
          go_wp2_with fail
          refine (unhide HN _).mono ?_
          rintro e w6 ⟨rfl, hb6⟩
          have HB6 := hide ((unhide HB3).trans (hb6.mono (unhide HB3).size))
          clear hb6
          go_wp2_with fail
          refine (unhide H1 _).mono ?_
          rintro e w7 ⟨rfl, hb7⟩
          have HB7 := hide ((unhide HB6).trans (hb7.mono (unhide HB6).size))
          clear hb7
          go_wp2_with fail
          refine (unhide HN _).mono ?_
          rintro e w8 ⟨rfl, hb8⟩
          have HB8 := hide ((unhide HB7).trans (hb8.mono (unhide HB7).size))
          clear hb8
          go_wp2_with fail
          refine (unhide H2 _).mono ?_
          rintro e w9 ⟨rfl, hb9⟩
          have HB9 := hide ((unhide HB8).trans (hb9.mono (unhide HB8).size))
          clear hb9
          go_wp2
          go_ret
          exact ⟨rfl, unhide HB9⟩
        · go_wp2_with fail
          refine (at_any _ s w k (by omega) (by omega) (by omega)).mono ?_
          rintro e w5 ⟨rfl, hw5⟩
          replace hw5 := hw5.symm
          subst hw5
          go_wp2_with fail
          refine (unhide HN _).mono ?_
          rintro e w6 ⟨rfl, hb6⟩
          have HB6 := hide ((unhide HB3).trans (hb6.mono (unhide HB3).size))
          clear hb6
          go_wp2_with fail
          refine (unhide H1 _).mono ?_
          rintro e w7 ⟨rfl, hb7⟩
          have HB7 := hide ((unhide HB6).trans (hb7.mono (unhide HB6).size))
          clear hb7
          go_wp2_with fail
          refine (unhide HN _).mono ?_
          rintro e w8 ⟨rfl, hb8⟩
          have HB8 := hide ((unhide HB7).trans (hb8.mono (unhide HB7).size))
          clear hb8
          go_wp2_with fail
          refine (unhide H2 _).mono ?_
          rintro e w9 ⟨rfl, hb9⟩
          have HB9 := hide ((unhide HB8).trans (hb9.mono (unhide HB8).size))
          clear hb9
          go_wp2
          go_ret
          exact ⟨rfl, unhide HB9⟩
end Go.Proofs.YtbojcemamhiodaaGreatDoor
