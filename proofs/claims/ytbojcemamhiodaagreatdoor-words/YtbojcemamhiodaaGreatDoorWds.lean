import Derived.Test.YtbojcemamhiodaaGreatDoorKps
namespace Go.Proofs.YtbojcemamhiodaaGreatDoor
open Go.RowKit

/-- the text that Words asks -/
def askW (u v w : List UInt8) : ByteArray := ⟨#[114, 32, 60, 45, 32, 40, 39]⟩ ++ bl u ++ ⟨#[39, 32, 47, 32, 39]⟩ ++ bl v ++ ⟨#[39, 41, 32, 39]⟩ ++ bl w ++ ⟨#[39]⟩
set_option maxRecDepth 4000 in
set_option maxHeartbeats 2000000 in
theorem words_walk (W : World) (a b c d : ByteArray) (ha : a.size ≤ 9223372036854775807) (hb : b.size ≤ 9223372036854775807) (hc : c.size ≤ 9223372036854775807) (hd : d.size ≤ 9223372036854775807) (u v w s : List UInt8) (hu : (abcL a.data.toList).take 5 = u) (hv : (abcL b.data.toList).take 5 = v) (hw : (abcL c.data.toList).take 5 = w) (hs : abcL d.data.toList = s) (hlu : u.length ≤ 5) (hlv : v.length ≤ 5) (hlw : w.length ≤ 5) (hls : s.length ≤ 60)
    (HM : ∀ W : World, Calls Tryz.prog 24 #[.string (askW u v w), .string (bl s), .int .i64 0, .int .i64 (toW s u v w), .string ⟨#[]⟩] W fun e w' => e = .returned (.bool true) ∧ Below W.heap.size W w') :
    Calls Tryz.prog 9 #[.string a, .string b, .string c, .string d] W fun e w' => e = .returned (.bool true) ∧ Below W.heap.size W w' := by
  have N1 := hide (fun W : World => short_any W a 5 (by omega) ha)
  have N2 := hide (fun W : World => short_any W b 5 (by omega) hb)
  have N3 := hide (fun W : World => short_any W c 5 (by omega) hc)
  have N4 := hide (fun W : World => abc_any W d hd)
  rw [hu] at N1
  rw [hv] at N2
  rw [hw] at N3
  rw [hs] at N4
  have H5 := hide HM
  unfold toW at H5
  clear HM hu hv hw hs ha hb hc hd
  have hzu := bl_size u
  have hzv := bl_size v
  have hzw := bl_size w
  have hzs := bl_size s
  by_cases hA : standsB s 0 u = true
  · have hlA := stands_len (by omega) hA
    by_cases hB : standsB s u.length w = true
    · rw [if_pos hA, if_pos hB] at H5
      simp only [Int.natCast_add] at H5
      go_enter Tryz.func9, Tryz.ntmps9
      go_wp2_with fail
      refine (unhide N1 _).mono ?_
      rintro e w1 ⟨rfl, hb1⟩
      have HB1 := hide hb1
      clear hb1
      go_wp2_with fail
      refine (unhide N2 _).mono ?_
      rintro e w2 ⟨rfl, hb2⟩
      have HB2 := hide ((unhide HB1).trans (hb2.mono (unhide HB1).size))
      clear hb2
      go_wp2_with fail
      refine (unhide N3 _).mono ?_
      rintro e w3 ⟨rfl, hb3⟩
      have HB3 := hide ((unhide HB2).trans (hb3.mono (unhide HB2).size))
      clear hb3
      go_wp2_with fail
      refine (unhide N4 _).mono ?_
      rintro e w4 ⟨rfl, hb4⟩
      have HB4 := hide ((unhide HB3).trans (hb4.mono (unhide HB3).size))
      clear hb4
      go_wp2_with fail
      refine (at_any _ s u 0 (by omega) (by omega) (by omega)).mono ?_
      rintro e w5 ⟨rfl, hw5⟩
      replace hw5 := hw5.symm
      subst hw5
      go_wp2_with fail
      refine (at_any _ s w u.length (by omega) (by omega) (by omega)).mono ?_
      rintro e w5 ⟨rfl, hw5⟩
      replace hw5 := hw5.symm
      subst hw5
      go_wp2_with fail
      refine (unhide H5 _).mono ?_
      rintro e w6 ⟨rfl, hb6⟩
      have HB6 := hide ((unhide HB4).trans (hb6.mono (unhide HB4).size))
      clear hb6
      go_wp2
      go_ret
      exact ⟨rfl, unhide HB6⟩
    · rw [if_pos hA, if_neg hB] at H5
      have hB' : standsB s u.length w = false := by simpa using hB
      clear hB
      go_enter Tryz.func9, Tryz.ntmps9
      go_wp2_with fail
      refine (unhide N1 _).mono ?_
      rintro e w1 ⟨rfl, hb1⟩
      have HB1 := hide hb1
      clear hb1
      go_wp2_with fail
      refine (unhide N2 _).mono ?_
      rintro e w2 ⟨rfl, hb2⟩
      have HB2 := hide ((unhide HB1).trans (hb2.mono (unhide HB1).size))
      clear hb2
      go_wp2_with fail
      refine (unhide N3 _).mono ?_
      rintro e w3 ⟨rfl, hb3⟩
      have HB3 := hide ((unhide HB2).trans (hb3.mono (unhide HB2).size))
      clear hb3
      go_wp2_with fail
      refine (unhide N4 _).mono ?_
      rintro e w4 ⟨rfl, hb4⟩
      have HB4 := hide ((unhide HB3).trans (hb4.mono (unhide HB3).size))
      clear hb4
      go_wp2_with fail
      refine (at_any _ s u 0 (by omega) (by omega) (by omega)).mono ?_
      rintro e w5 ⟨rfl, hw5⟩
      replace hw5 := hw5.symm
      subst hw5
      go_wp2_with fail
      refine (at_any _ s w u.length (by omega) (by omega) (by omega)).mono ?_
      rintro e w5 ⟨rfl, hw5⟩
      replace hw5 := hw5.symm
      subst hw5
      go_wp2_with fail
      refine (unhide H5 _).mono ?_
      rintro e w6 ⟨rfl, hb6⟩
      have HB6 := hide ((unhide HB4).trans (hb6.mono (unhide HB4).size))
      clear hb6
      go_wp2
      go_ret
      exact ⟨rfl, unhide HB6⟩
  · by_cases hC : standsB s 0 v = true
    · have hlC := stands_len (by omega) hC
      by_cases hD : standsB s v.length w = true
      · rw [if_neg hA, if_pos hC, if_pos hD] at H5
        simp only [Int.natCast_add] at H5
        have hA' : standsB s 0 u = false := by simpa using hA
        clear hA
        go_enter Tryz.func9, Tryz.ntmps9
        go_wp2_with fail
        refine (unhide N1 _).mono ?_
        rintro e w1 ⟨rfl, hb1⟩
        have HB1 := hide hb1
        clear hb1
        go_wp2_with fail
        refine (unhide N2 _).mono ?_
        rintro e w2 ⟨rfl, hb2⟩
        have HB2 := hide ((unhide HB1).trans (hb2.mono (unhide HB1).size))
        clear hb2
        go_wp2_with fail
        refine (unhide N3 _).mono ?_
        rintro e w3 ⟨rfl, hb3⟩
        have HB3 := hide ((unhide HB2).trans (hb3.mono (unhide HB2).size))
        clear hb3
        go_wp2_with fail
        refine (unhide N4 _).mono ?_
        rintro e w4 ⟨rfl, hb4⟩
        have HB4 := hide ((unhide HB3).trans (hb4.mono (unhide HB3).size))
        clear hb4
        go_wp2_with fail
        refine (at_any _ s u 0 (by omega) (by omega) (by omega)).mono ?_
        rintro e w5 ⟨rfl, hw5⟩
        replace hw5 := hw5.symm
        subst hw5
        go_wp2_with fail
        refine (at_any _ s v 0 (by omega) (by omega) (by omega)).mono ?_
        rintro e w5 ⟨rfl, hw5⟩
        replace hw5 := hw5.symm
        subst hw5
        go_wp2_with fail
        refine (at_any _ s w v.length (by omega) (by omega) (by omega)).mono ?_
        rintro e w5 ⟨rfl, hw5⟩
        replace hw5 := hw5.symm
        subst hw5
        go_wp2_with fail
        refine (unhide H5 _).mono ?_
        rintro e w6 ⟨rfl, hb6⟩
        have HB6 := hide ((unhide HB4).trans (hb6.mono (unhide HB4).size))
        clear hb6
        go_wp2
        go_ret
        exact ⟨rfl, unhide HB6⟩
      · rw [if_neg hA, if_pos hC, if_neg hD] at H5
        have hA' : standsB s 0 u = false := by simpa using hA
        clear hA
        have hD' : standsB s v.length w = false := by simpa using hD
        clear hD
        go_enter Tryz.func9, Tryz.ntmps9
        go_wp2_with fail
        refine (unhide N1 _).mono ?_
        rintro e w1 ⟨rfl, hb1⟩
        have HB1 := hide hb1
        clear hb1
        go_wp2_with fail
        refine (unhide N2 _).mono ?_
        rintro e w2 ⟨rfl, hb2⟩
        have HB2 := hide ((unhide HB1).trans (hb2.mono (unhide HB1).size))
        clear hb2
        go_wp2_with fail
        refine (unhide N3 _).mono ?_
        rintro e w3 ⟨rfl, hb3⟩
        have HB3 := hide ((unhide HB2).trans (hb3.mono (unhide HB2).size))
        clear hb3
        go_wp2_with fail
        refine (unhide N4 _).mono ?_
        rintro e w4 ⟨rfl, hb4⟩
        have HB4 := hide ((unhide HB3).trans (hb4.mono (unhide HB3).size))
        clear hb4
        go_wp2_with fail
        refine (at_any _ s u 0 (by omega) (by omega) (by omega)).mono ?_
        rintro e w5 ⟨rfl, hw5⟩
        replace hw5 := hw5.symm
        subst hw5
        go_wp2_with fail
        refine (at_any _ s v 0 (by omega) (by omega) (by omega)).mono ?_
        rintro e w5 ⟨rfl, hw5⟩
        replace hw5 := hw5.symm
        subst hw5
        go_wp2_with fail
        refine (at_any _ s w v.length (by omega) (by omega) (by omega)).mono ?_
        rintro e w5 ⟨rfl, hw5⟩
        replace hw5 := hw5.symm
        subst hw5
        go_wp2_with fail
        refine (unhide H5 _).mono ?_
        rintro e w6 ⟨rfl, hb6⟩
        have HB6 := hide ((unhide HB4).trans (hb6.mono (unhide HB4).size))
        clear hb6
        go_wp2
        go_ret
        exact ⟨rfl, unhide HB6⟩
    · rw [if_neg hA, if_neg hC] at H5
      have hA' : standsB s 0 u = false := by simpa using hA
      clear hA
      have hC' : standsB s 0 v = false := by simpa using hC
      clear hC
      go_enter Tryz.func9, Tryz.ntmps9
      go_wp2_with fail
      refine (unhide N1 _).mono ?_
      rintro e w1 ⟨rfl, hb1⟩
      have HB1 := hide hb1
      clear hb1
      go_wp2_with fail
      refine (unhide N2 _).mono ?_
      rintro e w2 ⟨rfl, hb2⟩
      have HB2 := hide ((unhide HB1).trans (hb2.mono (unhide HB1).size))
      clear hb2
      go_wp2_with fail
      refine (unhide N3 _).mono ?_
      rintro e w3 ⟨rfl, hb3⟩
      have HB3 := hide ((unhide HB2).trans (hb3.mono (unhide HB2).size))
      clear hb3
      go_wp2_with fail
      refine (unhide N4 _).mono ?_
      rintro e w4 ⟨rfl, hb4⟩
      have HB4 := hide ((unhide HB3).trans (hb4.mono (unhide HB3).size))
      clear hb4
      go_wp2_with fail
      refine (at_any _ s u 0 (by omega) (by omega) (by omega)).mono ?_
      rintro e w5 ⟨rfl, hw5⟩
      replace hw5 := hw5.symm
      subst hw5
      go_wp2_with fail
      refine (at_any _ s v 0 (by omega) (by omega) (by omega)).mono ?_
      rintro e w5 ⟨rfl, hw5⟩
      replace hw5 := hw5.symm
      subst hw5
      go_wp2_with fail
      refine (unhide H5 _).mono ?_
      rintro e w6 ⟨rfl, hb6⟩
      have HB6 := hide ((unhide HB4).trans (hb6.mono (unhide HB4).size))
      clear hb6
      go_wp2
      go_ret
      exact ⟨rfl, unhide HB6⟩
end Go.Proofs.YtbojcemamhiodaaGreatDoor
