import Derived.Test.YtbojcemamhiodaaGreatDoorKps
import Derived.Test.YtbojcemamhiodaaGreatDoorLks
import Derived.Test.YtbojcemamhiodaaGreatDoorMat
import Derived.Test.YtbojcemamhiodaaGreatDoorFam6
namespace Go.Proofs.YtbojcemamhiodaaGreatDoor
open Go.RowKit

def askL1 (u : List UInt8) : ByteArray := ⟨#[114, 32, 60, 45, 32, 38, 123, 39]⟩ ++ bl u ++ ⟨#[39, 125, 32, 123, 125]⟩
def askL2 (u : List UInt8) : ByteArray := ⟨#[114, 32, 60, 45, 32, 33, 40, 123, 39]⟩ ++ bl u ++ ⟨#[39, 125, 32, 123, 125, 41, 32, 123, 125]⟩
theorem askL1_text (u : List UInt8) : askL1 u = bl (textL1 u) := by
  unfold askL1
  rw [show (⟨#[114, 32, 60, 45, 32, 38, 123, 39]⟩ : ByteArray) = bl [114, 32, 60, 45, 32, 38, 123, 39] from rfl, show (⟨#[39, 125, 32, 123, 125]⟩ : ByteArray) = bl [39, 125, 32, 123, 125] from rfl]
  simp only [bl_app]
  congr 1
theorem askL2_text (u : List UInt8) : askL2 u = bl (textL2 u) := by
  unfold askL2
  rw [show (⟨#[114, 32, 60, 45, 32, 33, 40, 123, 39]⟩ : ByteArray) = bl [114, 32, 60, 45, 32, 33, 40, 123, 39] from rfl, show (⟨#[39, 125, 32, 123, 125, 41, 32, 123, 125]⟩ : ByteArray) = bl [39, 125, 32, 123, 125, 41, 32, 123, 125] from rfl]
  simp only [bl_app]
  congr 1
theorem wr0 : wrL [.mk 0 (-1) [] []] = [48] := by decide +kernel
theorem len400 (l : List UInt8) (h : l.length ≤ 5) : (bl l).size ≤ 400 := by rw [bl_size]; omega

theorem looks1_ask (W : World) (u s : List UInt8) (hu : u.all isPlain = true) (hlu : u.length ≤ 5) (hls : s.length ≤ 60) (r : Int) (hr : r = if standsB s 0 u = true then 0 else -1) :
    Calls Tryz.prog 24 #[.string (askL1 u), .string (bl s), .int .i64 0, .int .i64 r, .string ⟨#[48]⟩] W fun e w' => e = .returned (.bool true) ∧ Below W.heap.size W w' := by
  rw [askL1_text]
  have hlen : (textL1 u).length = 13 + u.length := by simp [textL1]; omega
  have hm : Mr (TL1 u) (bl s) 0 0 r ∧ (r ≠ -1 → Cr (TL1 u) (bl s) 0 0 [.mk 0 (-1) [] []]) := by
    by_cases h : standsB s 0 u = true
    · rw [if_pos h] at hr
      subst hr
      exact ⟨(looks1_yes s u h).1, fun _ => (looks1_yes s u h).2⟩
    · rw [if_neg h] at hr
      subst hr
      exact ⟨looks1_no s u (by simpa using h), fun e => absurd rfl e⟩
  refine matches_any W _ _ _ 0 r 4 3 (TL1 u) [.mk 0 (-1) [] []] (by rw [bl_size, hlen]; omega) (compile_looks1 u hu (by omega)) (by rw [parse_looks1 u hu (by omega)]; exact build_looks1 u) (by simp [TL1]) ?_ (by rw [bl_size]; omega) (by omega) (by omega) hm.1 (fun hne => ⟨hm.2 hne, by rw [wr0]; decide, by rw [wr0]⟩)
  intro t ht
  simp only [TL1, List.mem_cons, List.not_mem_nil, or_false] at ht
  rcases ht with rfl | rfl | rfl | rfl | rfl
  all_goals first | exact len400 u hlu | simp
theorem looks2_ask (W : World) (u s : List UInt8) (hu : u.all isPlain = true) (hlu : u.length ≤ 5) (hls : s.length ≤ 60) (r : Int) (hr : r = if standsB s 0 u = true then -1 else 0) :
    Calls Tryz.prog 24 #[.string (askL2 u), .string (bl s), .int .i64 0, .int .i64 r, .string ⟨#[48]⟩] W fun e w' => e = .returned (.bool true) ∧ Below W.heap.size W w' := by
  rw [askL2_text]
  have hlen : (textL2 u).length = 18 + u.length := by simp [textL2]; omega
  have hm : Mr (TL2 u) (bl s) 0 0 r ∧ (r ≠ -1 → Cr (TL2 u) (bl s) 0 0 [.mk 0 (-1) [] []]) := by
    by_cases h : standsB s 0 u = true
    · rw [if_pos h] at hr
      subst hr
      exact ⟨looks2_no s u h, fun e => absurd rfl e⟩
    · rw [if_neg h] at hr
      subst hr
      exact ⟨(looks2_yes s u (by simpa using h)).1, fun _ => (looks2_yes s u (by simpa using h)).2⟩
  refine matches_any W _ _ _ 0 r 5 3 (TL2 u) [.mk 0 (-1) [] []] (by rw [bl_size, hlen]; omega) (compile_looks2 u hu (by omega)) (by rw [parse_looks2 u hu (by omega)]; exact build_looks2 u) (by simp [TL2]) ?_ (by rw [bl_size]; omega) (by omega) (by omega) hm.1 (fun hne => ⟨hm.2 hne, by rw [wr0]; decide, by rw [wr0]⟩)
  intro t ht
  simp only [TL2, List.mem_cons, List.not_mem_nil, or_false] at ht
  rcases ht with rfl | rfl | rfl | rfl | rfl | rfl | rfl
  all_goals first | exact len400 u hlu | simp

set_option maxRecDepth 4000 in
set_option maxHeartbeats 2000000 in
theorem looks_any (W : World) (a b : ByteArray) (ha : a.size ≤ 9223372036854775807) (hb : b.size ≤ 9223372036854775807) :
    Calls Tryz.prog 11 #[.string a, .string b] W fun e w' => e = .returned (.bool true) ∧ Below W.heap.size W w' := by
  obtain ⟨u, hu⟩ : ∃ u, (abcL a.data.toList).take 5 = u := ⟨_, rfl⟩
  obtain ⟨s, hs⟩ : ∃ s, abcL b.data.toList = s := ⟨_, rfl⟩
  have hlu : u.length ≤ 5 := by rw [← hu]; simp; omega
  have hls : s.length ≤ 60 := by rw [← hs]; exact abcL_len _
  have hup : u.all isPlain = true := by rw [← hu]; exact abcT_plain _ 5
  have N1 := hide (fun W : World => short_any W a 5 (by omega) ha)
  have N2 := hide (fun W : World => abc_any W b hb)
  rw [hu] at N1
  rw [hs] at N2
  have H1 := hide (fun W : World => looks1_ask W u s hup hlu hls _ rfl)
  have H2 := hide (fun W : World => looks2_ask W u s hup hlu hls _ rfl)
  clear hu hs ha hb hup
  have hzu := bl_size u
  have hzs := bl_size s
  by_cases hA : standsB s 0 u = true
  · rw [if_pos hA] at H1 H2
    go_enter Tryz.func11, Tryz.ntmps11
    go_wp2_with fail
    refine (unhide N1 _).mono ?_
    rintro e w1 ⟨rfl, hb1⟩
    have HB1 := hide hb1
    clear hb1
    go_wp2_with fail
    refine (unhide N2 _).mono ?_
    rintro e w2 ⟨rfl, hb2⟩
    have HB2 := hide ((unhide HB1).trans (hb2.mono (unhide HB1).size))
    clear hb2
    go_wp2_with fail
    refine (at_any _ s u 0 (by omega) (by omega) (by omega)).mono ?_
    rintro e w3 ⟨rfl, hw3⟩
    replace hw3 := hw3.symm
    subst hw3
    go_wp2_with fail
    refine (unhide H1 _).mono ?_
    rintro e w4 ⟨rfl, hb4⟩
    have HB4 := hide ((unhide HB2).trans (hb4.mono (unhide HB2).size))
    clear hb4
    go_wp2_with fail
    refine (unhide H2 _).mono ?_
    rintro e w5 ⟨rfl, hb5⟩
    have HB5 := hide ((unhide HB4).trans (hb5.mono (unhide HB4).size))
    clear hb5
    go_wp2
    go_ret
    exact ⟨rfl, unhide HB5⟩
  · rw [if_neg hA] at H1 H2
    have hA' : standsB s 0 u = false := by simpa using hA
    clear hA
    go_enter Tryz.func11, Tryz.ntmps11
    go_wp2_with fail
    refine (unhide N1 _).mono ?_
    rintro e w1 ⟨rfl, hb1⟩
    have HB1 := hide hb1
    clear hb1
    go_wp2_with fail
    refine (unhide N2 _).mono ?_
    rintro e w2 ⟨rfl, hb2⟩
    have HB2 := hide ((unhide HB1).trans (hb2.mono (unhide HB1).size))
    clear hb2
    go_wp2_with fail
    refine (at_any _ s u 0 (by omega) (by omega) (by omega)).mono ?_
    rintro e w3 ⟨rfl, hw3⟩
    replace hw3 := hw3.symm
    subst hw3
    go_wp2_with fail
    refine (unhide H1 _).mono ?_
    rintro e w4 ⟨rfl, hb4⟩
    have HB4 := hide ((unhide HB2).trans (hb4.mono (unhide HB2).size))
    clear hb4
    go_wp2_with fail
    refine (unhide H2 _).mono ?_
    rintro e w5 ⟨rfl, hb5⟩
    have HB5 := hide ((unhide HB4).trans (hb5.mono (unhide HB4).size))
    clear hb5
    go_wp2
    go_ret
    exact ⟨rfl, unhide HB5⟩
end Go.Proofs.YtbojcemamhiodaaGreatDoor
