import Derived.Test.YtbojcemamhiodabGreatDoorKps
import Derived.Test.YtbojcemamhiodabGreatDoorLks
import Derived.Test.YtbojcemamhiodabGreatDoorMat
import Derived.Test.YtbojcemamhiodabGreatDoorFam5
import Derived.Test.YtbojcemamhiodabGreatDoorNm
namespace Go.Proofs.YtbojcemamhiodabGreatDoor
open Go.RowKit

theorem all_size : allB.size = 256 := by decide +kernel
theorem all_at : ∀ n : Nat, n < 256 → bAt allB n = n := by decide +kernel
theorem all_all (c : UInt8) : ∃ j : Nat, j < allB.size ∧ bAt allB j = c.toNat := ⟨c.toNat, by rw [all_size]; exact c.toNat_lt, all_at _ c.toNat_lt⟩
/-- where u stands last of all, d places from the end on looked at -/
def backTo (s u : List UInt8) : Nat → Int
  | 0 => -1
  | d + 1 => if standsB s (s.length - d) u = true then ((s.length - d + u.length : Nat) : Int) else backTo s u d
theorem back_first (s u : List UInt8) : ∀ d : Nat, d ≤ s.length → firstTo s u d (s.length - d) = backTo s u (d + 1)
  | 0, _ => rfl
  | d + 1, h => by
    unfold firstTo backTo
    have ih := back_first s u d (by omega)
    rw [show s.length - (d + 1) + 1 = s.length - d from by omega, ih]
theorem back_ok (s u : List UInt8) : ∀ d : Nat, d ≤ s.length + 1 → -1 ≤ backTo s u d ∧ backTo s u d ≤ s.length
  | 0, _ => by unfold backTo; omega
  | d + 1, h => by
    have ih := back_ok s u d (by omega)
    unfold backTo
    split
    · rename_i hs
      have := stands_len (by omega) hs
      omega
    · exact ih
def askF (u : List UInt8) : ByteArray := ⟨#[114, 32, 60, 45, 32, 39]⟩ ++ bl u ++ ⟨#[39, 32, 123, 125, 32, 47, 32, 46, 32, 114]⟩
theorem askF_text (u : List UInt8) : askF u = bl (textF u) := by
  unfold askF
  rw [show (⟨#[114, 32, 60, 45, 32, 39]⟩ : ByteArray) = bl [114, 32, 60, 45, 32, 39] from rfl, show (⟨#[39, 32, 123, 125, 32, 47, 32, 46, 32, 114]⟩ : ByteArray) = bl [39, 32, 123, 125, 32, 47, 32, 46, 32, 114] from rfl]
  simp only [bl_app]
  congr 1
theorem wr_place (a : Int) : wrL [.mk a (-1) [] []] = decC a := by
  show wrC _ ++ wrC.rest [] = _
  rw [wrC_place]
  unfold wrC.rest
  simp
theorem decC_len (a : Int) : (decC a).length ≤ 2 := by unfold decC; split <;> simp
theorem first_ask (W : World) (u s : List UInt8) (k : Nat) (r : Int) (cs : ByteArray) (hu : u.all isPlain = true) (hlu : u.length ≤ 5) (hls : s.length ≤ 60) (hk : k ≤ s.length) (hr : r = firstTo s u (s.length - k) k) (hcs : r ≠ -1 → cs = ⟨(decC r).toArray⟩) :
    Calls Tryz.prog 11 #[.string (askF u), .string (bl s), .int .i64 k, .int .i64 r, .string cs] W fun e w' => e = .returned (.bool true) ∧ Below W.heap.size W w' := by
  rw [askF_text]
  have hlen : (textF u).length = 16 + u.length := by simp [textF]; omega
  have hm := first_all (s := s) (u := u) (all := allB) (r := bl [114]) all_all (s.length - k) k (by omega)
  rw [← hr] at hm
  have hdl := decC_len r
  refine matches_any W _ _ _ k r 3 3 (TF u allB (bl [114])) [.mk r (-1) [] []] (by rw [bl_size, hlen]; omega) (compile_first u hu (by omega)) (by rw [parse_first u hu (by omega)]; exact build_first u) (by simp [TF]) ?_ (by rw [bl_size]; omega) (by omega) (by rw [bl_size]; omega) hm.1 (fun hne => ⟨hm.2 hne, by rw [wr_place]; omega, by rw [wr_place]; exact hcs hne⟩)
  intro t ht
  simp only [TF, List.mem_cons, List.not_mem_nil, or_false] at ht
  rcases ht with rfl | rfl | rfl | rfl | rfl | rfl | rfl
  all_goals first | (show (bl u).size ≤ 400; rw [bl_size]; omega) | (show allB.size ≤ 400; rw [all_size]; omega) | (show (bl [114]).size ≤ 400; rw [bl_size]; simp) | simp
theorem compile_a : compileF 3 3 ⟨#[114, 32, 60, 45, 32, 39, 97, 39]⟩ = some (0, 0) := by decide +kernel

set_option maxRecDepth 4000 in
set_option maxHeartbeats 1000000 in
theorem first_any (W : World) (a b : ByteArray) (c : Int) (ha : a.size ≤ 9223372036854775807) (hb : b.size ≤ 9223372036854775807) (hc0 : -9223372036854775808 ≤ c) (hc1 : c ≤ 9223372036854775807) :
    Calls Tryz.prog 3 #[.string a, .string b, .int .i64 c] W fun e w' => e = .returned (.bool true) ∧ Below W.heap.size W w' := by
  obtain ⟨u, hu⟩ : ∃ u, (abcL a.data.toList).take 5 = u := ⟨_, rfl⟩
  obtain ⟨s, hs⟩ : ∃ s, abcL b.data.toList = s := ⟨_, rfl⟩
  have hlu : u.length ≤ 5 := by rw [← hu]; simp; omega
  have hls : s.length ≤ 60 := by rw [← hs]; exact abcL_len _
  have hup : u.all isPlain = true := by rw [← hu]; exact abcT_plain _ 5
  have N1 := hide (fun W : World => short_any W a 5 (by omega) ha)
  have N2 := hide (fun W : World => abc_any W b hb)
  rw [hu] at N1
  rw [hs] at N2
  clear hu hs ha hb
  have hzu := bl_size u
  have hzs := bl_size s
  by_cases hout : c < 0 ∨ (s.length : Int) < c
  · have HC := hide (fun W : World => compile_any W 3 3 ⟨#[114, 32, 60, 45, 32, 39, 97, 39]⟩ (0, 0) (by decide) compile_a)
    have HM := hide (fun (W : World) (P : Value) => Match_arg W P (bl s) c (by omega) (by omega))
    have hd : decide (c < 0) = true ∨ (decide (c < 0) = false ∧ decide ((s.length : Int) < c) = true) := by
      by_cases h : c < 0
      · exact .inl (by simpa using h)
      · exact .inr ⟨by simpa using h, by simp; omega⟩
    clear hout hup
    rcases hd with hd | ⟨hd, hd2⟩
    all_goals
      go_enter Tryz.func3, Tryz.ntmps3
      go_wp2_with fail
      refine (unhide N1 _).mono ?_
      rintro e w1 ⟨rfl, hb1⟩
      have HB1 := hide hb1
      clear hb1
      go_wp2_with fail
      refine (unhide N2 _).mono ?_
      rintro e w2 ⟨rfl, hb2⟩
      have HB2 := hide ((unhide HB1).trans (hb2.mono (unhide HB1).size))
      clear hb2
      go_wp2_with fail
      refine (unhide HC _).mono ?_
      rintro e w3 ⟨p, rfl, hb3, hcc⟩
      rcases hcc with ⟨h, _⟩ | ⟨_, G, nv, tv, rfl, hgm⟩
      · exact absurd rfl h
      have HB3 := hide ((unhide HB2).trans (hb3.mono (unhide HB2).size))
      clear hb3 hgm
      go_wp2_with fail
      refine (unhide HM _ _).mono ?_
      rintro e w4 ⟨rfl, hb4⟩
      have HB4 := hide ((unhide HB3).trans (hb4.mono (unhide HB3).size))
      clear hb4
      go_wp2
      go_ret
      exact ⟨rfl, unhide HB4⟩
  · obtain ⟨k, rfl⟩ : ∃ k : Nat, c = k := ⟨c.toNat, by omega⟩
    have hk : k ≤ s.length := by omega
    have hkI : (k : Int) ≤ s.length := by omega
    have HA := hide (fun (W : World) (r : Int) (cs : ByteArray) => first_ask W u s k r cs hup hlu hls hk)
    have HE := hide (back_first s u (s.length - k) (by omega))
    rw [show s.length - (s.length - k) = k from by omega] at HE
    have hnk : decide (s.length < k) = false := by simp; omega
    have hnk0 : decide ((k : Int) < 0) = false := by simp
    clear hout hup hc0 hc1
    go_enter Tryz.func3, Tryz.ntmps3
    go_wp2_with fail
    refine (unhide N1 _).mono ?_
    rintro e w1 ⟨rfl, hb1⟩
    have HB1 := hide hb1
    clear hb1
    go_wp2_with fail
    refine (unhide N2 _).mono ?_
    rintro e w2 ⟨rfl, hb2⟩
    have HB2 := hide ((unhide HB1).trans (hb2.mono (unhide HB1).size))
    clear hb2
    go_wp2_with fail
    go_loopw [13, 14] (fun t i wr => ∃ d : Nat, d ≤ s.length + 1 - k ∧ t = .int .i64 (backTo s u d) ∧ i = .int .i64 ((s.length : Int) - d) ∧ Hid (Below W.heap.size W wr)) (fun _ i _ => (intOf i + 1).toNat)
    case atStart => exact ⟨0, by omega, rfl, by simp, HB2⟩
    case round =>
      obtain ⟨d, hd, rfl, rfl, HBR⟩ := hrel
      clear HB2
      have HB2 := HBR
      clear HBR
      have hbo := back_ok s u d (by omega)
      by_cases hlt : d < s.length + 1 - k
      · have hge : (k : Int) ≤ (s.length : Int) - d := by omega
        obtain ⟨i, hi⟩ : ∃ i : Nat, i = s.length - d := ⟨_, rfl⟩
        have hiI : (s.length : Int) - d = i := by omega
        have hil : i ≤ s.length := by omega
        have HU : Hid (backTo s u (d + 1) = if standsB s i u = true then ((i + u.length : Nat) : Int) else backTo s u d) := by rw [hi]; rfl
        rw [hiI] at hge ⊢
        have Hi := hide hi
        clear hi
        cases hst : standsB s i u
        · rw [hst, if_neg (by simp)] at HU
          go_wp2_with fail
          go_at_call 10
          refine (at_any _ s u i (by omega) (by omega) (by omega)).mono ?_
          rintro e w3 ⟨rfl, hw3⟩
          replace hw3 := hw3.symm
          subst hw3
          go_wp2_with fail
          go_roundw
          case rel => exact ⟨d + 1, by omega, by rw [unhide HU], by have := unhide Hi; go_num, HB2⟩
          case measure => simp [intOf] <;> omega
        · rw [hst, if_pos rfl] at HU
          have hsl := stands_len (by omega) hst
          go_wp2_with fail
          go_at_call 10
          refine (at_any _ s u i (by omega) (by omega) (by omega)).mono ?_
          rintro e w3 ⟨rfl, hw3⟩
          replace hw3 := hw3.symm
          subst hw3
          go_wp2_with fail
          go_roundw
          case rel => exact ⟨d + 1, by omega, by rw [unhide HU]; go_num, by have := unhide Hi; go_num, HB2⟩
          case measure => simp [intOf] <;> omega
      · have hdd : d = s.length - k + 1 := by omega
        subst hdd
        obtain ⟨r, hr⟩ : ∃ r, backTo s u (s.length - k + 1) = r := ⟨_, rfl⟩
        rw [hr] at hbo HE ⊢
        have hlt2 : ((s.length : Int) - ((s.length - k + 1 : Nat) : Int)) < k := by omega
        obtain ⟨j, hj⟩ : ∃ j : Int, j = (s.length : Int) - ((s.length - k + 1 : Nat) : Int) := ⟨_, rfl⟩
        rw [← hj] at hlt2 ⊢
        have hj2 : -1 ≤ j := by omega
        clear hr hj hd hlt
        by_cases hm : r = -1
        · subst hm
          have HN := hide (fun W : World => number_any 0 W (by omega))
          have HQ := hide (fun W : World => unhide HA W (-1) ⟨(decC 0).toArray⟩ (unhide HE).symm (fun e => absurd rfl e))
          go_wp2_with fail
          refine (unhide HN _).mono ?_
          rintro e w3 ⟨rfl, hb3⟩
          have HB3 := hide ((unhide HB2).trans (hb3.mono (unhide HB2).size))
          clear hb3
          go_wp2_with fail
          refine (unhide HQ _).mono ?_
          rintro e w4 ⟨rfl, hb4⟩
          have HB4 := hide ((unhide HB3).trans (hb4.mono (unhide HB3).size))
          clear hb4
          go_wp2
          go_ret
          exact ⟨rfl, unhide HB4⟩
        · obtain ⟨n, rfl⟩ : ∃ n : Nat, r = n := ⟨r.toNat, by omega⟩
          have HN := hide (fun W : World => number_any n W (by omega))
          have HQ := hide (fun W : World => unhide HA W n ⟨(decC n).toArray⟩ (unhide HE).symm (fun _ => rfl))
          clear hm
          go_wp2_with fail
          refine (unhide HN _).mono ?_
          rintro e w3 ⟨rfl, hb3⟩
          have HB3 := hide ((unhide HB2).trans (hb3.mono (unhide HB2).size))
          clear hb3
          go_wp2_with fail
          refine (unhide HQ _).mono ?_
          rintro e w4 ⟨rfl, hb4⟩
          have HB4 := hide ((unhide HB3).trans (hb4.mono (unhide HB3).size))
          clear hb4
          go_wp2
          go_ret
          exact ⟨rfl, unhide HB4⟩
end Go.Proofs.YtbojcemamhiodabGreatDoor
