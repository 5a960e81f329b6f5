import Derived.Test.YtdofpbbahamkkaaTok2
namespace Go.Proofs.Ytdofpbbahamkkaa
open Go.RowKit

theorem nameEnd_yes {s : ByteArray} {n : Nat} {i : Int} (h : isNameC (bAt s i) = true) : nameEnd s (n + 1) i = nameEnd s n (i + 1) := if_pos h
theorem nameEnd_no {s : ByteArray} {n : Nat} {i : Int} (h : isNameC (bAt s i) = false) : nameEnd s n i = i := by
  cases n with
  | zero => rfl
  | succ n => exact if_neg (by simp [h])
theorem isNameC_cases (c : Int) : (isNameC c = false ∧ (c < 48 ∨ (57 < c ∧ c < 97) ∨ 122 < c)) ∨ (isNameC c = true ∧ 97 ≤ c ∧ c ≤ 122) ∨ (isNameC c = true ∧ 48 ≤ c ∧ c ≤ 57) := by
  unfold isNameC
  simp
  omega
theorem readNm_1 {s : ByteArray} {i j : Int} (h : nameEnd s (s.size + 1 - i.toNat) i = j) (h' : 8 < j - i) : readNm s i = (0, i) := by
  unfold readNm; rw [h, if_pos h']
theorem readNm_2 {s : ByteArray} {i j : Int} (h : nameEnd s (s.size + 1 - i.toNat) i = j) (h' : j - i ≤ 8) : readNm s i = (2, j) := by
  unfold readNm; rw [h, if_neg (by omega)]

set_option maxHeartbeats 1000000 in
theorem readName_any (s : ByteArray) (i : Int) (w : World) (hs : s.size ≤ 400) (h : 0 ≤ i) (h' : i ≤ s.size) :
    Calls Try.prog 71 #[.string s, .int .i64 i] w fun e w' => e = .returned (.tuple #[.int .i64 (readNm s i).1, .int .i64 (readNm s i).2]) ∧ w' = w := by
  go_enter Try.func71, Try.ntmps71
  go_wp2_with (first | (go_at_call 70; refine (byteAt_any _ _ _).mono ?_; rintro e w' ⟨rfl, rfl⟩))
  go_loop [6, 7] (fun a c => ∃ (j : Int) (n : Nat), i ≤ j ∧ j ≤ s.size ∧ (s.size : Int) < n + j ∧ a = .int .i64 j ∧ c = .int .i64 (bAt s j) ∧ Hid (nameEnd s (s.size + 1 - i.toNat) i = nameEnd s n j)) (fun a _ => (s.size - intOf a).toNat)
  case atStart => exact ⟨i, s.size + 1 - i.toNat, by omega, h', by omega, rfl, rfl, rfl⟩
  case round =>
    obtain ⟨j, n, h1, h2, h3, rfl, rfl, H⟩ := hrel
    rcases isNameC_cases (bAt s j) with ⟨hb, hc | ⟨hc, hd⟩ | hc⟩ | ⟨hb, hc, hd⟩ | ⟨hb, hc, hd⟩
    · have HE := hide ((unhide H).trans (nameEnd_no hb)); clear hb
      by_cases h8 : 8 < j - i
      · go_wp2
        go_ret2
        exact ⟨ret_ii (readNm_1 (unhide HE) h8), rfl⟩
      · go_wp2
        go_ret2
        exact ⟨ret_ii (readNm_2 (unhide HE) (by omega)), rfl⟩
    · have HE := hide ((unhide H).trans (nameEnd_no hb)); clear hb
      by_cases h8 : 8 < j - i
      · go_wp2
        go_ret2
        exact ⟨ret_ii (readNm_1 (unhide HE) h8), rfl⟩
      · go_wp2
        go_ret2
        exact ⟨ret_ii (readNm_2 (unhide HE) (by omega)), rfl⟩
    · have HE := hide ((unhide H).trans (nameEnd_no hb)); clear hb
      by_cases h8 : 8 < j - i
      · go_wp2
        go_ret2
        exact ⟨ret_ii (readNm_1 (unhide HE) h8), rfl⟩
      · go_wp2
        go_ret2
        exact ⟨ret_ii (readNm_2 (unhide HE) (by omega)), rfl⟩
    all_goals
      have hlt := bAt_in (s := s) (i := j) (by omega)
      obtain ⟨n, rfl⟩ : ∃ m, n = m + 1 := ⟨n - 1, by omega⟩
      have HE := hide ((unhide H).trans (nameEnd_yes hb)); clear hb
      go_wp2_with (first | (go_at_call 70; refine (byteAt_any _ _ _).mono ?_; rintro e w' ⟨rfl, rfl⟩))
      go_round
      case rel => exact ⟨j + 1, n, by omega, by omega, by omega, rfl, rfl, HE⟩
      case measure => simp [intOf]; omega

theorem readAr_1 {s : ByteArray} {i : Int} (h : bAt s (i + 1) = 45) : readAr s i = (3, i + 2) := if_pos h
theorem readAr_2 {s : ByteArray} {i : Int} (h : bAt s (i + 1) ≠ 45) : readAr s i = (0, i) := if_neg h

set_option maxHeartbeats 1000000 in
theorem readArrow_any (s : ByteArray) (i : Int) (w : World) (h : 0 ≤ i) (h' : i ≤ 1000) :
    Calls Try.prog 72 #[.string s, .int .i64 i] w fun e w' => e = .returned (.tuple #[.int .i64 (readAr s i).1, .int .i64 (readAr s i).2]) ∧ w' = w := by
  by_cases h1 : bAt s (i + 1) = 45
  · have b1 : (bAt s (i + 1) != 45) = false := by simp [h1]
    have H1 := hide h1; clear h1
    go_enter Try.func72, Try.ntmps72
    go_wp2_with (first | (go_at_call 70; refine (byteAt_any _ _ _).mono ?_; rintro e w' ⟨rfl, rfl⟩))
    go_ret2
    exact ⟨ret_ii (readAr_1 (unhide H1)), rfl⟩
  · have b1 : (bAt s (i + 1) != 45) = true := by simp [h1]
    have H1 := hide h1; clear h1
    go_enter Try.func72, Try.ntmps72
    go_wp2_with (first | (go_at_call 70; refine (byteAt_any _ _ _).mono ?_; rintro e w' ⟨rfl, rfl⟩))
    go_ret2
    exact ⟨ret_ii (readAr_2 (unhide H1)), rfl⟩

theorem wordEnd_1 {s : ByteArray} {n : Nat} {i : Int} (h : bAt s i = 39) : wordEnd s (n + 1) i = some i := if_pos h
theorem wordEnd_2 {s : ByteArray} {n : Nat} {i : Int} (h : bAt s i ≠ 39) (h' : (wordC s i).1 < 0) : wordEnd s (n + 1) i = none := by
  unfold wordEnd; rw [if_neg h, if_pos h']
theorem wordEnd_3 {s : ByteArray} {n : Nat} {i : Int} (h : bAt s i ≠ 39) (h' : 0 ≤ (wordC s i).1) : wordEnd s (n + 1) i = wordEnd s n (wordC s i).2 := by
  rw [wordEnd, if_neg h, if_neg (by omega)]
theorem readWd_1 {s : ByteArray} {i j : Int} (h : wordEnd s (s.size + 1 - i.toNat) (i + 1) = some j) : readWd s i = (4, j + 1) := by
  unfold readWd; rw [h]
theorem readWd_2 {s : ByteArray} {i : Int} (h : wordEnd s (s.size + 1 - i.toNat) (i + 1) = none) : readWd s i = (0, i) := by
  unfold readWd; rw [h]

set_option maxHeartbeats 1000000 in
theorem readWord_any (s : ByteArray) (i : Int) (w : World) (hs : s.size ≤ 400) (h : 0 ≤ i) (h' : i < s.size) :
    Calls Try.prog 73 #[.string s, .int .i64 i] w fun e w' => e = .returned (.tuple #[.int .i64 (readWd s i).1, .int .i64 (readWd s i).2]) ∧ w' = w := by
  go_enter Try.func73, Try.ntmps73
  go_wp2
  go_loop [6] (fun a => ∃ (j : Int) (n : Nat), i ≤ j ∧ j ≤ s.size ∧ (s.size : Int) < n + j ∧ a = .int .i64 j ∧ Hid (wordEnd s (s.size + 1 - i.toNat) (i + 1) = wordEnd s n j)) (fun a => (s.size - intOf a).toNat)
  case atStart => exact ⟨i + 1, s.size + 1 - i.toNat, by omega, by omega, by omega, rfl, rfl⟩
  case round =>
    obtain ⟨j, n, h1, h2, h3, rfl, H⟩ := hrel
    obtain ⟨n, rfl⟩ : ∃ m, n = m + 1 := ⟨n - 1, by omega⟩
    by_cases hq : bAt s j = 39
    · have HE := hide ((unhide H).trans (wordEnd_1 hq))
      have b1 : (bAt s j != 39) = false := by simp [hq]
      clear hq
      go_wp2_with (first | (go_at_call 70; refine (byteAt_any _ _ _).mono ?_; rintro e w' ⟨rfl, rfl⟩))
      go_ret2
      exact ⟨ret_ii (readWd_1 (unhide HE)), rfl⟩
    · have b1 : (bAt s j != 39) = true := by simp [hq]
      have hg := wordC_good s j
      unfold GoodC at hg
      by_cases hn : (wordC s j).1 < 0
      · have HE := hide ((unhide H).trans (wordEnd_2 hq hn))
        clear hq hg
        go_wp2_with (first | (go_at_call 70; refine (byteAt_any _ _ _).mono ?_; rintro e w' ⟨rfl, rfl⟩) | (go_at_call 84; refine (wordChar_any _ _ _ (by omega) (by omega)).mono ?_; rintro e w' ⟨rfl, rfl⟩))
        go_ret2
        exact ⟨ret_ii (readWd_2 (unhide HE)), rfl⟩
      · have HE := hide ((unhide H).trans (wordEnd_3 hq (by omega)))
        have hlo : j < (wordC s j).2 := by omega
        have hhi : (wordC s j).2 ≤ s.size := by omega
        clear hq hg
        go_wp2_with (first | (go_at_call 70; refine (byteAt_any _ _ _).mono ?_; rintro e w' ⟨rfl, rfl⟩) | (go_at_call 84; refine (wordChar_any _ _ _ (by omega) (by omega)).mono ?_; rintro e w' ⟨rfl, rfl⟩))
        go_round
        case rel => exact ⟨(wordC s j).2, n, by omega, by omega, by omega, rfl, HE⟩
        case measure => simp [intOf]; omega
end Go.Proofs.Ytdofpbbahamkkaa
