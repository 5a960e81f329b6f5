import Derived.Test.YtdofpbbahamkkaaTok
namespace Go.Proofs.Ytdofpbbahamkkaa
open Go.RowKit

theorem ret_pair {k l : IntKind} {r r' : Int × Int} (h : r' = r) : Ending.returned (.tuple #[.int k r.1, .int l r.2]) = .returned (.tuple #[.int k r'.1, .int l r'.2]) := by rw [h]
theorem wordC_1 {s : ByteArray} {i : Int} (h : bAt s i = 92) : wordC s i = escC s i (isWM (bAt s (i + 1))) := if_pos h
theorem wordC_2 {s : ByteArray} {i : Int} (h : bAt s i ≠ 92) : wordC s i = plainC (bAt s i) i (isWM (bAt s i)) := if_neg h
theorem setC_1 {s : ByteArray} {i : Int} (h : bAt s i = 92) : setC s i = escC s i (isSM (bAt s (i + 1))) := if_pos h
theorem setC_2 {s : ByteArray} {i : Int} (h : bAt s i ≠ 92) : setC s i = plainC (bAt s i) i (isSM (bAt s i)) := if_neg h

set_option maxHeartbeats 1000000 in
theorem wordChar_any (s : ByteArray) (i : Int) (w : World) (h : 0 ≤ i) (h' : i ≤ 1000) :
    Calls Try.prog 84 #[.string s, .int .i64 i] w fun e w' => e = .returned (.tuple #[.int .i64 (wordC s i).1, .int .i64 (wordC s i).2]) ∧ w' = w := by
  by_cases h1 : bAt s i = 92
  · have b1 : (bAt s i != 92) = false := by simp [h1]
    have H1 := hide h1; clear h1
    go_enter Try.func84, Try.ntmps84
    go_wp2_with (first | (go_at_call 70; refine (byteAt_any _ _ _).mono ?_; rintro e w' ⟨rfl, rfl⟩) | (go_at_call 89; refine (isWordMark_any _ _).mono ?_; rintro e w' ⟨rfl, rfl⟩) | (go_at_call 91; refine (escaped_any _ _ _ _ h h').mono ?_; rintro e w' ⟨rfl, rfl⟩))
    go_ret2
    exact ⟨ret_pair (wordC_1 (unhide H1)), rfl⟩
  · have b1 : (bAt s i != 92) = true := by simp [h1]
    have H1 := hide h1; clear h1
    go_enter Try.func84, Try.ntmps84
    go_wp2_with (first | (go_at_call 70; refine (byteAt_any _ _ _).mono ?_; rintro e w' ⟨rfl, rfl⟩) | (go_at_call 89; refine (isWordMark_any _ _).mono ?_; rintro e w' ⟨rfl, rfl⟩) | (go_at_call 90; refine (plain_any _ _ _ _ h h').mono ?_; rintro e w' ⟨rfl, rfl⟩))
    go_ret2
    exact ⟨ret_pair (wordC_2 (unhide H1)), rfl⟩

set_option maxHeartbeats 1000000 in
theorem setChar_any (s : ByteArray) (i : Int) (w : World) (h : 0 ≤ i) (h' : i ≤ 1000) :
    Calls Try.prog 92 #[.string s, .int .i64 i] w fun e w' => e = .returned (.tuple #[.int .i64 (setC s i).1, .int .i64 (setC s i).2]) ∧ w' = w := by
  by_cases h1 : bAt s i = 92
  · have b1 : (bAt s i != 92) = false := by simp [h1]
    have H1 := hide h1; clear h1
    go_enter Try.func92, Try.ntmps92
    go_wp2_with (first | (go_at_call 70; refine (byteAt_any _ _ _).mono ?_; rintro e w' ⟨rfl, rfl⟩) | (go_at_call 97; refine (isSetMark_any _ _).mono ?_; rintro e w' ⟨rfl, rfl⟩) | (go_at_call 91; refine (escaped_any _ _ _ _ h h').mono ?_; rintro e w' ⟨rfl, rfl⟩))
    go_ret2
    exact ⟨ret_pair (setC_1 (unhide H1)), rfl⟩
  · have b1 : (bAt s i != 92) = true := by simp [h1]
    have H1 := hide h1; clear h1
    go_enter Try.func92, Try.ntmps92
    go_wp2_with (first | (go_at_call 70; refine (byteAt_any _ _ _).mono ?_; rintro e w' ⟨rfl, rfl⟩) | (go_at_call 97; refine (isSetMark_any _ _).mono ?_; rintro e w' ⟨rfl, rfl⟩) | (go_at_call 90; refine (plain_any _ _ _ _ h h').mono ?_; rintro e w' ⟨rfl, rfl⟩))
    go_ret2
    exact ⟨ret_pair (setC_2 (unhide H1)), rfl⟩

/- skipBlanks -/
theorem skipN_yes {s : ByteArray} {n : Nat} {i : Int} (h : isBlank (bAt s i) = true) : skipN s (n + 1) i = skipN s n (i + 1) := if_pos h
theorem skipN_no {s : ByteArray} {n : Nat} {i : Int} (h : isBlank (bAt s i) = false) : skipN s n i = i := by
  cases n with
  | zero => rfl
  | succ n => exact if_neg (by simp [h])
theorem isBlank_def (c : Int) : isBlank c = (c == 32 || c == 10) := rfl

set_option maxHeartbeats 1000000 in
theorem skipBlanks_any (s : ByteArray) (i : Int) (w : World) (hs : s.size ≤ 400) (h : 0 ≤ i) (h' : i ≤ s.size) :
    Calls Try.prog 43 #[.string s, .int .i64 i] w fun e w' => e = .returned (.int .i64 (skip s i)) ∧ w' = w := by
  go_enter Try.func43, Try.ntmps43
  go_wp2_with (first | (go_at_call 70; refine (byteAt_any _ _ _).mono ?_; rintro e w' ⟨rfl, rfl⟩))
  go_loop [1, 5] (fun a c => ∃ (j : Int) (n : Nat), 0 ≤ j ∧ j ≤ s.size ∧ (s.size : Int) < n + j ∧ a = .int .i64 j ∧ c = .int .i64 (bAt s j) ∧ Hid (skip s i = skipN s n j)) (fun a _ => (s.size - intOf a).toNat)
  case atStart => exact ⟨i, s.size + 1 - i.toNat, h, h', by omega, rfl, rfl, rfl⟩
  case round =>
    obtain ⟨j, n, h1, h2, h3, rfl, rfl, H⟩ := hrel
    cases hb : isBlank (bAt s j)
    · have HE := hide (skipN_no (n := n) hb)
      rw [isBlank_def] at hb
      have b1 : (bAt s j == 32) = false := by cases hx : (bAt s j == 32) <;> simp_all
      have b2 : (bAt s j == 10) = false := by cases hx : (bAt s j == 10) <;> simp_all
      clear hb
      go_wp2
      go_ret
      exact ⟨ret_int (by rw [unhide H, unhide HE]), rfl⟩
    · have hlt := bAt_in (s := s) (i := j) (by rw [isBlank_def] at hb; simp at hb; omega)
      obtain ⟨n, rfl⟩ : ∃ m, n = m + 1 := ⟨n - 1, by omega⟩
      have HE := hide (skipN_yes (n := n) hb)
      rw [isBlank_def] at hb
      cases b1 : (bAt s j == 32)
      · have b2 : (bAt s j == 10) = true := by simpa [b1] using hb
        clear hb
        go_wp2_with (first | (go_at_call 70; refine (byteAt_any _ _ _).mono ?_; rintro e w' ⟨rfl, rfl⟩))
        go_round
        case rel => exact ⟨j + 1, n, by omega, by omega, by omega, rfl, rfl, by rw [unhide H, unhide HE]; rfl⟩
        case measure => simp [intOf]; omega
      · clear hb
        go_wp2_with (first | (go_at_call 70; refine (byteAt_any _ _ _).mono ?_; rintro e w' ⟨rfl, rfl⟩))
        go_round
        case rel => exact ⟨j + 1, n, by omega, by omega, by omega, rfl, rfl, by rw [unhide H, unhide HE]; rfl⟩
        case measure => simp [intOf]; omega
end Go.Proofs.Ytdofpbbahamkkaa
