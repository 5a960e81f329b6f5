import Derived.Test.YtdofpbbahamkkaaRows
import Derived.Test.YtdofpbbahamkkaaPure
import Derived.WalkKit
import Derived.WalkSpells
import Derived.WalkLawsBesides
namespace Go.Proofs.Ytdofpbbahamkkaa
open Go.RowKit

theorem hide {p : Prop} (h : p) : Hid p := h
theorem unhide {p : Prop} (h : Hid p) : p := h
theorem wrap64_byte (b : UInt8) : wrap64 (b.toNat : Int) = b.toNat := by
  have := b.toNat_lt
  unfold wrap64; omega
theorem ret_int {k : IntKind} {a b : Int} (h : a = b) : Ending.returned (.int k a) = .returned (.int k b) := by rw [h]
theorem ret_bool {a b : Bool} (h : a = b) : Ending.returned (.bool a) = .returned (.bool b) := by rw [h]
theorem ret_ii {k l : IntKind} {a c : Int} {r : Int × Int} (h : r = (a, c)) : Ending.returned (.tuple #[.int k a, .int l c]) = .returned (.tuple #[.int k r.1, .int l r.2]) := by rw [h]

set_option maxHeartbeats 400000 in
theorem byteAt_any (s : ByteArray) (i : Int) (w : World) :
    Calls Try.prog 70 #[.string s, .int .i64 i] w fun e w' => e = .returned (.int .i64 (bAt s i)) ∧ w' = w := by
  by_cases h0 : i < 0
  · go_enter Try.func70, Try.ntmps70
    go_wp2
    go_ret
    exact ⟨ret_int (by rw [bAt, dif_neg (by omega)]), rfl⟩
  · by_cases h1 : i < s.size
    · go_enter Try.func70, Try.ntmps70
      go_wp2
      go_ret
      exact ⟨ret_int (by rw [bAt, dif_pos (by omega), wrap64_byte]), rfl⟩
    · go_enter Try.func70, Try.ntmps70
      go_wp2
      go_ret
      exact ⟨ret_int (by rw [bAt, dif_neg (by omega)]), rfl⟩

set_option maxHeartbeats 400000 in
theorem digitAt_any (s : ByteArray) (i : Int) (w : World) :
    Calls Try.prog 96 #[.string s, .int .i64 i] w fun e w' => e = .returned (.int .i64 (digit s i)) ∧ w' = w := by
  have hr := bAt_range s i
  unfold digit
  generalize hc : bAt s i = c at hr ⊢
  have Hc := hide hc; clear hc
  go_enter Try.func96, Try.ntmps96
  go_wp2_with (go_at_call 70; refine (byteAt_any _ _ _).mono ?_; rintro e w' ⟨rfl, rfl⟩; rw [unhide Hc])
  all_goals go_ret
  all_goals exact ⟨ret_int (by first | rfl | omega), rfl⟩

theorem isWM_def (c : Int) : isWM c = (c == 39 || c == 92) := rfl
theorem isSM_def (c : Int) : isSM c = (c == 93 || c == 92 || c == 45 || c == 94 || c == 91) := rfl

set_option maxHeartbeats 400000 in
theorem isWordMark_any (c : Int) (w : World) :
    Calls Try.prog 89 #[.int .i64 c] w fun e w' => e = .returned (.bool (isWM c)) ∧ w' = w := by
  rw [isWM_def]
  cases h1 : (c == 39) <;> cases h2 : (c == 92)
  all_goals
    go_enter Try.func89, Try.ntmps89
    go_wp2
    go_ret
    exact ⟨rfl, rfl⟩

set_option maxHeartbeats 400000 in
theorem isSetMark_any (c : Int) (w : World) :
    Calls Try.prog 97 #[.int .i64 c] w fun e w' => e = .returned (.bool (isSM c)) ∧ w' = w := by
  rw [isSM_def]
  cases h1 : (c == 93)
  · cases h2 : (c == 92)
    · cases h3 : (c == 45)
      · cases h4 : (c == 94)
        · cases h5 : (c == 91)
          all_goals
            go_enter Try.func97, Try.ntmps97
            go_wp2
            go_ret
            exact ⟨rfl, rfl⟩
        · go_enter Try.func97, Try.ntmps97
          go_wp2
          go_ret
          exact ⟨rfl, rfl⟩
      · go_enter Try.func97, Try.ntmps97
        go_wp2
        go_ret
        exact ⟨rfl, rfl⟩
    · go_enter Try.func97, Try.ntmps97
      go_wp2
      go_ret
      exact ⟨rfl, rfl⟩
  · go_enter Try.func97, Try.ntmps97
    go_wp2
    go_ret
    exact ⟨rfl, rfl⟩

theorem plainC_no {c i : Int} {m : Bool} (h : c < 32 ∨ 126 < c ∨ m = true) : plainC c i m = (-1, i) := if_pos h
theorem plainC_yes {c i : Int} {m : Bool} (h1 : 32 ≤ c) (h2 : c ≤ 126) (h3 : m = false) : plainC c i m = (c, i + 1) := if_neg (by subst h3; simp; omega)

set_option maxHeartbeats 400000 in
theorem plain_any (c i : Int) (m : Bool) (w : World) (h : 0 ≤ i) (h' : i ≤ 1000) :
    Calls Try.prog 90 #[.int .i64 c, .int .i64 i, .bool m] w fun e w' => e = .returned (.tuple #[.int .i64 (plainC c i m).1, .int .i64 (plainC c i m).2]) ∧ w' = w := by
  by_cases h1 : c < 32
  · go_enter Try.func90, Try.ntmps90
    go_wp2
    go_ret2
    exact ⟨ret_ii (plainC_no (.inl h1)), rfl⟩
  · by_cases h2 : 126 < c
    · go_enter Try.func90, Try.ntmps90
      go_wp2
      go_ret2
      exact ⟨ret_ii (plainC_no (.inr (.inl h2))), rfl⟩
    · cases m
      · go_enter Try.func90, Try.ntmps90
        go_wp2
        go_ret2
        exact ⟨ret_ii (plainC_yes (by omega) (by omega) rfl), rfl⟩
      · go_enter Try.func90, Try.ntmps90
        go_wp2
        go_ret2
        exact ⟨ret_ii (plainC_no (.inr (.inr rfl))), rfl⟩

theorem escC_1 {s : ByteArray} {i : Int} : escC s i true = (bAt s (i + 1), i + 2) := rfl
theorem escC_2 {s : ByteArray} {i : Int} (h : bAt s (i + 1) ≠ 120) : escC s i false = (-1, i) := by
  unfold escC; rw [if_neg (by simp), if_pos h]
theorem escC_3 {s : ByteArray} {i : Int} (h : bAt s (i + 1) = 120) (hd : digit s (i + 2) < 0 ∨ digit s (i + 3) < 0) : escC s i false = (-1, i) := by
  unfold escC; rw [if_neg (by simp), if_neg (by simpa using h), if_pos hd]
theorem escC_4 {s : ByteArray} {i : Int} (h : bAt s (i + 1) = 120) (h2 : 0 ≤ digit s (i + 2)) (h3 : 0 ≤ digit s (i + 3)) :
    escC s i false = (digit s (i + 2) * 16 + digit s (i + 3), i + 4) := by
  unfold escC; rw [if_neg (by simp), if_neg (by simpa using h), if_neg (by omega)]

set_option maxHeartbeats 1000000 in
theorem escaped_any (s : ByteArray) (i : Int) (m : Bool) (w : World) (h : 0 ≤ i) (h' : i ≤ 1000) :
    Calls Try.prog 91 #[.string s, .int .i64 i, .bool m] w fun e w' => e = .returned (.tuple #[.int .i64 (escC s i m).1, .int .i64 (escC s i m).2]) ∧ w' = w := by
  cases m
  · by_cases h1 : bAt s (i + 1) = 120
    · have b1 : (bAt s (i + 1) != 120) = false := by simp [h1]
      have H1 := hide h1; clear h1
      have d2 := digit_range s (i + 2)
      have d3 := digit_range s (i + 3)
      by_cases h2 : digit s (i + 2) < 0
      · go_enter Try.func91, Try.ntmps91
        go_wp2_with (first | (go_at_call 70; refine (byteAt_any _ _ _).mono ?_; rintro e w' ⟨rfl, rfl⟩) | (go_at_call 96; refine (digitAt_any _ _ _).mono ?_; rintro e w' ⟨rfl, rfl⟩))
        go_ret2
        exact ⟨ret_ii (escC_3 (unhide H1) (.inl h2)), rfl⟩
      · by_cases h3 : digit s (i + 3) < 0
        · go_enter Try.func91, Try.ntmps91
          go_wp2_with (first | (go_at_call 70; refine (byteAt_any _ _ _).mono ?_; rintro e w' ⟨rfl, rfl⟩) | (go_at_call 96; refine (digitAt_any _ _ _).mono ?_; rintro e w' ⟨rfl, rfl⟩))
          go_ret2
          exact ⟨ret_ii (escC_3 (unhide H1) (.inr h3)), rfl⟩
        · go_enter Try.func91, Try.ntmps91
          go_wp2_with (first | (go_at_call 70; refine (byteAt_any _ _ _).mono ?_; rintro e w' ⟨rfl, rfl⟩) | (go_at_call 96; refine (digitAt_any _ _ _).mono ?_; rintro e w' ⟨rfl, rfl⟩))
          go_ret2
          exact ⟨ret_ii (escC_4 (unhide H1) (by omega) (by omega)), rfl⟩
    · have b1 : (bAt s (i + 1) != 120) = true := by simp [h1]
      have H1 := hide h1; clear h1
      go_enter Try.func91, Try.ntmps91
      go_wp2_with (first | (go_at_call 70; refine (byteAt_any _ _ _).mono ?_; rintro e w' ⟨rfl, rfl⟩))
      go_ret2
      exact ⟨ret_ii (escC_2 (unhide H1)), rfl⟩
  · go_enter Try.func91, Try.ntmps91
    go_wp2_with (first | (go_at_call 70; refine (byteAt_any _ _ _).mono ?_; rintro e w' ⟨rfl, rfl⟩))
    go_ret2
    exact ⟨ret_ii escC_1, rfl⟩
end Go.Proofs.Ytdofpbbahamkkaa
