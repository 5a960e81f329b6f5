import Derived.Test.YtdofpbbahamkkaaTok3
namespace Go.Proofs.Ytdofpbbahamkkaa
open Go.RowKit

theorem member_1 {s : ByteArray} {i : Int} (h : (setC s i).1 < 0 ∨ bAt s (setC s i).2 ≠ 45) : member s i = ((setC s i).1, (setC s i).1, (setC s i).2) := if_pos h
theorem member_2 {s : ByteArray} {i : Int} (h : 0 ≤ (setC s i).1) (h' : bAt s (setC s i).2 = 45) (hl : (setC s ((setC s i).2 + 1)).1 < (setC s i).1) : member s i = (-1, -1, i) := by
  unfold member; rw [if_neg (by omega), if_pos hl]
theorem member_3 {s : ByteArray} {i : Int} (h : 0 ≤ (setC s i).1) (h' : bAt s (setC s i).2 = 45) (hl : (setC s i).1 ≤ (setC s ((setC s i).2 + 1)).1) : member s i = ((setC s i).1, (setC s ((setC s i).2 + 1)).1, (setC s ((setC s i).2 + 1)).2) := by
  unfold member; rw [if_neg (by omega), if_neg (by omega)]
theorem ret_iii {k l m : IntKind} {a c d : Int} {r : Int × Int × Int} (h : r = (a, c, d)) : Ending.returned (.tuple #[.int k a, .int l c, .int m d]) = .returned (.tuple #[.int k r.1, .int l r.2.1, .int m r.2.2]) := by rw [h]

set_option maxHeartbeats 1000000 in
theorem readMember_any (s : ByteArray) (i : Int) (w : World) (hs : s.size ≤ 400) (h : 0 ≤ i) (h' : i ≤ 1000) :
    Calls Try.prog 85 #[.string s, .int .i64 i] w fun e w' => e = .returned (.tuple #[.int .i64 (member s i).1, .int .i64 (member s i).2.1, .int .i64 (member s i).2.2]) ∧ w' = w := by
  have hg := setC_good s i
  unfold GoodC at hg
  by_cases h1 : (setC s i).1 < 0
  · have HE := hide (member_1 (.inl h1))
    clear hg
    go_enter Try.func85, Try.ntmps85
    go_wp2_with (first | (go_at_call 92; refine (setChar_any _ _ _ (by omega) (by omega)).mono ?_; rintro e w' ⟨rfl, rfl⟩))
    go_ret3
    exact ⟨ret_iii (unhide HE), rfl⟩
  · have hlo : i < (setC s i).2 := by omega
    have hhi : (setC s i).2 ≤ s.size := by omega
    clear hg
    by_cases h2 : bAt s (setC s i).2 = 45
    · have b2 : (bAt s (setC s i).2 != 45) = false := by simp [h2]
      by_cases h3 : (setC s ((setC s i).2 + 1)).1 < (setC s i).1
      · have HE := hide (member_2 (by omega) h2 h3)
        clear h2
        go_enter Try.func85, Try.ntmps85
        go_wp2_with (first | (go_at_call 92; refine (setChar_any _ _ _ (by omega) (by omega)).mono ?_; rintro e w' ⟨rfl, rfl⟩) | (go_at_call 70; refine (byteAt_any _ _ _).mono ?_; rintro e w' ⟨rfl, rfl⟩))
        go_ret3
        exact ⟨ret_iii (unhide HE), rfl⟩
      · have HE := hide (member_3 (by omega) h2 (by omega))
        clear h2
        go_enter Try.func85, Try.ntmps85
        go_wp2_with (first | (go_at_call 92; refine (setChar_any _ _ _ (by omega) (by omega)).mono ?_; rintro e w' ⟨rfl, rfl⟩) | (go_at_call 70; refine (byteAt_any _ _ _).mono ?_; rintro e w' ⟨rfl, rfl⟩))
        go_ret3
        exact ⟨ret_iii (unhide HE), rfl⟩
    · have b2 : (bAt s (setC s i).2 != 45) = true := by simp [h2]
      have HE := hide (member_1 (.inr h2))
      clear h2
      go_enter Try.func85, Try.ntmps85
      go_wp2_with (first | (go_at_call 92; refine (setChar_any _ _ _ (by omega) (by omega)).mono ?_; rintro e w' ⟨rfl, rfl⟩) | (go_at_call 70; refine (byteAt_any _ _ _).mono ?_; rintro e w' ⟨rfl, rfl⟩))
      go_ret3
      exact ⟨ret_iii (unhide HE), rfl⟩

theorem setEnd_1 {s : ByteArray} {f : Int} {n : Nat} {i : Int} (h : i ≠ f) (h' : bAt s i = 93) : setEnd s f (n + 1) i = some i := if_pos ⟨h, h'⟩
theorem setEnd_2 {s : ByteArray} {f : Int} {n : Nat} {i : Int} (h : i = f ∨ bAt s i ≠ 93) (h' : (member s i).1 < 0) : setEnd s f (n + 1) i = none := by
  rw [setEnd, if_neg (by omega), if_pos h']
theorem setEnd_3 {s : ByteArray} {f : Int} {n : Nat} {i : Int} (h : i = f ∨ bAt s i ≠ 93) (h' : ¬ (member s i).1 < 0) : setEnd s f (n + 1) i = setEnd s f n (member s i).2.2 := by
  rw [setEnd, if_neg (by omega), if_neg h']
theorem readSt_1 {s : ByteArray} {i f j : Int} (hf : setFrom s i = f) (h : setEnd s f (s.size + 2 - i.toNat) f = some j) : readSt s i = (5, j + 1) := by
  unfold readSt; rw [hf, h]
theorem readSt_2 {s : ByteArray} {i f : Int} (hf : setFrom s i = f) (h : setEnd s f (s.size + 2 - i.toNat) f = none) : readSt s i = (0, i) := by
  unfold readSt; rw [hf, h]
theorem setFrom_1 {s : ByteArray} {i : Int} (h : bAt s (i + 1) = 94) : setFrom s i = i + 1 + 1 := by rw [setFrom, if_pos h]; omega
theorem setFrom_2 {s : ByteArray} {i : Int} (h : bAt s (i + 1) ≠ 94) : setFrom s i = i + 1 := if_neg h

/-- the loop of readSet, as a case that both its beginnings share -/
theorem setRound {s : ByteArray} {f j : Int} {n : Nat} (h : (s.size : Int) < n + j) (hj : j ≤ s.size) :
    (∃ m, n = m + 1 ∧ ((j ≠ f ∧ bAt s j = 93 ∧ setEnd s f n j = some j) ∨
      (j = f ∧ (member s j).1 < 0 ∧ setEnd s f n j = none) ∨ (j ≠ f ∧ bAt s j ≠ 93 ∧ (member s j).1 < 0 ∧ setEnd s f n j = none) ∨
      (j = f ∧ 0 ≤ (member s j).1 ∧ j < (member s j).2.2 ∧ (member s j).2.2 ≤ s.size ∧ setEnd s f n j = setEnd s f m (member s j).2.2) ∨
      (j ≠ f ∧ bAt s j ≠ 93 ∧ 0 ≤ (member s j).1 ∧ j < (member s j).2.2 ∧ (member s j).2.2 ≤ s.size ∧ setEnd s f n j = setEnd s f m (member s j).2.2))) := by
  obtain ⟨m, rfl⟩ : ∃ m, n = m + 1 := ⟨n - 1, by omega⟩
  refine ⟨m, rfl, ?_⟩
  have hm := member_good s j
  unfold GoodM at hm
  by_cases h1 : j = f
  · by_cases h2 : (member s j).1 < 0
    · exact .inr (.inl ⟨h1, h2, setEnd_2 (.inl h1) h2⟩)
    · exact .inr (.inr (.inr (.inl ⟨h1, by omega, by omega, by omega, setEnd_3 (.inl h1) h2⟩)))
  · by_cases h3 : bAt s j = 93
    · exact .inl ⟨h1, h3, setEnd_1 h1 h3⟩
    · by_cases h2 : (member s j).1 < 0
      · exact .inr (.inr (.inl ⟨h1, h3, h2, setEnd_2 (.inr h3) h2⟩))
      · exact .inr (.inr (.inr (.inr ⟨h1, h3, by omega, by omega, by omega, setEnd_3 (.inr h3) h2⟩)))

set_option maxHeartbeats 2000000 in
theorem readSet_any (s : ByteArray) (i : Int) (w : World) (hs : s.size ≤ 400) (h : 0 ≤ i) (h' : i < s.size) :
    Calls Try.prog 74 #[.string s, .int .i64 i] w fun e w' => e = .returned (.tuple #[.int .i64 (readSt s i).1, .int .i64 (readSt s i).2]) ∧ w' = w := by
  by_cases hc : bAt s (i + 1) = 94
  · have bc : (bAt s (i + 1) == 94) = true := by simp [hc]
    have HF := hide (setFrom_1 hc)
    have hin := bAt_in (s := s) (i := i + 1) (by omega)
    clear hc
    go_enter Try.func74, Try.ntmps74
    go_wp2_with (first | (go_at_call 70; refine (byteAt_any _ _ _).mono ?_; rintro e w' ⟨rfl, rfl⟩))
    go_loop [6] (fun a => ∃ (j : Int) (n : Nat), i + 1 + 1 ≤ j ∧ j ≤ s.size ∧ (s.size : Int) < n + j ∧ a = .int .i64 j ∧ Hid (setEnd s (i + 1 + 1) (s.size + 2 - i.toNat) (i + 1 + 1) = setEnd s (i + 1 + 1) n j)) (fun a => (s.size - intOf a).toNat)
    case atStart => exact ⟨_, s.size + 2 - i.toNat, by omega, by omega, by omega, rfl, rfl⟩
    case round =>
      obtain ⟨j, n, h1, h2, h3, rfl, H⟩ := hrel
      obtain ⟨m, rfl, ⟨c1, c2, c3⟩ | ⟨c1, c2, c3⟩ | ⟨c1, c2, c4, c3⟩ | ⟨c1, c6, c4, c5, c3⟩ | ⟨c1, c2, c6, c4, c5, c3⟩⟩ := setRound (f := i + 1 + 1) h3 h2
      · have HE := hide ((unhide H).trans c3)
        have b1 : (j == i + 1 + 1) = false := by simp [c1]
        have b2 : (bAt s j != 93) = false := by simp [c2]
        clear c1 c2 c3
        go_wp2_with (first | (go_at_call 70; refine (byteAt_any _ _ _).mono ?_; rintro e w' ⟨rfl, rfl⟩))
        go_ret2
        exact ⟨ret_ii (readSt_1 (unhide HF) (unhide HE)), rfl⟩
      · have HE := hide ((unhide H).trans c3)
        have b1 : (j == i + 1 + 1) = true := by simp [c1]
        clear c1 c3
        go_wp2_with (first | (go_at_call 85; refine (readMember_any _ _ _ hs (by omega) (by omega)).mono ?_; rintro e w' ⟨rfl, rfl⟩))
        go_ret2
        exact ⟨ret_ii (readSt_2 (unhide HF) (unhide HE)), rfl⟩
      · have HE := hide ((unhide H).trans c3)
        have b1 : (j == i + 1 + 1) = false := by simp [c1]
        have b2 : (bAt s j != 93) = true := by simp [c2]
        clear c1 c2 c3
        go_wp2_with (first | (go_at_call 70; refine (byteAt_any _ _ _).mono ?_; rintro e w' ⟨rfl, rfl⟩) | (go_at_call 85; refine (readMember_any _ _ _ hs (by omega) (by omega)).mono ?_; rintro e w' ⟨rfl, rfl⟩))
        go_ret2
        exact ⟨ret_ii (readSt_2 (unhide HF) (unhide HE)), rfl⟩
      · have HE := hide ((unhide H).trans c3)
        have b1 : (j == i + 1 + 1) = true := by simp [c1]
        clear c1 c3
        go_wp2_with (first | (go_at_call 85; refine (readMember_any _ _ _ hs (by omega) (by omega)).mono ?_; rintro e w' ⟨rfl, rfl⟩))
        go_round
        case rel => exact ⟨(member s j).2.2, m, by omega, by omega, by omega, rfl, HE⟩
        case measure => simp [intOf]; omega
      · have HE := hide ((unhide H).trans c3)
        have b1 : (j == i + 1 + 1) = false := by simp [c1]
        have b2 : (bAt s j != 93) = true := by simp [c2]
        clear c1 c2 c3
        go_wp2_with (first | (go_at_call 70; refine (byteAt_any _ _ _).mono ?_; rintro e w' ⟨rfl, rfl⟩) | (go_at_call 85; refine (readMember_any _ _ _ hs (by omega) (by omega)).mono ?_; rintro e w' ⟨rfl, rfl⟩))
        go_round
        case rel => exact ⟨(member s j).2.2, m, by omega, by omega, by omega, rfl, HE⟩
        case measure => simp [intOf]; omega
  · have bc : (bAt s (i + 1) == 94) = false := by simp [hc]
    have HF := hide (setFrom_2 hc)
    clear hc
    go_enter Try.func74, Try.ntmps74
    go_wp2_with (first | (go_at_call 70; refine (byteAt_any _ _ _).mono ?_; rintro e w' ⟨rfl, rfl⟩))
    go_loop [6] (fun a => ∃ (j : Int) (n : Nat), i + 1 ≤ j ∧ j ≤ s.size ∧ (s.size : Int) < n + j ∧ a = .int .i64 j ∧ Hid (setEnd s (i + 1) (s.size + 2 - i.toNat) (i + 1) = setEnd s (i + 1) n j)) (fun a => (s.size - intOf a).toNat)
    case atStart => exact ⟨_, s.size + 2 - i.toNat, by omega, by omega, by omega, rfl, rfl⟩
    case round =>
      obtain ⟨j, n, h1, h2, h3, rfl, H⟩ := hrel
      obtain ⟨m, rfl, ⟨c1, c2, c3⟩ | ⟨c1, c2, c3⟩ | ⟨c1, c2, c4, c3⟩ | ⟨c1, c6, c4, c5, c3⟩ | ⟨c1, c2, c6, c4, c5, c3⟩⟩ := setRound (f := i + 1) h3 h2
      · have HE := hide ((unhide H).trans c3)
        have b1 : (j == i + 1) = false := by simp [c1]
        have b2 : (bAt s j != 93) = false := by simp [c2]
        clear c1 c2 c3
        go_wp2_with (first | (go_at_call 70; refine (byteAt_any _ _ _).mono ?_; rintro e w' ⟨rfl, rfl⟩))
        go_ret2
        exact ⟨ret_ii (readSt_1 (unhide HF) (unhide HE)), rfl⟩
      · have HE := hide ((unhide H).trans c3)
        have b1 : (j == i + 1) = true := by simp [c1]
        clear c1 c3
        go_wp2_with (first | (go_at_call 85; refine (readMember_any _ _ _ hs (by omega) (by omega)).mono ?_; rintro e w' ⟨rfl, rfl⟩))
        go_ret2
        exact ⟨ret_ii (readSt_2 (unhide HF) (unhide HE)), rfl⟩
      · have HE := hide ((unhide H).trans c3)
        have b1 : (j == i + 1) = false := by simp [c1]
        have b2 : (bAt s j != 93) = true := by simp [c2]
        clear c1 c2 c3
        go_wp2_with (first | (go_at_call 70; refine (byteAt_any _ _ _).mono ?_; rintro e w' ⟨rfl, rfl⟩) | (go_at_call 85; refine (readMember_any _ _ _ hs (by omega) (by omega)).mono ?_; rintro e w' ⟨rfl, rfl⟩))
        go_ret2
        exact ⟨ret_ii (readSt_2 (unhide HF) (unhide HE)), rfl⟩
      · have HE := hide ((unhide H).trans c3)
        have b1 : (j == i + 1) = true := by simp [c1]
        clear c1 c3
        go_wp2_with (first | (go_at_call 85; refine (readMember_any _ _ _ hs (by omega) (by omega)).mono ?_; rintro e w' ⟨rfl, rfl⟩))
        go_round
        case rel => exact ⟨(member s j).2.2, m, by omega, by omega, by omega, rfl, HE⟩
        case measure => simp [intOf]; omega
      · have HE := hide ((unhide H).trans c3)
        have b1 : (j == i + 1) = false := by simp [c1]
        have b2 : (bAt s j != 93) = true := by simp [c2]
        clear c1 c2 c3
        go_wp2_with (first | (go_at_call 70; refine (byteAt_any _ _ _).mono ?_; rintro e w' ⟨rfl, rfl⟩) | (go_at_call 85; refine (readMember_any _ _ _ hs (by omega) (by omega)).mono ?_; rintro e w' ⟨rfl, rfl⟩))
        go_round
        case rel => exact ⟨(member s j).2.2, m, by omega, by omega, by omega, rfl, HE⟩
        case measure => simp [intOf]; omega

theorem signK_def (c : Int) : signK c = if c == 47 then 6 else if c == 38 then 7 else if c == 33 then 8 else if c == 42 then 9 else if c == 43 then 10 else if c == 63 then 11 else
  if c == 46 then 12 else if c == 40 then 13 else if c == 41 then 14 else if c == 123 then 15 else if c == 125 then 16 else if c == 58 then 17 else 0 := by simp [signK]

set_option maxHeartbeats 2000000 in
theorem signKind_any (c : Int) (w : World) :
    Calls Try.prog 75 #[.int .i64 c] w fun e w' => e = .returned (.int .i64 (signK c)) ∧ w' = w := by
  rw [signK_def]
  go_enter Try.func75, Try.ntmps75
  go_wp2
  all_goals go_ret
  all_goals exact ⟨rfl, rfl⟩

theorem readT_1 {s : ByteArray} {i : Int} (h : 97 ≤ bAt s i) (h' : bAt s i ≤ 122) : readT s i = readNm s i := if_pos ⟨h, h'⟩
theorem readT_2 {s : ByteArray} {i : Int} (h : bAt s i = 60) : readT s i = readAr s i := by
  unfold readT; rw [if_neg (by omega), if_pos h]
theorem readT_3 {s : ByteArray} {i : Int} (h : bAt s i = 39) : readT s i = readWd s i := by
  unfold readT; rw [if_neg (by omega), if_neg (by omega), if_pos h]
theorem readT_4 {s : ByteArray} {i : Int} (h : bAt s i = 91) : readT s i = readSt s i := by
  unfold readT; rw [if_neg (by omega), if_neg (by omega), if_neg (by omega), if_pos h]
theorem readT_5 {s : ByteArray} {i : Int} (h0 : bAt s i < 97 ∨ 122 < bAt s i) (h1 : bAt s i ≠ 60) (h2 : bAt s i ≠ 39) (h3 : bAt s i ≠ 91) (h : signK (bAt s i) = 0) : readT s i = (0, i) := by
  unfold readT; rw [if_neg (by omega), if_neg h1, if_neg h2, if_neg h3, if_pos h]
theorem readT_6 {s : ByteArray} {i : Int} (h0 : bAt s i < 97 ∨ 122 < bAt s i) (h1 : bAt s i ≠ 60) (h2 : bAt s i ≠ 39) (h3 : bAt s i ≠ 91) (h : signK (bAt s i) ≠ 0) : readT s i = (signK (bAt s i), i + 1) := by
  unfold readT; rw [if_neg (by omega), if_neg h1, if_neg h2, if_neg h3, if_neg h]

set_option maxHeartbeats 2000000 in
theorem read_any (s : ByteArray) (i : Int) (w : World) (hs : s.size ≤ 400) (h : 0 ≤ i) (h' : i < s.size) :
    Calls Try.prog 44 #[.string s, .int .i64 i] w fun e w' => e = .returned (.tuple #[.int .i64 (readT s i).1, .int .i64 (readT s i).2]) ∧ w' = w := by
  by_cases h1 : 97 ≤ bAt s i ∧ bAt s i ≤ 122
  · obtain ⟨h1, h1'⟩ := h1
    go_enter Try.func44, Try.ntmps44
    go_wp2_with (first | (go_at_call 70; refine (byteAt_any _ _ _).mono ?_; rintro e w' ⟨rfl, rfl⟩) | (go_at_call 71; refine (readName_any _ _ _ hs (by omega) (by omega)).mono ?_; rintro e w' ⟨rfl, rfl⟩))
    go_ret2
    exact ⟨ret_pair (readT_1 h1 h1'), rfl⟩
  · by_cases h2 : bAt s i = 60
    · have HE := hide (readT_2 h2)
      have b2 : (bAt s i == 60) = true := by simp [h2]
      have b3 : bAt s i < 97 := by omega
      clear h2 h1
      go_enter Try.func44, Try.ntmps44
      go_wp2_with (first | (go_at_call 70; refine (byteAt_any _ _ _).mono ?_; rintro e w' ⟨rfl, rfl⟩) | (go_at_call 72; refine (readArrow_any _ _ _ (by omega) (by omega)).mono ?_; rintro e w' ⟨rfl, rfl⟩))
      go_ret2
      exact ⟨ret_pair (unhide HE), rfl⟩
    · have b2 : (bAt s i == 60) = false := by simp [h2]
      by_cases h3 : bAt s i = 39
      · have HE := hide (readT_3 h3)
        have b3 : (bAt s i == 39) = true := by simp [h3]
        have b4 : bAt s i < 97 := by omega
        clear h3 h2 h1
        go_enter Try.func44, Try.ntmps44
        go_wp2_with (first | (go_at_call 70; refine (byteAt_any _ _ _).mono ?_; rintro e w' ⟨rfl, rfl⟩) | (go_at_call 73; refine (readWord_any _ _ _ hs (by omega) (by omega)).mono ?_; rintro e w' ⟨rfl, rfl⟩))
        go_ret2
        exact ⟨ret_pair (unhide HE), rfl⟩
      · have b3 : (bAt s i == 39) = false := by simp [h3]
        by_cases h4 : bAt s i = 91
        · have HE := hide (readT_4 h4)
          have b4 : (bAt s i == 91) = true := by simp [h4]
          have b5 : bAt s i < 97 := by omega
          clear h4 h3 h2 h1
          go_enter Try.func44, Try.ntmps44
          go_wp2_with (first | (go_at_call 70; refine (byteAt_any _ _ _).mono ?_; rintro e w' ⟨rfl, rfl⟩) | (go_at_call 74; refine (readSet_any _ _ _ hs (by omega) (by omega)).mono ?_; rintro e w' ⟨rfl, rfl⟩))
          go_ret2
          exact ⟨ret_pair (unhide HE), rfl⟩
        · have b4 : (bAt s i == 91) = false := by simp [h4]
          have h1' : bAt s i < 97 ∨ 122 < bAt s i := by omega
          by_cases h5 : signK (bAt s i) = 0
          · have HE := hide (readT_5 h1' h2 h3 h4 h5)
            have b5 : (signK (bAt s i) == 0) = true := by simp [h5]
            clear h5 h4 h3 h2 h1
            rcases h1' with h1' | h1'
            all_goals
              go_enter Try.func44, Try.ntmps44
              go_wp2_with (first | (go_at_call 70; refine (byteAt_any _ _ _).mono ?_; rintro e w' ⟨rfl, rfl⟩) | (go_at_call 75; refine (signKind_any _ _).mono ?_; rintro e w' ⟨rfl, rfl⟩))
              go_ret2
              exact ⟨ret_ii (unhide HE), rfl⟩
          · have HE := hide (readT_6 h1' h2 h3 h4 h5)
            have b5 : (signK (bAt s i) == 0) = false := by simp [h5]
            clear h5 h4 h3 h2 h1
            rcases h1' with h1' | h1'
            all_goals
              go_enter Try.func44, Try.ntmps44
              go_wp2_with (first | (go_at_call 70; refine (byteAt_any _ _ _).mono ?_; rintro e w' ⟨rfl, rfl⟩) | (go_at_call 75; refine (signKind_any _ _).mono ?_; rintro e w' ⟨rfl, rfl⟩))
              go_ret2
              exact ⟨ret_ii (unhide HE), rfl⟩

theorem nextT_1 {s : ByteArray} {i : Int} (h : s.size ≤ skip s i) : nextT s i = ⟨1, s.size, s.size⟩ := if_pos h
theorem nextT_2 {s : ByteArray} {i : Int} (h : skip s i < s.size) : nextT s i = ⟨(readT s (skip s i)).1, skip s i, (readT s (skip s i)).2⟩ := if_neg (by omega)

set_option maxHeartbeats 2000000 in
theorem next_any (s : ByteArray) (i : Int) (w : World) (hs : s.size ≤ 400) (h : 0 ≤ i) (h' : i ≤ s.size) :
    Calls Try.prog 26 #[.string s, .int .i64 i] w fun e w' => e = .returned (.agg #[.int .i64 (nextT s i).k, .int .i64 (nextT s i).from_, .int .i64 (nextT s i).to]) ∧ Below w.heap.size w w' := by
  have hk := skip_range s i h h'
  by_cases h1 : s.size ≤ skip s i
  · have HE := hide (nextT_1 h1)
    go_enter Try.func26, Try.ntmps26
    go_wp2_with (first | (go_at_call 43; refine (skipBlanks_any _ _ _ hs (by omega) (by omega)).mono ?_; rintro e w' ⟨rfl, rfl⟩))
    exact bodyPost_ret (v := .agg #[.int .i64 1, .int .i64 s.size, .int .i64 s.size]) (by simp [results, Try.results26, go_sem]) rfl ⟨by rw [unhide HE], (Below.refl _ _).alloc (Nat.le_refl _) _⟩
  · have HE := hide (nextT_2 (s := s) (i := i) (by omega))
    go_enter Try.func26, Try.ntmps26
    go_wp2_with (first | (go_at_call 43; refine (skipBlanks_any _ _ _ hs (by omega) (by omega)).mono ?_; rintro e w' ⟨rfl, rfl⟩) | (go_at_call 44; refine (read_any _ _ _ hs (by omega) (by omega)).mono ?_; rintro e w' ⟨rfl, rfl⟩))
    exact bodyPost_ret (v := .agg #[.int .i64 (readT s (skip s i)).1, .int .i64 (skip s i), .int .i64 (readT s (skip s i)).2]) (by simp [results, Try.results26, go_sem]) rfl ⟨by rw [unhide HE], (Below.refl _ _).alloc (Nat.le_refl _) _⟩
end Go.Proofs.Ytdofpbbahamkkaa
