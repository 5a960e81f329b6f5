import Derived.Test.YtbojcemamhiodaaGreatDoorPar
namespace Go.Proofs.YtbojcemamhiodaaGreatDoor
open Go.RowKit

/-- a token that stands at its place in s -/
structure TkOk (s : ByteArray) (t : Tk) : Prop where
  from0 : 0 ≤ t.from_
  le : t.from_ ≤ t.to
  size : t.to ≤ s.size
  lt : 2 ≤ t.k → t.from_ < t.to

theorem nameEnd_lt (s : ByteArray) (n : Nat) (i : Int) (h0 : 0 ≤ i) (h : 97 ≤ bAt s i) (h' : bAt s i ≤ 122) : i < nameEnd s (n + 1) i := by
  have hb : isNameC (bAt s i) = true := by unfold isNameC; simp; omega
  have hin := bAt_in (s := s) (i := i) (by omega)
  rw [nameEnd_yes hb]
  have := nameEnd_range s n (i + 1) (by omega) (by omega)
  omega
theorem readT_lt (s : ByteArray) (i : Int) (h : 0 ≤ i) (h' : i < s.size) (hk : 2 ≤ (readT s i).1) : i < (readT s i).2 := by
  unfold readT at *
  split at hk
  · rename_i hc
    rw [if_pos hc]
    unfold readNm at *
    have := nameEnd_lt s (s.size - i.toNat) i h hc.1 hc.2
    rw [show s.size - i.toNat + 1 = s.size + 1 - i.toNat from by omega] at this
    split at hk
    · simp at hk
    · rename_i h8
      rw [if_neg h8]
      exact this
  · rename_i hc
    rw [if_neg hc]
    split at hk
    · rename_i hc
      rw [if_pos hc]
      unfold readAr at *
      split at hk
      · rename_i h8
        rw [if_pos h8]
        simp; omega
      · simp at hk
    · rename_i hc
      rw [if_neg hc]
      split at hk
      · rename_i hc
        rw [if_pos hc]
        unfold readWd at *
        split at hk
        · rename_i j hj
          have := wordEnd_range s _ _ j (by omega) hj
          simp; omega
        · simp at hk
      · rename_i hc
        rw [if_neg hc]
        split at hk
        · rename_i hc
          rw [if_pos hc]
          unfold readSt at *
          split at hk
          · rename_i j hj
            have : i + 1 ≤ setFrom s i := by unfold setFrom; split <;> omega
            have := setEnd_range s _ _ _ j (by omega) hj
            simp; omega
          · simp at hk
        · rename_i hc
          rw [if_neg hc]
          split at hk
          · simp at hk
          · rename_i hc
            rw [if_neg hc]
            simp; omega
theorem nextT_ok (s : ByteArray) (i : Int) (h : 0 ≤ i) (h' : i ≤ s.size) : TkOk s (nextT s i) ∧ i ≤ (nextT s i).from_ := by
  have hr := nextT_range s i h h'
  have hk := skip_range s i h h'
  refine ⟨⟨by omega, hr.2.2.2.1, hr.2.2.2.2, fun h2 => ?_⟩, hr.2.2.1⟩
  unfold nextT at *
  split at h2
  · simp at h2
  · rename_i hs
    rw [if_neg hs]
    exact readT_lt s (skip s i) (by omega) (by omega) h2

set_option maxHeartbeats 1000000 in
theorem take_no (w : World) (q : Nat) (s : ByteArray) (t : Tk) (d k : Int) (hp : Ps w q s t d) (hk : t.k ≠ k) :
    Calls Tryz.prog 81 #[.pointer (some ⟨q, 0, none⟩), .int .i64 k] w fun e w' => e = .returned (.int .i64 2) ∧ w' = w := by
  obtain ⟨c0, c1, c2, c3, c4⟩ := hp.cells
  have b1 : (t.k != k) = true := by simpa using hk
  clear hk
  go_enter Tryz.func81, Tryz.ntmps81
  go_wp2
  go_ret
  exact ⟨rfl, rfl⟩

set_option maxHeartbeats 1000000 in
theorem take_yes (w : World) (q : Nat) (s : ByteArray) (t : Tk) (d k : Int) (hs : s.size ≤ 400) (ht : TkOk s t) (hp : Ps w q s t d) (hk : t.k = k) :
    Calls Tryz.prog 81 #[.pointer (some ⟨q, 0, none⟩), .int .i64 k] w fun e w' => e = .returned (.int .i64 0) ∧ Ps w' q s (nextT s t.to) d ∧ But q w w' := by
  obtain ⟨c0, c1, c2, c3, c4⟩ := hp.cells
  have b1 : (t.k != k) = false := by simpa using hk
  clear hk
  go_enter Tryz.func81, Tryz.ntmps81
  go_wp2_with (go_at_call 118; refine (step_any _ _ _ _ _ hs (by have := ht.from0; have := ht.le; omega) ht.size hp).mono ?_; rintro e w' ⟨rfl, hp1, hb1⟩)
  go_ret
  exact ⟨rfl, hp1, hb1⟩

theorem atIt_def (s : ByteArray) (t : Tk) : atIt s t = (t.k == 7 || t.k == 8 || t.k == 4 || t.k == 5 || t.k == 12 || t.k == 13 || t.k == 15 || (t.k == 2 && !(nmBefore s t 3))) := rfl

set_option maxHeartbeats 2000000 in
theorem atItem_any (w : World) (q : Nat) (s : ByteArray) (t : Tk) (d : Int) (hs : s.size ≤ 400) (ht : TkOk s t) (hp : Ps w q s t d) :
    Calls Tryz.prog 139 #[.pointer (some ⟨q, 0, none⟩)] w fun e w' => e = .returned (.bool (atIt s t)) ∧ Below w.heap.size w w' := by
  obtain ⟨c0, c1, c2, c3, c4⟩ := hp.cells
  have h0 : 0 ≤ t.to := by have := ht.from0; have := ht.le; omega
  have h1 := ht.size
  rw [atIt_def]
  generalize hx : nmBefore s t 3 = x
  have Hx := hide hx; clear hx
  go_enter Tryz.func139, Tryz.ntmps139
  go_wp2_with (go_at_call 151; refine (nameBefore_any _ _ _ _ _ _ hs h0 h1 hp).mono ?_; rintro e w' ⟨rfl, hb⟩; rw [unhide Hx])
  all_goals go_ret
  all_goals first | exact ⟨by simp_all, Below.refl _ _⟩ | exact ⟨by simp_all, hb⟩

set_option maxHeartbeats 1000000 in
theorem atRepeat_any (w : World) (q : Nat) (s : ByteArray) (t : Tk) (d : Int) (hp : Ps w q s t d) :
    Calls Tryz.prog 158 #[.pointer (some ⟨q, 0, none⟩)] w fun e w' => e = .returned (.bool (t.k == 9 || t.k == 10 || t.k == 11)) ∧ w' = w := by
  obtain ⟨c0, c1, c2, c3, c4⟩ := hp.cells
  cases h9 : (t.k == 9)
  · cases h10 : (t.k == 10)
    · cases h11 : (t.k == 11)
      all_goals
        go_enter Tryz.func158, Tryz.ntmps158
        go_wp2
        go_ret
        exact ⟨rfl, rfl⟩
    · go_enter Tryz.func158, Tryz.ntmps158
      go_wp2
      go_ret
      exact ⟨rfl, rfl⟩
  · go_enter Tryz.func158, Tryz.ntmps158
    go_wp2
    go_ret
    exact ⟨rfl, rfl⟩

def repK (k : Int) : Int := if k == 9 then 9 else if k == 10 then 10 else 11
set_option maxHeartbeats 1000000 in
theorem repeatKind_any (k : Int) (w : World) :
    Calls Tryz.prog 159 #[.int .i64 k] w fun e w' => e = .returned (.int .i64 (repK k)) ∧ w' = w := by
  unfold repK
  cases h9 : (k == 9)
  · cases h10 : (k == 10)
    all_goals
      go_enter Tryz.func159, Tryz.ntmps159
      go_wp2
      go_ret
      exact ⟨rfl, rfl⟩
  · go_enter Tryz.func159, Tryz.ntmps159
    go_wp2
    go_ret
    exact ⟨rfl, rfl⟩

theorem Ps.putD {w : World} {q : Nat} {s : ByteArray} {t : Tk} {d : Int} (h : Ps w q s t d) (d' : Int) : Ps (w.setCell ⟨q, 4, none⟩ (.int .i64 d')) q s t d' := by
  unfold Ps at *
  simp [World.setCell, Array.getElem?_modify, h]

set_option maxHeartbeats 1000000 in
theorem open_deep (w : World) (q : Nat) (s : ByteArray) (t : Tk) (d : Int) (hp : Ps w q s t d) (hd : 12 ≤ d) :
    Calls Tryz.prog 163 #[.pointer (some ⟨q, 0, none⟩)] w fun e w' => e = .returned (.int .i64 3) ∧ w' = w := by
  obtain ⟨c0, c1, c2, c3, c4⟩ := hp.cells
  go_enter Tryz.func163, Tryz.ntmps163
  go_wp2
  go_ret
  exact ⟨rfl, rfl⟩

set_option maxHeartbeats 1000000 in
theorem open_ok (w : World) (q : Nat) (s : ByteArray) (t : Tk) (d : Int) (hs : s.size ≤ 400) (ht : TkOk s t) (hp : Ps w q s t d) (h0 : 0 ≤ d) (hd : d < 12) :
    Calls Tryz.prog 163 #[.pointer (some ⟨q, 0, none⟩)] w fun e w' => e = .returned (.int .i64 0) ∧ Ps w' q s (nextT s t.to) (d + 1) ∧ But q w w' := by
  obtain ⟨c0, c1, c2, c3, c4⟩ := hp.cells
  have hz := hp.frozen
  go_enter Tryz.func163, Tryz.ntmps163
  go_wp2_with (go_at_call 118; refine (step_any _ _ _ _ _ hs (by have := ht.from0; have := ht.le; omega) ht.size (hp.putD (d + 1))).mono ?_; rintro e w' ⟨rfl, hp1, hb1⟩)
  go_ret
  exact ⟨rfl, hp1, ((But.refl q w).setCell (.inl rfl) _).trans hb1⟩

end Go.Proofs.YtbojcemamhiodaaGreatDoor
