import Derived.Test.YtdofpbbahamkkaaMch
import Derived.Test.YtdofpbbahamkkaaBui2
import Derived.Test.YtdofpbbahamkkaaParse
namespace Go.Proofs.Ytdofpbbahamkkaa
open Go.RowKit

/-- the matcher in block p, its notes in block nb; what it reads besides lies in blocks of S -/
structure Mt (w : World) (S : Nat → Prop) (p nb : Nat) (tv : Value) (T : List Tm) (s : ByteArray) (N : List Int) : Prop where
  cell : w.heap[p]? = some (.cells #[tv, .string s, .slice (some ⟨nb, 0, none⟩) N.length N.length] 70)
  notes : w.heap[nb]? = some (.cells (ints N).toArray 3)
  terms : ∃ xs, RowIn w S 92 3 tv T.length xs ∧ CellsT (IntR w S) xs T
  apart : ∀ b, S b → b ≠ nb
  pn : p ≠ nb
  len : N.length = T.length * (s.size + 1)
  sub : s.size ≤ 60
  few : T.length ≤ 100000
  txt : ∀ t ∈ T, t.text.size ≤ 400
  right : ∀ (i a : Nat), i < T.length → a ≤ s.size → ∀ x, N[i * (s.size + 1) + a]? = some x → x ≠ 0 → ∃ F, matchN T s F i a = some (x - 2)

section
variable {w w' : World} {S : Nat → Prop} {p nb : Nat} {tv : Value} {T : List Tm} {s : ByteArray} {N : List Int}
theorem Mt.below (h : Mt w S p nb tv T s N) (hb : Below w.heap.size w w') : Mt w' S p nb tv T s N := by
  obtain ⟨xs, h1, h2⟩ := h.terms
  have hp := (Array.getElem?_eq_some_iff.1 h.cell).1
  have hn := (Array.getElem?_eq_some_iff.1 h.notes).1
  exact ⟨(hb.block p hp).trans h.cell, (hb.block nb hn).trans h.notes, ⟨xs, h1.turn fun b hS hz => ⟨hS, hb.block b hz⟩, CellsT.imp (fun _ _ k => RowIn.turn k fun b hS hz => ⟨hS, hb.block b hz⟩) h2⟩, h.apart, h.pn, h.len, h.sub, h.few, h.txt, h.right⟩
theorem Mt.cells (h : Mt w S p nb tv T s N) : w.cell? ⟨p, 0, none⟩ = some tv ∧ w.cell? ⟨p, 1, none⟩ = some (.string s) ∧ w.cell? ⟨p, 2, none⟩ = some (.slice (some ⟨nb, 0, none⟩) N.length N.length) ∧ p < w.heap.size := by
  refine ⟨?_, ?_, ?_, (Array.getElem?_eq_some_iff.1 h.cell).1⟩
  all_goals simp [World.cell?, h.cell]
end

theorem wordM_no {s u : ByteArray} {a : Int} {k : Nat} (hk : k < u.size) (h : bAt s (a + k) ≠ bAt u k) : wordM s u a = -1 := by
  unfold wordM
  rw [if_neg]
  intro hall
  have := List.all_eq_true.1 hall k (by simpa using hk)
  simp at this
  exact h this
theorem wordM_yes {s u : ByteArray} {a : Int} (h : ∀ k : Nat, k < u.size → bAt s (a + k) = bAt u k) : wordM s u a = a + u.size := by
  unfold wordM
  rw [if_pos]
  rw [List.all_eq_true]
  intro k hk
  simp at hk
  simp [h k hk]

set_option maxRecDepth 4000 in
set_option maxHeartbeats 2000000 in
theorem word_any (w : World) (S : Nat → Prop) (p nb : Nat) (tv : Value) (T : List Tm) (s : ByteArray) (N : List Int) (u : ByteArray) (a : Int) (hu : u.size ≤ 400) (h0 : 0 ≤ a) (h1 : a ≤ s.size) (hm : Mt w S p nb tv T s N) :
    Calls Try.prog 61 #[.pointer (some ⟨p, 0, none⟩), .string u, .int .i64 a] w fun e w' => e = .returned (.int .i64 (wordM s u a)) ∧ Below w.heap.size w w' := by
  have hsub := hm.sub
  have HM := hide hm
  clear hm
  go_enter Try.func61, Try.ntmps61
  go_wp2_with fail
  go_loopw [7] (fun i wr => ∃ k : Nat, k ≤ u.size ∧ i = .int .i64 k ∧ Hid (∀ j : Nat, j < k → bAt s (a + j) = bAt u j) ∧ Hid (Below w.heap.size w wr)) (fun i _ => u.size - (intOf i).toNat)
  case atStart => exact ⟨0, Nat.zero_le _, rfl, fun j hj => by omega, Below.refl _ _⟩
  case round =>
    obtain ⟨k, hk, rfl, HA, HB⟩ := hrel
    obtain ⟨c0, c1, c2, hlt⟩ := ((unhide HM).below (unhide HB)).cells
    by_cases hku : k < u.size
    · by_cases hin : a + k < s.size
      · have hd : decide ((s.size : Int) ≤ a + k) = false := by simp; omega
        have hb1 : (0 : Int) ≤ a + k := by omega
        have hs1 : (a + (k : Int)).toNat < s.size := by omega
        have e1 : Hid (bAt s (a + k) = ((s[(a + (k : Int)).toNat]'hs1).toNat : Int)) := by unfold Hid; rw [bAt, dif_pos ⟨hb1, hin⟩]
        have e2 : Hid (bAt u k = ((u[k]'hku).toNat : Int)) := by
          unfold Hid
          rw [bAt, dif_pos ⟨by omega, by omega⟩]
          rfl
        go_wp2_with fail
        go_quiet (fail)
        by_cases he : bAt s (a + k) = bAt u k
        · have b1 : (((s[(a + (k : Int)).toNat]'hs1).toNat : Int) != ((u[k]'hku).toNat : Int)) = false := by rw [← unhide e1, ← unhide e2, he]; simp
          have HA' : Hid (∀ j : Nat, j < k + 1 → bAt s (a + j) = bAt u j) := fun j hj => by
            by_cases hjk : j < k
            · exact unhide HA j hjk
            · have e : j = k := by omega
              subst e
              exact he
          clear he
          go_wp2_with fail
          go_roundw
          case rel => exact ⟨k + 1, by omega, by go_num, HA', below_drewN (unhide HB) _⟩
          case measure => simp [intOf]; omega
        · have b1 : (((s[(a + (k : Int)).toNat]'hs1).toNat : Int) != ((u[k]'hku).toNat : Int)) = true := by rw [← unhide e1, ← unhide e2]; simpa using he
          have HR := hide (wordM_no hku he)
          clear he
          go_wp2
          go_ret
          exact ⟨ret_int (unhide HR).symm, below_drewN (unhide HB) _⟩
      · have hd : decide ((s.size : Int) ≤ a + k) = true := by simp; omega
        have hne : bAt s (a + k) ≠ bAt u k := by
          have h1 : bAt s (a + k) = -1 := by unfold bAt; rw [dif_neg (by omega)]
          have h2 : 0 ≤ bAt u k := by unfold bAt; rw [dif_pos ⟨by omega, by omega⟩]; omega
          omega
        have HR := hide (wordM_no hku hne)
        clear hne
        go_wp2_with fail
        go_quiet (fail)
        go_wp2
        go_ret
        exact ⟨ret_int (unhide HR).symm, below_drewN (unhide HB) _⟩
    · have HR := hide (wordM_yes (s := s) (u := u) (a := a) (fun j hj => unhide HA j (by omega)))
      go_wp2
      go_ret
      exact ⟨ret_int (unhide HR).symm, unhide HB⟩

theorem oneM_no {s u : ByteArray} {a : Int} (h : ∀ k : Nat, k < u.size → bAt s a ≠ bAt u k) : oneM s u a = -1 := by
  unfold oneM
  rw [if_neg]
  rintro ⟨_, hany⟩
  obtain ⟨k, hk, he⟩ := List.any_eq_true.1 hany
  simp at hk he
  exact h k hk he
theorem oneM_yes {s u : ByteArray} {a : Int} {k : Nat} (ha : a < s.size) (hk : k < u.size) (h : bAt s a = bAt u k) : oneM s u a = a + 1 := by
  unfold oneM
  rw [if_pos]
  refine ⟨ha, List.any_eq_true.2 ⟨k, by simpa using hk, by simp [h]⟩⟩
theorem oneM_end {s u : ByteArray} {a : Int} (ha : (s.size : Int) ≤ a) : oneM s u a = -1 := by
  unfold oneM
  rw [if_neg (by omega)]

set_option maxRecDepth 4000 in
set_option maxHeartbeats 2000000 in
theorem oneOf_any (w : World) (S : Nat → Prop) (p nb : Nat) (tv : Value) (T : List Tm) (s : ByteArray) (N : List Int) (u : ByteArray) (a : Int) (hu : u.size ≤ 400) (h0 : 0 ≤ a) (h1 : a ≤ s.size) (hm : Mt w S p nb tv T s N) :
    Calls Try.prog 62 #[.pointer (some ⟨p, 0, none⟩), .string u, .int .i64 a] w fun e w' => e = .returned (.int .i64 (oneM s u a)) ∧ Below w.heap.size w w' := by
  have hsub := hm.sub
  obtain ⟨c0, c1, c2, hlt⟩ := hm.cells
  have HM := hide hm
  clear hm
  by_cases hin : a < s.size
  · have hs1 : a.toNat < s.size := by omega
    have e1 : Hid (bAt s a = ((s[a.toNat]'hs1).toNat : Int)) := by unfold Hid; rw [bAt, dif_pos ⟨h0, hin⟩]
    go_enter Try.func62, Try.ntmps62
    go_wp2_with fail
    go_loopw [7] (fun i wr => ∃ k : Nat, k ≤ u.size ∧ i = .int .i64 k ∧ Hid (∀ j : Nat, j < k → bAt s a ≠ bAt u j) ∧ Hid (Below w.heap.size w wr)) (fun i _ => u.size - (intOf i).toNat)
    case atStart => exact ⟨0, Nat.zero_le _, rfl, fun j hj => by omega, Below.refl _ _⟩
    case round =>
      obtain ⟨k, hk, rfl, HA, HB⟩ := hrel
      clear c0 c1 c2 hlt
      obtain ⟨c0, c1, c2, hlt⟩ := ((unhide HM).below (unhide HB)).cells
      by_cases hku : k < u.size
      · have e2 : Hid (bAt u k = ((u[k]'hku).toNat : Int)) := by
          unfold Hid
          rw [bAt, dif_pos ⟨by omega, by omega⟩]
          rfl
        go_wp2_with fail
        go_quiet (fail)
        by_cases he : bAt s a = bAt u k
        · have b1 : (((s[a.toNat]'hs1).toNat : Int) == ((u[k]'hku).toNat : Int)) = true := by rw [← unhide e1, ← unhide e2, he]; simp
          have HR := hide (oneM_yes hin hku he)
          clear he
          go_wp2
          go_ret
          exact ⟨ret_int (unhide HR).symm, below_drewN (unhide HB) _⟩
        · have b1 : (((s[a.toNat]'hs1).toNat : Int) == ((u[k]'hku).toNat : Int)) = false := by rw [← unhide e1, ← unhide e2]; simpa using he
          have HA' : Hid (∀ j : Nat, j < k + 1 → bAt s a ≠ bAt u j) := fun j hj => by
            by_cases hjk : j < k
            · exact unhide HA j hjk
            · have e : j = k := by omega
              subst e
              exact he
          clear he
          go_wp2_with fail
          go_roundw
          case rel => exact ⟨k + 1, by omega, by go_num, HA', below_drewN (unhide HB) _⟩
          case measure => simp [intOf]; omega
      · have HR := hide (oneM_no (s := s) (u := u) (a := a) (fun j hj => unhide HA j (by omega)))
        go_wp2
        go_ret
        exact ⟨ret_int (unhide HR).symm, unhide HB⟩
  · have HR := hide (oneM_end (s := s) (u := u) (a := a) (by omega))
    have hge : (s.size : Int) ≤ a := by omega
    go_enter Try.func62, Try.ntmps62
    go_wp2
    go_ret
    exact ⟨ret_int (unhide HR).symm, Below.refl _ _⟩
end Go.Proofs.Ytdofpbbahamkkaa
