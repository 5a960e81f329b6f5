import Derived.Test.YtbojcemamhiodaaGreatDoorToks
import Derived.Test.YtbojcemamhiodaaGreatDoorParse
import Derived.Test.YtbojcemamhiodaaGreatDoorComp
import Derived.Laws.RangeAny
import Derived.Deep.QuietTactic
import Derived.BigQuiet
import Derived.Deep.WholeRow
import Derived.Deep.MidRow
import Derived.Laws.CopyRow
import Derived.Laws.CopyOwn
import Derived.Laws.ResultCell
namespace Go.Proofs.YtbojcemamhiodaaGreatDoor
def bl (l : List UInt8) : ByteArray := ⟨l.toArray⟩
theorem bl_size (l : List UInt8) : (bl l).size = l.length := by simp [bl, ByteArray.size]
end Go.Proofs.YtbojcemamhiodaaGreatDoor
namespace Go.Proofs.YtbojcemamhiodaaGreatDoor
open Go.RowKit

def lowB (c : UInt8) : Bool := decide (97 ≤ c.toNat) && decide (c.toNat ≤ 122)
set_option maxHeartbeats 1000000 in
theorem lower_any (w : World) (c : UInt8) :
    Calls Tryz.prog 90 #[.int .u8 (c.toNat : Int)] w fun e w' => e = .returned (.bool (lowB c)) ∧ w' = w := by
  by_cases h : 97 ≤ c.toNat
  · have HR : Hid (lowB c = decide ((c.toNat : Int) ≤ 122)) := by
      unfold lowB Hid
      rw [decide_eq_true h, Bool.true_and]
      exact decide_eq_decide.2 (by omega)
    go_enter Tryz.func90, Tryz.ntmps90
    go_wp2
    go_ret
    exact ⟨by rw [unhide HR]; rfl, rfl⟩
  · have HR : Hid (lowB c = false) := by
      unfold lowB Hid
      rw [decide_eq_false h, Bool.false_and]
    go_enter Tryz.func90, Tryz.ntmps90
    go_wp2
    go_ret
    exact ⟨by rw [unhide HR]; rfl, rfl⟩
/-- is c in l -/
def hasB (l : List UInt8) (c : UInt8) : Bool := l.contains c
theorem has_yes {l : List UInt8} {k : Nat} {c : UInt8} (h : k < l.length) (e : l[k] = c) : hasB l c = true := by
  unfold hasB
  rw [List.contains_iff_mem, ← e]
  exact List.getElem_mem h
theorem has_no {l : List UInt8} {c : UInt8} (h : ∀ j, (hj : j < l.length) → l[j] ≠ c) : hasB l c = false := by
  unfold hasB
  cases hc : l.contains c
  · rfl
  · rw [List.contains_iff_mem] at hc
    obtain ⟨j, hj, e⟩ := List.getElem_of_mem hc
    exact absurd e (h j hj)
set_option maxRecDepth 4000 in
set_option maxHeartbeats 1000000 in
theorem among_any (w : World) (c : UInt8) (l : List UInt8) (hl : l.length ≤ 60) (ha : l.all (fun b => decide (b.toNat < 128)) = true) :
    Calls Tryz.prog 73 #[.int .u8 (c.toNat : Int), .string (bl l)] w fun e w' => e = .returned (.bool (hasB l c)) ∧ Below w.heap.size w w' := by
  have hz := bl_size l
  have HA := hide ha
  clear ha
  go_enter Tryz.func73, Tryz.ntmps73
  go_wp2_with fail
  go_loopw [] (fun wr => ∃ k : Nat, k ≤ l.length ∧ wr = w.iter (bl l) k ∧ Hid (∀ j, j < k → (hj : j < l.length) → l[j] ≠ c)) (fun wr => l.length - wr.iterPos w.heap.size)
  case atStart => exact ⟨0, by omega, rfl, fun j hj => by omega⟩
  case round =>
    obtain ⟨k, hk, rfl, HN⟩ := hrel
    by_cases hlt : k < l.length
    · have hks : k < (bl l).size := by omega
      have hget : (bl l)[k]'hks = l[k] := rfl
      have hasc : ((bl l)[k]'hks).toNat < 128 := by
        rw [hget]
        exact of_decide_eq_true (List.all_eq_true.1 (unhide HA) _ (List.getElem_mem hlt))
      have hnx := fun ty => run_next_ascii (P := Tryz.prog) w (bl l) k ty hks hasc
      have hkk : (k : Int) < l.length := by omega
      by_cases he : l[k] = c
      · have HY := hide (has_yes hlt he)
        have hb : (((bl l)[k]'hks).toNat : Int) = c.toNat := by rw [hget, he]
        clear he hget hasc
        go_wp2
        go_ret
        exact ⟨by rw [unhide HY]; rfl, (Below.refl _ _).alloc (Nat.le_refl _) _⟩
      · have HN' : Hid (∀ j, j < k + 1 → (hj : j < l.length) → l[j] ≠ c) := fun j hj hjl => by
          by_cases hjk : j < k
          · exact unhide HN j hjk hjl
          · have e : j = k := by omega
            subst e
            exact he
        have hb : ((((bl l)[k]'hks).toNat : Int) == c.toNat) = false := by
          rw [hget]
          have : ¬ l[k].toNat = c.toNat := fun x => he (UInt8.toNat_inj.1 x)
          simp
          omega
        clear he hget hasc
        go_wp2_with fail
        go_roundw
        case rel => exact ⟨k + 1, by omega, rfl, HN'⟩
        case measure => simp; omega
    · have hkk : k = l.length := by omega
      subst hkk
      have hnx := fun ty => run_next_end (P := Tryz.prog) w (bl l) l.length ty (by omega)
      have HY := hide (has_no (l := l) (c := c) (fun j hj => unhide HN j hj hj))
      go_wp2
      go_ret
      exact ⟨by rw [unhide HY]; rfl, (Below.refl _ _).alloc (Nat.le_refl _) _⟩
end Go.Proofs.YtbojcemamhiodaaGreatDoor
namespace Go.Proofs.YtbojcemamhiodaaGreatDoor
open Go.RowKit

def hexL : List UInt8 := [48, 49, 50, 51, 52, 53, 54, 55, 56, 57, 97, 98, 99, 100, 101, 102]
/-- a letter as it is written -/
def letR (s : ByteArray) (i : Int) (esc : List UInt8) : Int × Int :=
  if bAt s i < 32 ∨ 126 < bAt s i then (0, 0) else
  if bAt s i ≠ 92 then (bAt s i, i + 1) else
  if (esc.any fun b => (b.toNat : Int) == bAt s (i + 1)) = true then (bAt s (i + 1), i + 2) else
  if bAt s (i + 1) = 120 ∧ 0 ≤ digit s (i + 2) ∧ 0 ≤ digit s (i + 3) then (16 * digit s (i + 2) + digit s (i + 3), i + 4) else (0, 0)
theorem bAt_nat (s : ByteArray) (i : Nat) (h : i < s.size) : bAt s (i : Int) = ((s[i]'h).toNat : Int) := by
  unfold bAt
  rw [dif_pos ⟨by omega, by omega⟩]
  rfl
theorem bAt_out (s : ByteArray) (i : Int) (h : (s.size : Int) ≤ i) : bAt s i = -1 := by
  unfold bAt
  rw [dif_neg (by omega)]
theorem any_at {esc : List UInt8} {c : UInt8} {x : Int} (h : x = c.toNat) : (esc.any fun b => (b.toNat : Int) == x) = hasB esc c := by
  unfold hasB
  rw [Bool.eq_iff_iff, List.any_eq_true, List.contains_iff_mem, h]
  constructor
  · rintro ⟨b, hb, e⟩
    rw [beq_iff_eq] at e
    rw [← UInt8.toNat_inj.1 (show b.toNat = c.toNat by omega)]
    exact hb
  · intro hc
    exact ⟨c, hc, by simp⟩
theorem any_out {esc : List UInt8} : (esc.any fun b => (b.toNat : Int) == -1) = false := by
  rw [List.any_eq_false]
  intro b _
  rw [beq_iff_eq]
  omega
def dg2 (b : Int) : Int := if 48 ≤ b ∧ b ≤ 57 then b - 48 else if 97 ≤ b ∧ b ≤ 102 then b - 97 + 10 else -1
theorem digit_eq (s : ByteArray) (i : Int) : digit s i = dg2 (bAt s i) := rfl
theorem dg2_has (d : UInt8) : hasB hexL d = decide (0 ≤ dg2 d.toNat) := by
  have key : ∀ n : Nat, n < 256 → hasB hexL (UInt8.ofNat n) = decide (0 ≤ dg2 n) := by decide +kernel
  have := key d.toNat d.toNat_lt
  rwa [UInt8.ofNat_toNat] at this
theorem dg2_lt (b : Int) : dg2 b < 16 := by 
  unfold dg2
  split
  · omega
  · split <;> omega
theorem dg2_at (d : UInt8) (k : Nat) (h : k < hexL.length) : ((hexL[k].toNat : Int) == (d.toNat : Int)) = decide (dg2 d.toNat = k) := by
  have key : ∀ k : Nat, k < 16 → ∀ n : Nat, n < 256 → ((((hexL.getD k 0).toNat : Int)) == (n : Int)) = decide (dg2 n = k) := by decide +kernel
  have h1 := key k h d.toNat d.toNat_lt
  rw [List.getD_eq_getElem?_getD, List.getElem?_eq_getElem h] at h1
  exact h1
theorem letR_1 {s : ByteArray} {i : Int} {esc : List UInt8} {b : UInt8} (e1 : bAt s i = b.toNat) (h : b.toNat < 32 ∨ 126 < b.toNat) : letR s i esc = (0, 0) := by
  unfold letR
  rw [if_pos (by omega)]
theorem letR_2 {s : ByteArray} {i : Int} {esc : List UInt8} {b : UInt8} (e1 : bAt s i = b.toNat) (h2 : ¬ b.toNat < 32) (h3 : ¬ 126 < b.toNat) (h4 : ¬ b.toNat = 92) : letR s i esc = ((b.toNat : Int), i + 1) := by
  unfold letR
  rw [if_neg (by omega), if_pos (by omega), e1]
theorem letR_0 {s : ByteArray} {i : Int} {esc : List UInt8} (e1 : bAt s i = -1) : letR s i esc = (0, 0) := by
  unfold letR
  rw [if_pos (by omega)]
theorem letR_3 {s : ByteArray} {i : Int} {esc : List UInt8} (e1 : bAt s i = 92) (e2 : bAt s (i + 1) = -1) : letR s i esc = (0, 0) := by
  unfold letR
  rw [if_neg (by omega), if_neg (by omega), e2, any_out, if_neg (by simp), if_neg (by omega)]
theorem letR_4 {s : ByteArray} {i : Int} {esc : List UInt8} {c : UInt8} (e1 : bAt s i = 92) (e2 : bAt s (i + 1) = c.toNat) (h : hasB esc c = true) : letR s i esc = ((c.toNat : Int), i + 2) := by
  unfold letR
  rw [if_neg (by omega), if_neg (by omega), any_at e2, if_pos h, e2]
theorem letR_5 {s : ByteArray} {i : Int} {esc : List UInt8} {c : UInt8} (e1 : bAt s i = 92) (e2 : bAt s (i + 1) = c.toNat) (h : hasB esc c = false) (hn : ¬ (c.toNat = 120 ∧ 0 ≤ digit s (i + 2) ∧ 0 ≤ digit s (i + 3))) : letR s i esc = (0, 0) := by
  unfold letR
  rw [if_neg (by omega), if_neg (by omega), any_at e2, if_neg (by rw [h]; exact Bool.false_ne_true), if_neg (by omega)]
theorem letR_6 {s : ByteArray} {i : Int} {esc : List UInt8} {c : UInt8} (e1 : bAt s i = 92) (e2 : bAt s (i + 1) = c.toNat) (h : hasB esc c = false) (hn : c.toNat = 120 ∧ 0 ≤ digit s (i + 2) ∧ 0 ≤ digit s (i + 3)) : letR s i esc = (16 * digit s (i + 2) + digit s (i + 3), i + 4) := by
  unfold letR
  rw [if_neg (by omega), if_neg (by omega), any_at e2, if_neg (by rw [h]; exact Bool.false_ne_true), if_pos (by omega)]
set_option maxRecDepth 4000 in
set_option maxHeartbeats 1000000 in
theorem letter_plain (w : World) (s : ByteArray) (i : Nat) (esc : List UInt8) (hi : i ≤ 1000) (hn : bAt s i ≠ 92) :
    Calls Tryz.prog 123 #[.string s, .int .i64 i, .string (bl esc)] w fun e w' => e = .returned (.tuple #[.int .u8 (letR s i esc).1, .int .i64 (letR s i esc).2]) ∧ Below w.heap.size w w' := by
  by_cases h1 : i < s.size
  · have e1 := bAt_nat s i h1
    obtain ⟨b, hb⟩ : ∃ b : UInt8, s[i]'h1 = b := ⟨_, rfl⟩
    rw [hb] at e1
    by_cases h2 : b.toNat < 32
    · have HR := hide (letR_1 (esc := esc) e1 (.inl h2))
      clear hn e1
      go_enter Tryz.func123, Tryz.ntmps123
      go_wp2
      go_ret2
      exact ⟨ret_pair (unhide HR), Below.refl _ _⟩
    · by_cases h3 : 126 < b.toNat
      · have HR := hide (letR_1 (esc := esc) e1 (.inr h3))
        clear hn e1
        go_enter Tryz.func123, Tryz.ntmps123
        go_wp2
        go_ret2
        exact ⟨ret_pair (unhide HR), Below.refl _ _⟩
      · have h4 : ¬ b.toNat = 92 := by omega
        have HR := hide (letR_2 (esc := esc) e1 h2 h3 h4)
        clear hn e1
        go_enter Tryz.func123, Tryz.ntmps123
        go_wp2
        go_ret2
        exact ⟨ret_pair (unhide HR), Below.refl _ _⟩
  · have HR := hide (letR_0 (esc := esc) (bAt_out s i (by omega)))
    clear hn
    go_enter Tryz.func123, Tryz.ntmps123
    go_wp2
    go_ret2
    exact ⟨ret_pair (unhide HR), Below.refl _ _⟩
end Go.Proofs.YtbojcemamhiodaaGreatDoor
namespace Go.Proofs.YtbojcemamhiodaaGreatDoor
open Go.RowKit

/-- the sum so far -/
def sumK (d1 d2 : Int) (k : Nat) : Int := (if d1 < k then 16 * d1 else 0) + (if d2 < k then d2 else 0)
theorem sumK_end {d1 d2 : Int} (h1 : d1 < 16) (h2 : d2 < 16) : sumK d1 d2 16 = 16 * d1 + d2 := by
  unfold sumK
  rw [if_pos (by omega), if_pos (by omega)]
theorem sumK_zero {d1 d2 : Int} (h1 : 0 ≤ d1) (h2 : 0 ≤ d2) : sumK d1 d2 0 = 0 := by
  unfold sumK
  rw [if_neg (by omega), if_neg (by omega)]
  rfl
theorem sumK_step (d1 d2 : Int) (k : Nat) : sumK d1 d2 (k + 1) = sumK d1 d2 k + (if d1 = k then 16 * (k : Int) else 0) + (if d2 = k then (k : Int) else 0) := by
  unfold sumK
  by_cases a : d1 = k
  · by_cases b : d2 = k
    · rw [if_pos (by omega), if_pos (by omega), if_neg (by omega), if_neg (by omega), if_pos a, if_pos b]; omega
    · by_cases b2 : d2 < k
      · rw [if_pos (by omega), if_pos (by omega), if_neg (by omega), if_pos (by omega), if_pos a, if_neg b]; omega
      · rw [if_pos (by omega), if_neg (by omega), if_neg (by omega), if_neg (by omega), if_pos a, if_neg b]; omega
  · rw [if_neg a]
    by_cases a2 : d1 < k
    · rw [if_pos (show d1 < ((k + 1 : Nat) : Int) by omega), if_pos a2]
      by_cases b : d2 = k
      · rw [if_pos (by omega), if_neg (by omega), if_pos b]; omega
      · by_cases b2 : d2 < k
        · rw [if_pos (by omega), if_pos (by omega), if_neg b]; omega
        · rw [if_neg (by omega), if_neg (by omega), if_neg b]; omega
    · rw [if_neg (show ¬ d1 < ((k + 1 : Nat) : Int) by omega), if_neg a2]
      by_cases b : d2 = k
      · rw [if_pos (by omega), if_neg (by omega), if_pos b]; omega
      · by_cases b2 : d2 < k
        · rw [if_pos (by omega), if_pos (by omega), if_neg b]; omega
        · rw [if_neg (by omega), if_neg (by omega), if_neg b]; omega
theorem wrap_small {x : Int} (h0 : 0 ≤ x) (h1 : x < 256) : IntKind.u8.wrap x = x := by rw [IntKind.wrap_u8]; omega
theorem iter_drewN (W : World) (s : ByteArray) (k n : Nat) : (W.iter s k).drewN n = (W.drewN n).iter s k := rfl
theorem iterPos_drewN (W : World) (n b : Nat) : (W.drewN n).iterPos b = W.iterPos b := rfl
theorem iterPos_at (W : World) (s : ByteArray) (p b : Nat) (h : W.heap.size = b) : (W.iter s p).iterPos b = p := by subst h; simp
theorem hexL_asc : hexL.all (fun b => decide (b.toNat < 128)) = true := by decide
set_option maxRecDepth 4000 in
set_option maxHeartbeats 1000000 in
theorem letter_x (w : World) (s : ByteArray) (i : Nat) (esc : List UInt8) (hs : s.size ≤ 400) (hl : esc.length ≤ 60) (ha : esc.all (fun b => decide (b.toNat < 128)) = true) (h7 : i + 3 < s.size) (hb : s[i] = 92) (hc : s[i + 1] = 120) (h6 : hasB esc 120 = false) :
    Calls Tryz.prog 123 #[.string s, .int .i64 i, .string (bl esc)] w fun e w' => e = .returned (.tuple #[.int .u8 (letR s i esc).1, .int .i64 (letR s i esc).2]) ∧ Below w.heap.size w w' := by
  have e1 : bAt s i = 92 := by rw [bAt_nat s i (by omega), hb]; rfl
  have e2 : bAt s ((i + 1 : Nat) : Int) = (120 : UInt8).toNat := by rw [bAt_nat s (i + 1) (by omega), hc]
  obtain ⟨b1, hb1⟩ : ∃ b : UInt8, s[i + 2] = b := ⟨_, rfl⟩
  obtain ⟨b2, hb2⟩ : ∃ b : UInt8, s[i + 3] = b := ⟨_, rfl⟩
  have d1 : digit s (i + 2) = dg2 b1.toNat := by rw [digit_eq, show (i : Int) + 2 = ((i + 2 : Nat) : Int) from by omega, bAt_nat s (i + 2) (by omega), hb1]
  have d2 : digit s (i + 3) = dg2 b2.toNat := by rw [digit_eq, show (i : Int) + 3 = ((i + 3 : Nat) : Int) from by omega, bAt_nat s (i + 3) (by omega), hb2]
  have HA := hide ha
  clear ha
  cases k1 : hasB hexL b1
  · have HR := hide (letR_5 (esc := esc) (c := 120) e1 e2 h6 (fun x => by
      have := x.2.1
      rw [d1] at this
      rw [dg2_has] at k1
      exact absurd this (by simpa using k1)))
    clear e1 e2 d1 d2
    go_enter Tryz.func123, Tryz.ntmps123
    go_wp2_with fail
    refine (among_any _ 120 esc hl (unhide HA)).mono ?_
    rintro e w1 ⟨rfl, hw1⟩
    have HB1 := hide hw1
    clear hw1
    go_wp2_with fail
    refine (among_any _ b1 hexL (by decide) hexL_asc).mono ?_
    rintro e w2 ⟨rfl, hw2⟩
    have HB2 := hide ((unhide HB1).trans (hw2.mono (unhide HB1).size))
    clear hw2
    go_wp2
    go_ret2
    exact ⟨ret_pair (unhide HR), unhide HB2⟩
  · cases k2 : hasB hexL b2
    · have HR := hide (letR_5 (esc := esc) (c := 120) e1 e2 h6 (fun x => by
        have := x.2.2
        rw [d2] at this
        rw [dg2_has] at k2
        exact absurd this (by simpa using k2)))
      clear e1 e2 d1 d2
      go_enter Tryz.func123, Tryz.ntmps123
      go_wp2_with fail
      refine (among_any _ 120 esc hl (unhide HA)).mono ?_
      rintro e w1 ⟨rfl, hw1⟩
      have HB1 := hide hw1
      clear hw1
      go_wp2_with fail
      refine (among_any _ b1 hexL (by decide) hexL_asc).mono ?_
      rintro e w2 ⟨rfl, hw2⟩
      have HB2 := hide ((unhide HB1).trans (hw2.mono (unhide HB1).size))
      clear hw2
      go_wp2_with fail
      refine (among_any _ b2 hexL (by decide) hexL_asc).mono ?_
      rintro e w3 ⟨rfl, hw3⟩
      have HB3 := hide ((unhide HB2).trans (hw3.mono (unhide HB2).size))
      clear hw3
      go_wp2
      go_ret2
      exact ⟨ret_pair (unhide HR), unhide HB3⟩
    · have p1 : 0 ≤ dg2 b1.toNat := by rw [dg2_has] at k1; simpa using k1
      have p2 : 0 ≤ dg2 b2.toNat := by rw [dg2_has] at k2; simpa using k2
      have HR := hide (letR_6 (esc := esc) (c := 120) e1 e2 h6 ⟨rfl, by rw [d1]; exact p1, by rw [d2]; exact p2⟩)
      rw [d1, d2] at HR
      clear e1 e2 d1 d2
      go_enter Tryz.func123, Tryz.ntmps123
      go_wp2_with fail
      refine (among_any _ 120 esc hl (unhide HA)).mono ?_
      rintro e w1 ⟨rfl, hw1⟩
      have HB1 := hide hw1
      clear hw1
      go_wp2_with fail
      refine (among_any _ b1 hexL (by decide) hexL_asc).mono ?_
      rintro e w2 ⟨rfl, hw2⟩
      have HB2 := hide ((unhide HB1).trans (hw2.mono (unhide HB1).size))
      clear hw2
      go_wp2_with fail
      refine (among_any _ b2 hexL (by decide) hexL_asc).mono ?_
      rintro e w3 ⟨rfl, hw3⟩
      have HB3 := hide ((unhide HB2).trans (hw3.mono (unhide HB2).size))
      clear hw3
      go_wp2_with fail
      have q1 := dg2_lt b1.toNat
      have q2 := dg2_lt b2.toNat
      go_loopw [8] (fun n wr => ∃ (k : Nat) (W : World), k ≤ 16 ∧ n = .int .i64 (sumK (dg2 b1.toNat) (dg2 b2.toNat) k) ∧ wr = W.iter ⟨#[48, 49, 50, 51, 52, 53, 54, 55, 56, 57, 97, 98, 99, 100, 101, 102]⟩ k ∧ W.heap.size = w3.heap.size ∧ Hid (Below w.heap.size w W)) (fun _ wr => 16 - wr.iterPos w3.heap.size)
      case atStart => exact ⟨0, w3, by omega, by rw [sumK_zero p1 p2], rfl, rfl, HB3⟩
      case round =>
        obtain ⟨k, W, hk, rfl, rfl, hsz, HW⟩ := hrel
        by_cases hlt : k < 16
        · have hks : k < (⟨#[48, 49, 50, 51, 52, 53, 54, 55, 56, 57, 97, 98, 99, 100, 101, 102]⟩ : ByteArray).size := hlt
          have hasc : (((⟨#[48, 49, 50, 51, 52, 53, 54, 55, 56, 57, 97, 98, 99, 100, 101, 102]⟩ : ByteArray))[k]'hks).toNat < 128 := of_decide_eq_true (List.all_eq_true.1 hexL_asc _ (List.getElem_mem (l := hexL) hlt))
          have hnx := fun ty => run_next_ascii (P := Tryz.prog) W ⟨#[48, 49, 50, 51, 52, 53, 54, 55, 56, 57, 97, 98, 99, 100, 101, 102]⟩ k ty hks hasc
          simp only [hsz] at hnx
          have f1 : (((((⟨#[48, 49, 50, 51, 52, 53, 54, 55, 56, 57, 97, 98, 99, 100, 101, 102]⟩ : ByteArray))[k]'hks).toNat : Int) == (b1.toNat : Int)) = decide (dg2 b1.toNat = k) := dg2_at b1 k hlt
          have f2 : (((((⟨#[48, 49, 50, 51, 52, 53, 54, 55, 56, 57, 97, 98, 99, 100, 101, 102]⟩ : ByteArray))[k]'hks).toNat : Int) == (b2.toNat : Int)) = decide (dg2 b2.toNat = k) := dg2_at b2 k hlt
          have hki : (k : Int) < 16 := by omega
          have hkj : (k : Int) < ((⟨#[48, 49, 50, 51, 52, 53, 54, 55, 56, 57, 97, 98, 99, 100, 101, 102]⟩ : ByteArray).size : Int) := by show (k : Int) < 16; omega
          have hk0 : (0 : Int) ≤ (k : Int) := by omega
          have hss1 : (i : Int) + 1 + 1 < s.size := by omega
          have hss2 : (i : Int) + 1 + 2 < s.size := by omega
          have HS := hide (sumK_step (dg2 b1.toNat) (dg2 b2.toNat) k)
          have hm0 : 0 ≤ sumK (dg2 b1.toNat) (dg2 b2.toNat) k ∧ sumK (dg2 b1.toNat) (dg2 b2.toNat) k ≤ 1000 := by
            unfold sumK
            constructor <;> (split <;> split <;> omega)
          obtain ⟨m, hm⟩ : ∃ m, sumK (dg2 b1.toNat) (dg2 b2.toNat) k = m := ⟨_, rfl⟩
          rw [hm] at HS hm0 ⊢
          obtain ⟨hm1, hm2⟩ := hm0
          clear hm hasc
          by_cases g1 : dg2 b1.toNat = k
          · by_cases g2 : dg2 b2.toNat = k
            · rw [if_pos g1, if_pos g2] at HS
              rw [decide_eq_true g1] at f1
              rw [decide_eq_true g2] at f2
              clear g1 g2
              go_wp2_with fail
              go_quiet (fail)
              go_wp2_with fail
              go_quiet (fail)
              go_wp2_with fail
              go_roundw
              case rel =>
                simp only [iter_drewN]
                refine ⟨k + 1, _, by omega, ?_, rfl, ?_, ?_⟩
                · first | (rw [unhide HS]; done) | (rw [unhide HS]; simp)
                · exact hsz
                · first | exact hide (below_drewN (unhide HW) _) | exact hide (below_drewN (below_drewN (unhide HW) _) _)
              case measure =>
                simp only [iterPos_drewN, iterPos_at _ _ _ _ hsz]
                omega
            · rw [if_pos g1, if_neg g2] at HS
              rw [decide_eq_true g1] at f1
              rw [decide_eq_false g2] at f2
              clear g1 g2
              go_wp2_with fail
              go_quiet (fail)
              go_wp2_with fail
              go_quiet (fail)
              go_wp2_with fail
              go_roundw
              case rel =>
                simp only [iter_drewN]
                refine ⟨k + 1, _, by omega, ?_, rfl, ?_, ?_⟩
                · first | (rw [unhide HS]; done) | (rw [unhide HS]; simp)
                · exact hsz
                · first | exact hide (below_drewN (unhide HW) _) | exact hide (below_drewN (below_drewN (unhide HW) _) _)
              case measure =>
                simp only [iterPos_drewN, iterPos_at _ _ _ _ hsz]
                omega
          · by_cases g2 : dg2 b2.toNat = k
            · rw [if_neg g1, if_pos g2] at HS
              rw [decide_eq_false g1] at f1
              rw [decide_eq_true g2] at f2
              clear g1 g2
              go_wp2_with fail
              go_quiet (fail)
              go_wp2_with fail
              go_quiet (fail)
              go_wp2_with fail
              go_roundw
              case rel =>
                simp only [iter_drewN]
                refine ⟨k + 1, _, by omega, ?_, rfl, ?_, ?_⟩
                · first | (rw [unhide HS]; done) | (rw [unhide HS]; simp)
                · exact hsz
                · first | exact hide (below_drewN (unhide HW) _) | exact hide (below_drewN (below_drewN (unhide HW) _) _)
              case measure =>
                simp only [iterPos_drewN, iterPos_at _ _ _ _ hsz]
                omega
            · rw [if_neg g1, if_neg g2] at HS
              rw [decide_eq_false g1] at f1
              rw [decide_eq_false g2] at f2
              clear g1 g2
              go_wp2_with fail
              go_quiet (fail)
              go_wp2_with fail
              go_quiet (fail)
              go_wp2_with fail
              go_roundw
              case rel =>
                simp only [iter_drewN]
                refine ⟨k + 1, _, by omega, ?_, rfl, ?_, ?_⟩
                · first | (rw [unhide HS]; done) | (rw [unhide HS]; simp)
                · exact hsz
                · first | exact hide (below_drewN (unhide HW) _) | exact hide (below_drewN (below_drewN (unhide HW) _) _)
              case measure =>
                simp only [iterPos_drewN, iterPos_at _ _ _ _ hsz]
                omega
        · have hkk : k = 16 := by omega
          subst hkk
          have hnx := fun ty => run_next_end (P := Tryz.prog) W ⟨#[48, 49, 50, 51, 52, 53, 54, 55, 56, 57, 97, 98, 99, 100, 101, 102]⟩ 16 ty (by decide)
          simp only [hsz] at hnx
          have hse := sumK_end q1 q2
          have hw8 := wrap_small (x := 16 * dg2 b1.toNat + dg2 b2.toNat) (by omega) (by omega)
          go_wp2
          go_ret2
          exact ⟨ret_pair (unhide HR), (unhide HW).alloc (unhide HW).size _⟩
end Go.Proofs.YtbojcemamhiodaaGreatDoor
namespace Go.Proofs.YtbojcemamhiodaaGreatDoor
open Go.RowKit

set_option maxRecDepth 4000 in
set_option maxHeartbeats 1000000 in
theorem letter_esc (w : World) (s : ByteArray) (i : Nat) (esc : List UInt8) (hs : s.size ≤ 400) (h1 : i < s.size) (hl : esc.length ≤ 60) (ha : esc.all (fun b => decide (b.toNat < 128)) = true) (hb : s[i]'h1 = 92) :
    Calls Tryz.prog 123 #[.string s, .int .i64 i, .string (bl esc)] w fun e w' => e = .returned (.tuple #[.int .u8 (letR s i esc).1, .int .i64 (letR s i esc).2]) ∧ Below w.heap.size w w' := by
  have e1 : bAt s i = 92 := by rw [bAt_nat s i h1, hb]; rfl
  by_cases h5 : i + 1 < s.size
  · have e2 := bAt_nat s (i + 1) h5
    obtain ⟨c, hc⟩ : ∃ c : UInt8, s[i + 1]'h5 = c := ⟨_, rfl⟩
    rw [hc] at e2
    have HA := hide ha
    clear ha
    cases h6 : hasB esc c
    · by_cases h7 : i + 3 < s.size
      · by_cases h8 : c = 120
        · exact letter_x w s i esc hs hl (unhide HA) h7 hb (by rw [hc]; exact h8) (by rw [← h8]; exact h6)
        · have hne : ¬ c.toNat = 120 := fun x => h8 (UInt8.toNat_inj.1 x)
          have HR := hide (letR_5 (esc := esc) e1 e2 h6 (fun x => hne x.1))
          clear e1 e2 h8
          go_enter Tryz.func123, Tryz.ntmps123
          go_wp2_with fail
          refine (among_any _ c esc hl (unhide HA)).mono ?_
          rintro e w1 ⟨rfl, hb1⟩
          have HB1 := hide hb1
          clear hb1
          go_wp2
          go_ret2
          exact ⟨ret_pair (unhide HR), unhide HB1⟩
      · have HR := hide (letR_5 (esc := esc) e1 e2 h6 (fun x => by
          have := x.2.2
          rw [digit_eq, bAt_out s ((i : Int) + 3) (by omega)] at this
          exact absurd this (by decide)))
        clear e1 e2
        go_enter Tryz.func123, Tryz.ntmps123
        go_wp2_with fail
        refine (among_any _ c esc hl (unhide HA)).mono ?_
        rintro e w1 ⟨rfl, hb1⟩
        have HB1 := hide hb1
        clear hb1
        go_wp2
        go_ret2
        exact ⟨ret_pair (unhide HR), unhide HB1⟩
    · have HR := hide (letR_4 (esc := esc) e1 e2 h6)
      clear e1 e2
      go_enter Tryz.func123, Tryz.ntmps123
      go_wp2_with fail
      refine (among_any _ c esc hl (unhide HA)).mono ?_
      rintro e w1 ⟨rfl, hb1⟩
      have HB1 := hide hb1
      clear hb1
      go_wp2
      go_ret2
      exact ⟨ret_pair (unhide HR), unhide HB1⟩
  · have HR := hide (letR_3 (esc := esc) e1 (bAt_out s (i + 1) (by omega)))
    clear e1
    go_enter Tryz.func123, Tryz.ntmps123
    go_wp2
    go_ret2
    exact ⟨ret_pair (unhide HR), Below.refl _ _⟩
theorem letter_any (w : World) (s : ByteArray) (i : Nat) (esc : List UInt8) (hs : s.size ≤ 400) (hi : i ≤ 1000) (hl : esc.length ≤ 60) (ha : esc.all (fun b => decide (b.toNat < 128)) = true) :
    Calls Tryz.prog 123 #[.string s, .int .i64 i, .string (bl esc)] w fun e w' => e = .returned (.tuple #[.int .u8 (letR s i esc).1, .int .i64 (letR s i esc).2]) ∧ Below w.heap.size w w' := by
  by_cases h : bAt s i = 92
  · have h1 : i < s.size := by
      rcases Nat.lt_or_ge i s.size with h1 | h1
      · exact h1
      · rw [bAt_out s i (by omega)] at h
        omega
    refine letter_esc w s i esc hs h1 hl ha ?_
    rw [bAt_nat s i h1] at h
    exact UInt8.toNat_inj.1 (show (s[i]'h1).toNat = 92 by omega)
  · exact letter_plain w s i esc hi h
/-- a byte of a set -/
def memR (s : ByteArray) (i : Int) : Int × Int :=
  if bAt s i = 93 ∨ bAt s i = 45 ∨ bAt s i = 94 ∨ bAt s i = 91 then (0, 0) else letR s i [93, 92, 45, 94, 91]
theorem memR_no {s : ByteArray} {i : Int} (h : ¬ (bAt s i = 93 ∨ bAt s i = 45 ∨ bAt s i = 94 ∨ bAt s i = 91)) : memR s i = letR s i [93, 92, 45, 94, 91] := if_neg h
theorem memR_yes {s : ByteArray} {i : Int} (h : bAt s i = 93 ∨ bAt s i = 45 ∨ bAt s i = 94 ∨ bAt s i = 91) : memR s i = (0, 0) := if_pos h
theorem has_marks (b : UInt8) : hasB [93, 45, 94, 91] b = true ↔ ((b.toNat : Int) = 93 ∨ (b.toNat : Int) = 45 ∨ (b.toNat : Int) = 94 ∨ (b.toNat : Int) = 91) := by
  have key : ∀ n : Nat, n < 256 → (hasB [93, 45, 94, 91] (UInt8.ofNat n) = true ↔ ((n : Int) = 93 ∨ (n : Int) = 45 ∨ (n : Int) = 94 ∨ (n : Int) = 91)) := by decide +kernel
  have := key b.toNat b.toNat_lt
  rwa [UInt8.ofNat_toNat] at this
set_option maxRecDepth 4000 in
set_option maxHeartbeats 1000000 in
theorem refMember_any (w : World) (s : ByteArray) (i : Nat) (hs : s.size ≤ 400) (hi : i ≤ 1000) :
    Calls Tryz.prog 124 #[.string s, .int .i64 i] w fun e w' => e = .returned (.tuple #[.int .u8 (memR s i).1, .int .i64 (memR s i).2]) ∧ Below w.heap.size w w' := by
  have HL := hide (fun W : World => letter_any W s i [93, 92, 45, 94, 91] hs hi (by decide) (by decide))
  by_cases h1 : i < s.size
  · have e1 := bAt_nat s i h1
    obtain ⟨b, hb⟩ : ∃ b : UInt8, s[i]'h1 = b := ⟨_, rfl⟩
    rw [hb] at e1
    cases h2 : hasB [93, 45, 94, 91] b
    · have hno : ¬ (bAt s i = 93 ∨ bAt s i = 45 ∨ bAt s i = 94 ∨ bAt s i = 91) := by
        rw [e1]
        intro x
        rw [(has_marks b).2 x] at h2
        exact Bool.noConfusion h2
      have HR := hide (memR_no hno)
      clear e1 hno
      go_enter Tryz.func124, Tryz.ntmps124
      go_wp2_with fail
      refine (among_any _ b [93, 45, 94, 91] (by decide) (by decide)).mono ?_
      rintro e w1 ⟨rfl, hb1⟩
      have HB1 := hide hb1
      clear hb1
      go_wp2_with fail
      refine (unhide HL _).mono ?_
      rintro e w2 ⟨rfl, hb2⟩
      have HB2 := hide ((unhide HB1).trans (hb2.mono (unhide HB1).size))
      clear hb2
      go_wp2
      go_ret2
      exact ⟨ret_pair (unhide HR), unhide HB2⟩
    · have hyes : bAt s i = 93 ∨ bAt s i = 45 ∨ bAt s i = 94 ∨ bAt s i = 91 := by
        rw [e1]
        exact (has_marks b).1 h2
      have HR := hide (memR_yes hyes)
      clear e1 hyes
      go_enter Tryz.func124, Tryz.ntmps124
      go_wp2_with fail
      refine (among_any _ b [93, 45, 94, 91] (by decide) (by decide)).mono ?_
      rintro e w1 ⟨rfl, hb1⟩
      have HB1 := hide hb1
      clear hb1
      go_wp2
      go_ret2
      exact ⟨ret_pair (unhide HR), unhide HB1⟩
  · have HR := hide (memR_no (s := s) (i := i) (by rw [bAt_out s i (by omega)]; omega))
    go_enter Tryz.func124, Tryz.ntmps124
    go_wp2_with fail
    refine (unhide HL _).mono ?_
    rintro e w2 ⟨rfl, hb2⟩
    have HB2 := hide hb2
    clear hb2
    go_wp2
    go_ret2
    exact ⟨ret_pair (unhide HR), unhide HB2⟩
end Go.Proofs.YtbojcemamhiodaaGreatDoor
namespace Go.Proofs.YtbojcemamhiodaaGreatDoor
open Go.RowKit

/-- the cells of a token -/
def tokV (what str : ByteArray) (f : Nat → Bool) (a : Int) : List Value := .string what :: .string str :: ((List.range 256).map (fun c => Value.bool (f c)) ++ [.int .i64 a])
def noB (_ : Nat) : Bool := false
theorem tokV_len (what str : ByteArray) (f : Nat → Bool) (a : Int) : (tokV what str f a).length = 259 := by simp [tokV]
theorem zeroTok : Tryz.zeroCells83 = (tokV .empty .empty noB 0).toArray := by kernel_rfl
theorem infoTok : (Tryz.prog.info? 83).map (fun i => (i.zero, i.size)) = some (some (.agg (tokV .empty .empty noB 0).toArray), 259) := by kernel_rfl
theorem sizeTok : (Tryz.prog.info? 83).map (·.size) = some 259 := (zero_of_info infoTok).2
theorem tokV_what (a b a' : ByteArray) (f : Nat → Bool) (i : Int) : (tokV a b f i).set 0 (.string a') = tokV a' b f i := rfl
theorem tokV_str (a b b' : ByteArray) (f : Nat → Bool) (i : Int) : (tokV a b f i).set 1 (.string b') = tokV a b' f i := rfl
theorem tokV_at (a b : ByteArray) (f : Nat → Bool) (i i' : Int) : (tokV a b f i).set 258 (.int .i64 i') = tokV a b f i' := by
  unfold tokV
  rw [List.set_cons_succ, List.set_cons_succ, List.set_append, if_neg (by simp)]
  simp
theorem tokV_one (a b : ByteArray) (f : Nat → Bool) (i : Int) : ∀ v ∈ tokV a b f i, v.oneCell' = true := by
  intro v hv
  simp [tokV] at hv
  rcases hv with rfl | rfl | ⟨c, _, rfl⟩ | rfl <;> rfl
/-- a token in a block of its own -/
def TokB (w : World) (b : Nat) (what str : ByteArray) (f : Nat → Bool) (a : Int) : Prop := w.heap[b]? = some (.cells (tokV what str f a).toArray 83)

section
variable {w w' : World} {b n : Nat} {what str : ByteArray} {f : Nat → Bool} {a : Int}
theorem TokB.lt (h : TokB w b what str f a) : b < w.heap.size := (Array.getElem?_eq_some_iff.1 h).1
theorem TokB.below (h : TokB w b what str f a) (hb : Below n w w') (hn : w.heap.size ≤ n) : TokB w' b what str f a := (hb.block b (Nat.lt_of_lt_of_le h.lt hn)).trans h
theorem TokB.c0 (h : TokB w b what str f a) : w.cell? ⟨b, 0, none⟩ = some (.string what) := by simp only [World.cell?, TokB] at *; rw [h]; rfl
theorem TokB.c1 (h : TokB w b what str f a) : w.cell? ⟨b, 1, none⟩ = some (.string str) := by simp only [World.cell?, TokB] at *; rw [h]; rfl
theorem TokB.fz (h : TokB w b what str f a) (o : Nat) : w.frozen? ⟨b, o, none⟩ = false := by simp only [World.frozen?, TokB] at *; rw [h]; simp
theorem TokB.alloc (h : TokB w b what str f a) (o : Obj) : TokB (w.alloc o) b what str f a := (Below.heap_alloc _ _ _ h.lt).trans h
theorem TokB.other (h : TokB w b what str f a) {p : Addr} (hp : p.block ≠ b) (u : Value) : TokB (w.setCell p u) b what str f a := by
  unfold TokB at *
  rw [Below.heap_setCell _ _ _ _ (fun e => hp e.symm), h]
theorem set_block {w : World} {b o : Nat} {C : Array Value} {t : TypeId} {fr : Nat × Nat} (h : w.heap[b]? = some (.cells C t fr)) (v : Value) : (w.setCell ⟨b, o, none⟩ v).heap[b]? = some (.cells (C.setIfInBounds o v) t fr) := by
  unfold World.setCell
  simp only [Array.getElem?_modify, h]
  simp
theorem storeRow {P : Program} {w : World} {b : Nat} {t : TypeId} {C : Array Value} {L : List Value} (hb : w.heap[b]? = some (.cells C t (0, 0))) (hn : C.size = L.length) (h1 : ∀ v ∈ L, v.oneCell' = true) :
    (storeCells ⟨b, 0, none⟩ L).run P w = .ok () (w.setRow b L.toArray) := by
  have := run_storeCells_at (P := P) b 0 t L 0 C w hb (by omega) h1
  rw [this]
  congr 2
  apply Array.ext'
  simp
  omega
theorem TokB.store (h : TokB w b what str f a) (what' str' : ByteArray) (f' : Nat → Bool) (a' : Int) : (storeCells ⟨b, 0, none⟩ (tokV what' str' f' a')).run Tryz.prog w = .ok () (w.setRow b (tokV what' str' f' a').toArray) :=
  storeRow h (by simp [tokV_len]) (tokV_one _ _ _ _)
theorem TokB.row (h : TokB w b what str f a) (what' str' : ByteArray) (f' : Nat → Bool) (a' : Int) : TokB (w.setRow b (tokV what' str' f' a').toArray) b what' str' f' a' := setRow_heap w b _ _ _ _ h
theorem TokB.row_other (h : TokB w b what str f a) {c : Nat} (hc : b ≠ c) (C : Array Value) : TokB (w.setRow c C) b what str f a := (setRow_other w c b C hc).trans h
theorem TokB.load (h : TokB w b what str f a) : (loadVar 83 ⟨b, 0, none⟩).run Tryz.prog w = .ok (.agg (tokV what str f a).toArray) w :=
  run_loadVar_row w b _ 83 _ (0, 0) _ h Tryz.underlying83 rfl (by rw [sizeTok]; simp [tokV_len])
theorem TokB.loadAt (h : TokB w b what str f a) : (Instr.loadAt 83 (.pointer (some ⟨b, 0, none⟩))).run Tryz.prog w = .ok (.agg (tokV what str f a).toArray) w := by
  simp only [Instr.loadAt, Instr.sureAddr, Sem.run_bind, Sem.run_pure, Result.andThen]
  exact h.load
theorem TokB.setS (h : TokB w b what str f a) (str' : ByteArray) : TokB (w.setCell ⟨b, 1, none⟩ (.string str')) b what str' f a := by
  unfold TokB at *
  rw [set_block h, List.setIfInBounds_toArray, tokV_str]
theorem TokB.setW (h : TokB w b what str f a) (what' : ByteArray) : TokB (w.setCell ⟨b, 0, none⟩ (.string what')) b what' str f a := by
  unfold TokB at *
  rw [set_block h, List.setIfInBounds_toArray, tokV_what]
theorem ret_tok {fn : Func} {R : Ending → World → Prop} {c : Act} {p u : Tmp} {x : Value} (hres : fn.results = #[.cell p 83, .tmp u]) (hp : c.tmps.getD p undef = .pointer (some ⟨b, 0, none⟩)) (hu : c.tmps.getD u undef = x)
    (h : TokB w b what str f a) (hd : c.defers = []) (hR : R (.returned (.tuple #[.agg (tokV what str f a).toArray, x])) w) : bodyPost Tryz.prog fn R .ret c w := by
  refine bodyPost_ret (v := .tuple #[.agg (tokV what str f a).toArray, x]) ?_ hd hR
  rw [results_cell_tmp hres, hp, hu]
  simp [asAddr, Result.andThen, h.load]
theorem tok_new (w : World) (what str : ByteArray) (f : Nat → Bool) (a : Int) : TokB (w.alloc (.cells (tokV what str f a).toArray 83)) w.heap.size what str f a := heap_alloc_last w _
end
end Go.Proofs.YtbojcemamhiodaaGreatDoor
namespace Go.Proofs.YtbojcemamhiodaaGreatDoor

theorem any_WM (x : Int) : (([39, 92] : List UInt8).any fun b => (b.toNat : Int) == x) = isWM x := by
  unfold isWM
  rw [Bool.eq_iff_iff]
  simp
  omega
theorem any_SM (x : Int) : (([93, 92, 45, 94, 91] : List UInt8).any fun b => (b.toNat : Int) == x) = isSM x := by
  unfold isSM
  rw [Bool.eq_iff_iff]
  simp
  omega
/-- what an escape is, on both sides -/
theorem letR_escC (s : ByteArray) (i : Int) (esc : List UInt8) (m : Bool) (h : bAt s i = 92) (hm : (esc.any fun b => (b.toNat : Int) == bAt s (i + 1)) = m) (hx : m = true → 0 ≤ bAt s (i + 1)) : letR s i esc = if (escC s i m).1 < 0 then (0, 0) else escC s i m := by
  have r2 := digit_range s (i + 2)
  have r3 := digit_range s (i + 3)
  have hL : letR s i esc = if m = true then (bAt s (i + 1), i + 2) else if bAt s (i + 1) = 120 ∧ 0 ≤ digit s (i + 2) ∧ 0 ≤ digit s (i + 3) then (16 * digit s (i + 2) + digit s (i + 3), i + 4) else (0, 0) := by
    unfold letR
    rw [if_neg (by omega), if_neg (by omega), hm]
  rw [hL]
  cases m with
  | true =>
    have hE : escC s i true = (bAt s (i + 1), i + 2) := by unfold escC; rw [if_pos rfl]
    have := hx rfl
    rw [hE, if_pos rfl, if_neg (by show ¬ bAt s (i + 1) < 0; omega)]
  | false =>
    rw [if_neg (by exact Bool.false_ne_true)]
    by_cases h1 : bAt s (i + 1) = 120
    · by_cases h2 : digit s (i + 2) < 0 ∨ digit s (i + 3) < 0
      · have hE : escC s i false = (-1, i) := by unfold escC; rw [if_neg (by exact Bool.false_ne_true), if_neg (by omega), if_pos h2]
        rw [hE, if_neg (by omega), if_pos (by show (-1 : Int) < 0; omega)]
      · have hE : escC s i false = (digit s (i + 2) * 16 + digit s (i + 3), i + 4) := by unfold escC; rw [if_neg (by exact Bool.false_ne_true), if_neg (by omega), if_neg h2]
        rw [hE, if_pos (by omega), if_neg (by show ¬ digit s (i + 2) * 16 + digit s (i + 3) < 0; omega)]
        congr 1
        omega
    · have hE : escC s i false = (-1, i) := by unfold escC; rw [if_neg (by exact Bool.false_ne_true), if_pos h1]
      rw [hE, if_neg (by omega), if_pos (by show (-1 : Int) < 0; omega)]
theorem letR_plain (s : ByteArray) (i : Int) (esc : List UInt8) (h : bAt s i ≠ 92) : letR s i esc = if (plainC (bAt s i) i false).1 < 0 then (0, 0) else plainC (bAt s i) i false := by
  by_cases h1 : bAt s i < 32 ∨ 126 < bAt s i
  · have hL : letR s i esc = (0, 0) := by unfold letR; rw [if_pos h1]
    have hP : plainC (bAt s i) i false = (-1, i) := by unfold plainC; rw [if_pos (by omega)]
    rw [hL, hP, if_pos (by show (-1 : Int) < 0; omega)]
  · have hL : letR s i esc = (bAt s i, i + 1) := by unfold letR; rw [if_neg h1, if_pos h]
    have hP : plainC (bAt s i) i false = (bAt s i, i + 1) := by unfold plainC; rw [if_neg (by simp; omega)]
    rw [hL, hP, if_neg (by show ¬ bAt s i < 0; omega)]
/-- a letter of a word, on both sides -/
theorem ref_wordC (s : ByteArray) (i : Int) (h : bAt s i ≠ 39) : letR s i [39, 92] = if (wordC s i).1 < 0 then (0, 0) else wordC s i := by
  unfold wordC
  by_cases h1 : bAt s i = 92
  · rw [if_pos h1]
    refine letR_escC s i _ _ h1 (any_WM _) (fun x => ?_)
    unfold isWM at x
    simp at x
    omega
  · rw [if_neg h1]
    have hm : isWM (bAt s i) = false := by
      unfold isWM
      simp
      omega
    rw [hm]
    exact letR_plain s i _ h1
/-- a byte of a set, on both sides -/
theorem ref_setC (s : ByteArray) (i : Int) : memR s i = if (setC s i).1 < 0 then (0, 0) else setC s i := by
  unfold setC memR
  by_cases h1 : bAt s i = 92
  · rw [if_neg (by omega), if_pos h1]
    refine letR_escC s i _ _ h1 (any_SM _) (fun x => ?_)
    unfold isSM at x
    simp at x
    omega
  · rw [if_neg h1]
    by_cases h2 : bAt s i = 93 ∨ bAt s i = 45 ∨ bAt s i = 94 ∨ bAt s i = 91
    · have hm : isSM (bAt s i) = true := by
        unfold isSM
        simp
        omega
      rw [if_pos h2, hm]
      unfold plainC
      rw [if_pos (by simp)]
    · have hm : isSM (bAt s i) = false := by
        unfold isSM
        simp
        omega
      rw [if_neg h2, hm]
      exact letR_plain s i _ h1
end Go.Proofs.YtbojcemamhiodaaGreatDoor
namespace Go.Proofs.YtbojcemamhiodaaGreatDoor
open Go.RowKit

theorem conv_one (b : Int) (c : UInt8) (hb : (c.toNat : Int) = b) (W : World) (B : Nat) (h : W.cell? ⟨B, 0, none⟩ = some (.int .u8 b)) : (convert 74 9 (.slice (some ⟨B, 0, none⟩) 1 1)).run Tryz.prog W = .ok (.string ⟨#[c]⟩) W := by
  refine run_convert_bytes_back (P := Tryz.prog) W 74 9 5 ⟨B, 0, none⟩ 1 [c] Tryz.underlying74 Tryz.underlying5 Tryz.underlying9 ?_
  intro j hj
  simp at hj
  subst hj
  have hadd : (⟨B, 0, none⟩ : Addr).add 0 = ⟨B, 0, none⟩ := by unfold Addr.add; split <;> simp_all
  rw [hadd, h]
  show _ = some (Value.int .u8 (c.toNat : Int))
  rw [hb]
def noneW : ByteArray := ⟨#[110, 111, 110, 101]⟩
def wordW : ByteArray := ⟨#[119, 111, 114, 100]⟩
def OutQ (s : ByteArray) (i : Nat) (e : Ending) : Prop := ∃ (what str : ByteArray) (p : Int), e = .returned (.tuple #[.agg (tokV what str noB i).toArray, .int .i64 p]) ∧
  ((wordEnd s (s.size + 1 - i) (i + 1) = none ∧ what = noneW) ∨ (∃ j, wordEnd s (s.size + 1 - i) (i + 1) = some j ∧ what = wordW ∧ str = ⟨(wordBs s (s.size + 1) (i + 1)).toArray⟩ ∧ p = j + 1))
theorem wordC_zero {s : ByteArray} {j : Nat} (h : (wordC s j).1 < 0) (hq : bAt s j ≠ 39) : letR s j [39, 92] = (0, 0) := by rw [ref_wordC s j hq, if_pos h]
theorem wordC_some {s : ByteArray} {j : Nat} (h : 0 ≤ (wordC s j).1) (hq : bAt s j ≠ 39) : letR s j [39, 92] = wordC s j := by rw [ref_wordC s j hq, if_neg (by omega)]
theorem wordC_quote {s : ByteArray} {j : Int} (h : bAt s j = 39) : (wordC s j).1 < 0 := by
  unfold wordC
  rw [if_neg (by omega)]
  unfold plainC
  rw [h, if_pos (by right; right; rfl)]
  show (-1 : Int) < 0
  omega
theorem wordC_out {s : ByteArray} {j : Int} (h : (s.size : Int) ≤ j) : (wordC s j).1 < 0 := by
  unfold wordC
  rw [bAt_out s j h, if_neg (by omega)]
  unfold plainC
  rw [if_pos (by omega)]
  show (-1 : Int) < 0
  omega
theorem wordEnd_out {s : ByteArray} {n : Nat} {j : Int} (h : (s.size : Int) ≤ j) : wordEnd s n j = none := by
  cases n with
  | zero => rfl
  | succ n => exact wordEnd_2 (by rw [bAt_out s j h]; omega) (wordC_out h)
theorem append_bl (acc : List UInt8) (c : UInt8) : (⟨acc.toArray⟩ : ByteArray) ++ ⟨#[c]⟩ = ⟨(acc ++ [c]).toArray⟩ := by
  apply ByteArray.ext
  simp
theorem storeTok2 (w : World) (o : Obj) (a b a' b' : ByteArray) (f f' : Nat → Bool) (i i' : Int) : (storeCells ⟨w.heap.size + 1, 0, none⟩ (tokV a' b' f' i')).run Tryz.prog ((w.alloc o).alloc (.cells (tokV a b f i).toArray 83)) = .ok () ((w.alloc o).alloc (.cells (tokV a' b' f' i').toArray 83)) := by
  have h := (tok_new (w.alloc o) a b f i).store a' b' f' i'
  rw [show (w.alloc o).heap.size = w.heap.size + 1 from by simp] at h
  rw [h, ← show (w.alloc o).heap.size = w.heap.size + 1 from by simp, World.setRow_alloc_new]
set_option maxRecDepth 4000 in
set_option maxHeartbeats 1000000 in
theorem quoted_any (w : World) (s : ByteArray) (i : Nat) (hs : s.size ≤ 400) (hi : i < s.size) :
    Calls Tryz.prog 91 #[.string s, .int .i64 i] w fun e w' => OutQ s i e ∧ Below w.heap.size w w' := by
  have hzt := zeroTok
  have hL : ((tokV .empty .empty noB 0).set 258 (.int .i64 i)).set 0 (.string ⟨#[110, 111, 110, 101]⟩) = tokV noneW .empty noB i := by rw [tokV_at]; rfl
  have hlen := tokV_len
  have hst := fun o => storeTok2 w o .empty .empty noneW .empty noB noB 0 i
  go_enter Tryz.func91, Tryz.ntmps91
  go_wp2_with fail
  go_loopw [7] (fun k wr => ∃ (j n m : Nat) (acc : List UInt8), k = .int .i64 j ∧ j ≤ s.size ∧ Hid (i < j ∧ s.size < n + j ∧ s.size < m + j ∧ acc.length ≤ j) ∧ Hid (wordEnd s (s.size + 1 - i) (i + 1) = wordEnd s n j) ∧ Hid (wordBs s (s.size + 1) (i + 1) = acc ++ wordBs s m j) ∧
      Hid (TokB wr (w.heap.size + 1) noneW ⟨acc.toArray⟩ noB i) ∧ Hid (TokB wr w.heap.size .empty .empty noB 0) ∧ Hid (Below w.heap.size w wr)) (fun k _ => s.size - (intOf k).toNat)
  case atStart =>
    refine ⟨i + 1, s.size + 1 - i, s.size + 1, [], rfl, by omega, ⟨by omega, by omega, by omega, by simp⟩, rfl, rfl, ?_, ?_, ?_⟩
    · have h := tok_new (w.alloc (.cells (tokV .empty .empty noB 0).toArray 83)) noneW .empty noB i
      rw [show (w.alloc (.cells (tokV .empty .empty noB 0).toArray 83)).heap.size = w.heap.size + 1 from by simp] at h
      exact h
    · exact (tok_new w .empty .empty noB 0).alloc _
    · exact ((Below.refl _ _).alloc (Nat.le_refl _) _).alloc (by simp) _
  case round =>
    obtain ⟨j, n, m, acc, rfl, hj, HJ, HE, HB, HT, HR, HW⟩ := hrel
    clear hL hst
    by_cases hlt : j < s.size
    · have e1 := bAt_nat s j hlt
      obtain ⟨b, hb⟩ : ∃ b : UInt8, s[j]'hlt = b := ⟨_, rfl⟩
      rw [hb] at e1
      by_cases h39 : b.toNat = 39
      · have HX := hide (show bAt s j = 39 by omega)
        clear e1
        obtain ⟨c0, c1, cf, cl⟩ := And.intro (unhide HT).c0 (And.intro (unhide HT).c1 (And.intro (unhide HT).fz (unhide HT).lt))
        go_wp2_with fail
        refine wp_load rfl ((unhide HT).setW ⟨#[119, 111, 114, 100]⟩).loadAt ?_
        go_wp2_with fail
        have hR2 := (unhide HR).other (p := ⟨w.heap.size + 1, 0, none⟩) (show w.heap.size + 1 ≠ w.heap.size by omega) (.string ⟨#[119, 111, 114, 100]⟩)
        rw [hR2.store]
        have HR3 := hide (hR2.row ⟨#[119, 111, 114, 100]⟩ ⟨acc.toArray⟩ noB i)
        clear hR2
        have HF := hide (show wordBs s (s.size + 1) (i + 1) = acc by rw [unhide HB, wordBs_no (wordC_quote (unhide HX)), List.append_nil])
        have HF2 : Hid (wordEnd s (s.size + 1 - i) (i + 1) = some (j : Int)) := by
          have h1 := unhide HE
          have h2 := unhide HJ
          rw [show n = (n - 1) + 1 by omega, wordEnd_1 (unhide HX)] at h1
          exact h1
        go_wp2_with fail
        refine ret_tok rfl rfl rfl (unhide HR3) rfl ⟨⟨_, _, _, rfl, .inr ⟨j, unhide HF2, rfl, ?_, rfl⟩⟩, below_setRow ((unhide HW).setCell (by simp) _) (Nat.le_refl _) _⟩
        rw [unhide HF]
      · have hne : bAt s j ≠ 39 := by omega
        by_cases hc : (wordC s j).1 < 0
        · have HF2 : Hid (wordEnd s (s.size + 1 - i) (i + 1) = none) := by
            have h1 := unhide HE
            have h2 := unhide HJ
            rw [show n = (n - 1) + 1 by omega, wordEnd_2 hne hc] at h1
            exact h1
          have hle := wordC_zero hc hne
          have HLt := hide (fun W => letter_any W s j [39, 92] hs (by omega) (by decide) (by decide))
          rw [hle] at HLt
          clear e1 hne hc hle
          go_wp2_with fail
          refine (unhide HLt _).mono ?_
          rintro e w1 ⟨rfl, hw1⟩
          have HT1 := hide ((unhide HT).below hw1 (Nat.le_refl _))
          have HR1 := hide ((unhide HR).below hw1 (Nat.le_refl _))
          have HW1 := hide ((unhide HW).trans (hw1.mono (unhide HW).size))
          clear hw1
          go_wp2_with fail
          refine wp_load rfl (unhide HT1).loadAt ?_
          go_wp2_with fail
          rw [(unhide HR1).store]
          have HR3 := hide ((unhide HR1).row noneW ⟨acc.toArray⟩ noB i)
          go_wp2_with fail
          exact ret_tok rfl rfl rfl (unhide HR3) rfl ⟨⟨_, _, _, rfl, .inl ⟨unhide HF2, rfl⟩⟩, below_setRow (unhide HW1) (Nat.le_refl _) _⟩
        · have g1 : 0 ≤ (wordC s j).1 := by omega
          have hg := wordC_good s j
          unfold GoodC at hg
          have g2 : (wordC s j).1 ≤ 255 := by omega
          have g3 : (j : Int) < (wordC s j).2 := by omega
          have g4 : (wordC s j).2 ≤ s.size := by omega
          have hle := wordC_some g1 hne
          have HLt := hide (fun W => letter_any W s j [39, 92] hs (by omega) (by decide) (by decide))
          rw [hle] at HLt
          have hu := u8_of g1 g2
          have HE2 : Hid (wordEnd s (s.size + 1 - i) (i + 1) = wordEnd s (n - 1) (wordC s j).2) := by
            have h1 := unhide HE
            have h2 := unhide HJ
            rw [show n = (n - 1) + 1 by omega, wordEnd_3 hne g1] at h1
            exact h1
          have HB2 : Hid (wordBs s (s.size + 1) (i + 1) = (acc ++ [UInt8.ofNat (wordC s j).1.toNat]) ++ wordBs s (m - 1) (wordC s j).2) := by
            have h1 := unhide HB
            have h2 := unhide HJ
            rw [show m = (m - 1) + 1 by omega, wordBs_yes g1] at h1
            rw [Hid, h1]
            simp
          obtain ⟨jj, hjj⟩ : ∃ jj : Nat, (wordC s j).2 = jj := ⟨(wordC s j).2.toNat, by omega⟩
          rw [hjj] at HE2 HB2 HLt g3 g4
          generalize (wordC s j).1 = cc at *
          generalize hcb : UInt8.ofNat cc.toNat = cb at *
          have hnz : (((jj : Nat) : Int) == 0) = false := by simp; omega
          have HJ2 : Hid (i < jj ∧ s.size < n - 1 + jj ∧ s.size < m - 1 + jj ∧ (acc ++ [cb]).length ≤ jj) := by
            have h2 := unhide HJ
            exact ⟨by omega, by omega, by omega, by simp; omega⟩
          have hal : acc.length ≤ 1000 := by have h2 := unhide HJ; omega
          have hap := append_bl acc cb
          have hcv := fun W : World => conv_one cc cb hu.symm (W.alloc (.cells #[.int .u8 cc] 5)) W.heap.size (by simp only [World.cell?, heap_alloc_last]; rfl)
          have g5 : jj ≤ s.size := by omega
          have g6 : j < jj := by omega
          clear e1 hne hc hle hg g3 g4 hjj hcb hu g1 g2
          go_wp2_with fail
          refine (unhide HLt _).mono ?_
          rintro e w1 ⟨rfl, hw1⟩
          have hT1 := (unhide HT).below hw1 (Nat.le_refl _)
          have HT1 := hide hT1
          have HR1 := hide ((unhide HR).below hw1 (Nat.le_refl _))
          have HW1 := hide ((unhide HW).trans (hw1.mono (unhide HW).size))
          obtain ⟨c0, c1, cf, cl⟩ := And.intro hT1.c0 (And.intro hT1.c1 (And.intro hT1.fz hT1.lt))
          clear hw1 hT1
          go_wp2_with fail
          go_roundw
          case rel =>
            refine ⟨jj, n - 1, m - 1, acc ++ [cb], rfl, g5, HJ2, HE2, HB2, ?_, ?_, ?_⟩
            · exact hide (((unhide HT1).setS _).alloc _)
            · exact hide (((unhide HR1).other (show w.heap.size + 1 ≠ w.heap.size by omega) _).alloc _)
            · exact hide ((((unhide HW1).setCell (by simp) _)).alloc (by simp; exact (unhide HW1).size) _)
          case measure => simp [intOf]; omega
    · have hjs : j = s.size := by omega
      have HF2 : Hid (wordEnd s (s.size + 1 - i) (i + 1) = none) := by
        rw [Hid, unhide HE, wordEnd_out (by omega)]
      go_wp2_with fail
      refine wp_load rfl (unhide HT).loadAt ?_
      go_wp2_with fail
      rw [(unhide HR).store]
      have HR3 := hide ((unhide HR).row noneW ⟨acc.toArray⟩ noB i)
      go_wp2_with fail
      exact ret_tok rfl rfl rfl (unhide HR3) rfl ⟨⟨_, _, _, rfl, .inl ⟨unhide HF2, rfl⟩⟩, below_setRow (unhide HW) (Nat.le_refl _) _⟩
end Go.Proofs.YtbojcemamhiodaaGreatDoor
