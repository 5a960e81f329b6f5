import Derived.Test.YtbojcemamhiodaaToks
import Derived.Test.YtbojcemamhiodaaFams
import Derived.Laws.RangeAny
import Derived.Deep.QuietTactic
import Derived.BigQuiet
namespace Go.Proofs.Ytbojcemamhiodaa
open Go.RowKit

def lowB (c : UInt8) : Bool := decide (97 ≤ c.toNat) && decide (c.toNat ≤ 122)
set_option maxHeartbeats 1000000 in
theorem lower_any (w : World) (c : UInt8) :
    Calls Try.prog 46 #[.int .u8 (c.toNat : Int)] w fun e w' => e = .returned (.bool (lowB c)) ∧ w' = w := by
  by_cases h : 97 ≤ c.toNat
  · have HR : Hid (lowB c = decide ((c.toNat : Int) ≤ 122)) := by
      unfold lowB Hid
      rw [decide_eq_true h, Bool.true_and]
      exact decide_eq_decide.2 (by omega)
    go_enter Try.func46, Try.ntmps46
    go_wp2
    go_ret
    exact ⟨by rw [unhide HR]; rfl, rfl⟩
  · have HR : Hid (lowB c = false) := by
      unfold lowB Hid
      rw [decide_eq_false h, Bool.false_and]
    go_enter Try.func46, Try.ntmps46
    go_wp2
    go_ret
    exact ⟨by rw [unhide HR]; rfl, rfl⟩
/-- is c in l -/
def hasB (l : List UInt8) (c : UInt8) : Bool := l.contains c
theorem has_yes {l : List UInt8} {k : Nat} {c : UInt8} (h : k < l.length) (e : l[k] = c) : hasB l c = true := by
  unfold hasB
  rw [List.contains_iff_mem, ← e]
  exact List.getElem_mem h
theorem has_no {l : List UInt8} {c : UInt8} (h : ∀ j, (hj : j < l.length) → l[j] ≠ c) : hasB l c = false := by
  unfold hasB
  cases hc : l.contains c
  · rfl
  · rw [List.contains_iff_mem] at hc
    obtain ⟨j, hj, e⟩ := List.getElem_of_mem hc
    exact absurd e (h j hj)
set_option maxRecDepth 4000 in
set_option maxHeartbeats 1000000 in
theorem among_any (w : World) (c : UInt8) (l : List UInt8) (hl : l.length ≤ 60) (ha : l.all (fun b => decide (b.toNat < 128)) = true) :
    Calls Try.prog 49 #[.int .u8 (c.toNat : Int), .string (bl l)] w fun e w' => e = .returned (.bool (hasB l c)) ∧ Below w.heap.size w w' := by
  have hz := bl_size l
  have HA := hide ha
  clear ha
  go_enter Try.func49, Try.ntmps49
  go_wp2_with fail
  go_loopw [] (fun wr => ∃ k : Nat, k ≤ l.length ∧ wr = w.iter (bl l) k ∧ Hid (∀ j, j < k → (hj : j < l.length) → l[j] ≠ c)) (fun wr => l.length - wr.iterPos w.heap.size)
  case atStart => exact ⟨0, by omega, rfl, fun j hj => by omega⟩
  case round =>
    obtain ⟨k, hk, rfl, HN⟩ := hrel
    by_cases hlt : k < l.length
    · have hks : k < (bl l).size := by omega
      have hget : (bl l)[k]'hks = l[k] := rfl
      have hasc : ((bl l)[k]'hks).toNat < 128 := by
        rw [hget]
        exact of_decide_eq_true (List.all_eq_true.1 (unhide HA) _ (List.getElem_mem hlt))
      have hnx := fun ty => run_next_ascii (P := Try.prog) w (bl l) k ty hks hasc
      have hkk : (k : Int) < l.length := by omega
      by_cases he : l[k] = c
      · have HY := hide (has_yes hlt he)
        have hb : (((bl l)[k]'hks).toNat : Int) = c.toNat := by rw [hget, he]
        clear he hget hasc
        go_wp2
        go_ret
        exact ⟨by rw [unhide HY]; rfl, (Below.refl _ _).alloc (Nat.le_refl _) _⟩
      · have HN' : Hid (∀ j, j < k + 1 → (hj : j < l.length) → l[j] ≠ c) := fun j hj hjl => by
          by_cases hjk : j < k
          · exact unhide HN j hjk hjl
          · have e : j = k := by omega
            subst e
            exact he
        have hb : ((((bl l)[k]'hks).toNat : Int) == c.toNat) = false := by
          rw [hget]
          have : ¬ l[k].toNat = c.toNat := fun x => he (UInt8.toNat_inj.1 x)
          simp
          omega
        clear he hget hasc
        go_wp2_with fail
        go_roundw
        case rel => exact ⟨k + 1, by omega, rfl, HN'⟩
        case measure => simp; omega
    · have hkk : k = l.length := by omega
      subst hkk
      have hnx := fun ty => run_next_end (P := Try.prog) w (bl l) l.length ty (by omega)
      have HY := hide (has_no (l := l) (c := c) (fun j hj => unhide HN j hj hj))
      go_wp2
      go_ret
      exact ⟨by rw [unhide HY]; rfl, (Below.refl _ _).alloc (Nat.le_refl _) _⟩
end Go.Proofs.Ytbojcemamhiodaa
namespace Go.Proofs.Ytbojcemamhiodaa
open Go.RowKit

def hexL : List UInt8 := [48, 49, 50, 51, 52, 53, 54, 55, 56, 57, 97, 98, 99, 100, 101, 102]
/-- a letter as it is written -/
def letR (s : ByteArray) (i : Int) (esc : List UInt8) : Int × Int :=
  if bAt s i < 32 ∨ 126 < bAt s i then (0, 0) else
  if bAt s i ≠ 92 then (bAt s i, i + 1) else
  if (esc.any fun b => (b.toNat : Int) == bAt s (i + 1)) = true then (bAt s (i + 1), i + 2) else
  if bAt s (i + 1) = 120 ∧ 0 ≤ digit s (i + 2) ∧ 0 ≤ digit s (i + 3) then (16 * digit s (i + 2) + digit s (i + 3), i + 4) else (0, 0)
theorem bAt_nat (s : ByteArray) (i : Nat) (h : i < s.size) : bAt s (i : Int) = ((s[i]'h).toNat : Int) := by
  unfold bAt
  rw [dif_pos ⟨by omega, by omega⟩]
  rfl
theorem bAt_out (s : ByteArray) (i : Int) (h : (s.size : Int) ≤ i) : bAt s i = -1 := by
  unfold bAt
  rw [dif_neg (by omega)]
theorem any_at {esc : List UInt8} {c : UInt8} {x : Int} (h : x = c.toNat) : (esc.any fun b => (b.toNat : Int) == x) = hasB esc c := by
  unfold hasB
  rw [Bool.eq_iff_iff, List.any_eq_true, List.contains_iff_mem, h]
  constructor
  · rintro ⟨b, hb, e⟩
    rw [beq_iff_eq] at e
    rw [← UInt8.toNat_inj.1 (show b.toNat = c.toNat by omega)]
    exact hb
  · intro hc
    exact ⟨c, hc, by simp⟩
theorem any_out {esc : List UInt8} : (esc.any fun b => (b.toNat : Int) == -1) = false := by
  rw [List.any_eq_false]
  intro b _
  rw [beq_iff_eq]
  omega
def dg2 (b : Int) : Int := if 48 ≤ b ∧ b ≤ 57 then b - 48 else if 97 ≤ b ∧ b ≤ 102 then b - 97 + 10 else -1
theorem digit_eq (s : ByteArray) (i : Int) : digit s i = dg2 (bAt s i) := rfl
theorem dg2_has (d : UInt8) : hasB hexL d = decide (0 ≤ dg2 d.toNat) := by
  have key : ∀ n : Nat, n < 256 → hasB hexL (UInt8.ofNat n) = decide (0 ≤ dg2 n) := by decide +kernel
  have := key d.toNat d.toNat_lt
  rwa [UInt8.ofNat_toNat] at this
theorem dg2_lt (b : Int) : dg2 b < 16 := by 
  unfold dg2
  split
  · omega
  · split <;> omega
theorem dg2_at (d : UInt8) (k : Nat) (h : k < hexL.length) : ((hexL[k].toNat : Int) == (d.toNat : Int)) = decide (dg2 d.toNat = k) := by
  have key : ∀ k : Nat, k < 16 → ∀ n : Nat, n < 256 → ((((hexL.getD k 0).toNat : Int)) == (n : Int)) = decide (dg2 n = k) := by decide +kernel
  have h1 := key k h d.toNat d.toNat_lt
  rw [List.getD_eq_getElem?_getD, List.getElem?_eq_getElem h] at h1
  exact h1
theorem letR_1 {s : ByteArray} {i : Int} {esc : List UInt8} {b : UInt8} (e1 : bAt s i = b.toNat) (h : b.toNat < 32 ∨ 126 < b.toNat) : letR s i esc = (0, 0) := by
  unfold letR
  rw [if_pos (by omega)]
theorem letR_2 {s : ByteArray} {i : Int} {esc : List UInt8} {b : UInt8} (e1 : bAt s i = b.toNat) (h2 : ¬ b.toNat < 32) (h3 : ¬ 126 < b.toNat) (h4 : ¬ b.toNat = 92) : letR s i esc = ((b.toNat : Int), i + 1) := by
  unfold letR
  rw [if_neg (by omega), if_pos (by omega), e1]
theorem letR_0 {s : ByteArray} {i : Int} {esc : List UInt8} (e1 : bAt s i = -1) : letR s i esc = (0, 0) := by
  unfold letR
  rw [if_pos (by omega)]
theorem letR_3 {s : ByteArray} {i : Int} {esc : List UInt8} (e1 : bAt s i = 92) (e2 : bAt s (i + 1) = -1) : letR s i esc = (0, 0) := by
  unfold letR
  rw [if_neg (by omega), if_neg (by omega), e2, any_out, if_neg (by simp), if_neg (by omega)]
theorem letR_4 {s : ByteArray} {i : Int} {esc : List UInt8} {c : UInt8} (e1 : bAt s i = 92) (e2 : bAt s (i + 1) = c.toNat) (h : hasB esc c = true) : letR s i esc = ((c.toNat : Int), i + 2) := by
  unfold letR
  rw [if_neg (by omega), if_neg (by omega), any_at e2, if_pos h, e2]
theorem letR_5 {s : ByteArray} {i : Int} {esc : List UInt8} {c : UInt8} (e1 : bAt s i = 92) (e2 : bAt s (i + 1) = c.toNat) (h : hasB esc c = false) (hn : ¬ (c.toNat = 120 ∧ 0 ≤ digit s (i + 2) ∧ 0 ≤ digit s (i + 3))) : letR s i esc = (0, 0) := by
  unfold letR
  rw [if_neg (by omega), if_neg (by omega), any_at e2, if_neg (by rw [h]; exact Bool.false_ne_true), if_neg (by omega)]
theorem letR_6 {s : ByteArray} {i : Int} {esc : List UInt8} {c : UInt8} (e1 : bAt s i = 92) (e2 : bAt s (i + 1) = c.toNat) (h : hasB esc c = false) (hn : c.toNat = 120 ∧ 0 ≤ digit s (i + 2) ∧ 0 ≤ digit s (i + 3)) : letR s i esc = (16 * digit s (i + 2) + digit s (i + 3), i + 4) := by
  unfold letR
  rw [if_neg (by omega), if_neg (by omega), any_at e2, if_neg (by rw [h]; exact Bool.false_ne_true), if_pos (by omega)]
set_option maxRecDepth 4000 in
set_option maxHeartbeats 1000000 in
theorem letter_plain (w : World) (s : ByteArray) (i : Nat) (esc : List UInt8) (hi : i ≤ 1000) (hn : bAt s i ≠ 92) :
    Calls Try.prog 64 #[.string s, .int .i64 i, .string (bl esc)] w fun e w' => e = .returned (.tuple #[.int .u8 (letR s i esc).1, .int .i64 (letR s i esc).2]) ∧ Below w.heap.size w w' := by
  by_cases h1 : i < s.size
  · have e1 := bAt_nat s i h1
    obtain ⟨b, hb⟩ : ∃ b : UInt8, s[i]'h1 = b := ⟨_, rfl⟩
    rw [hb] at e1
    by_cases h2 : b.toNat < 32
    · have HR := hide (letR_1 (esc := esc) e1 (.inl h2))
      clear hn e1
      go_enter Try.func64, Try.ntmps64
      go_wp2
      go_ret2
      exact ⟨ret_pair (unhide HR), Below.refl _ _⟩
    · by_cases h3 : 126 < b.toNat
      · have HR := hide (letR_1 (esc := esc) e1 (.inr h3))
        clear hn e1
        go_enter Try.func64, Try.ntmps64
        go_wp2
        go_ret2
        exact ⟨ret_pair (unhide HR), Below.refl _ _⟩
      · have h4 : ¬ b.toNat = 92 := by omega
        have HR := hide (letR_2 (esc := esc) e1 h2 h3 h4)
        clear hn e1
        go_enter Try.func64, Try.ntmps64
        go_wp2
        go_ret2
        exact ⟨ret_pair (unhide HR), Below.refl _ _⟩
  · have HR := hide (letR_0 (esc := esc) (bAt_out s i (by omega)))
    clear hn
    go_enter Try.func64, Try.ntmps64
    go_wp2
    go_ret2
    exact ⟨ret_pair (unhide HR), Below.refl _ _⟩
end Go.Proofs.Ytbojcemamhiodaa
namespace Go.Proofs.Ytbojcemamhiodaa
open Go.RowKit

/-- the sum so far -/
def sumK (d1 d2 : Int) (k : Nat) : Int := (if d1 < k then 16 * d1 else 0) + (if d2 < k then d2 else 0)
theorem sumK_end {d1 d2 : Int} (h1 : d1 < 16) (h2 : d2 < 16) : sumK d1 d2 16 = 16 * d1 + d2 := by
  unfold sumK
  rw [if_pos (by omega), if_pos (by omega)]
theorem sumK_zero {d1 d2 : Int} (h1 : 0 ≤ d1) (h2 : 0 ≤ d2) : sumK d1 d2 0 = 0 := by
  unfold sumK
  rw [if_neg (by omega), if_neg (by omega)]
  rfl
theorem sumK_step (d1 d2 : Int) (k : Nat) : sumK d1 d2 (k + 1) = sumK d1 d2 k + (if d1 = k then 16 * (k : Int) else 0) + (if d2 = k then (k : Int) else 0) := by
  unfold sumK
  by_cases a : d1 = k
  · by_cases b : d2 = k
    · rw [if_pos (by omega), if_pos (by omega), if_neg (by omega), if_neg (by omega), if_pos a, if_pos b]; omega
    · by_cases b2 : d2 < k
      · rw [if_pos (by omega), if_pos (by omega), if_neg (by omega), if_pos (by omega), if_pos a, if_neg b]; omega
      · rw [if_pos (by omega), if_neg (by omega), if_neg (by omega), if_neg (by omega), if_pos a, if_neg b]; omega
  · rw [if_neg a]
    by_cases a2 : d1 < k
    · rw [if_pos (show d1 < ((k + 1 : Nat) : Int) by omega), if_pos a2]
      by_cases b : d2 = k
      · rw [if_pos (by omega), if_neg (by omega), if_pos b]; omega
      · by_cases b2 : d2 < k
        · rw [if_pos (by omega), if_pos (by omega), if_neg b]; omega
        · rw [if_neg (by omega), if_neg (by omega), if_neg b]; omega
    · rw [if_neg (show ¬ d1 < ((k + 1 : Nat) : Int) by omega), if_neg a2]
      by_cases b : d2 = k
      · rw [if_pos (by omega), if_neg (by omega), if_pos b]; omega
      · by_cases b2 : d2 < k
        · rw [if_pos (by omega), if_pos (by omega), if_neg b]; omega
        · rw [if_neg (by omega), if_neg (by omega), if_neg b]; omega
theorem wrap_small {x : Int} (h0 : 0 ≤ x) (h1 : x < 256) : IntKind.u8.wrap x = x := by rw [IntKind.wrap_u8]; omega
theorem iter_drewN (W : World) (s : ByteArray) (k n : Nat) : (W.iter s k).drewN n = (W.drewN n).iter s k := rfl
theorem iterPos_drewN (W : World) (n b : Nat) : (W.drewN n).iterPos b = W.iterPos b := rfl
theorem iterPos_at (W : World) (s : ByteArray) (p b : Nat) (h : W.heap.size = b) : (W.iter s p).iterPos b = p := by subst h; simp
theorem hexL_asc : hexL.all (fun b => decide (b.toNat < 128)) = true := by decide
set_option maxRecDepth 4000 in
set_option maxHeartbeats 1000000 in
theorem letter_x (w : World) (s : ByteArray) (i : Nat) (esc : List UInt8) (hs : s.size ≤ 400) (hl : esc.length ≤ 60) (ha : esc.all (fun b => decide (b.toNat < 128)) = true) (h7 : i + 3 < s.size) (hb : s[i] = 92) (hc : s[i + 1] = 120) (h6 : hasB esc 120 = false) :
    Calls Try.prog 64 #[.string s, .int .i64 i, .string (bl esc)] w fun e w' => e = .returned (.tuple #[.int .u8 (letR s i esc).1, .int .i64 (letR s i esc).2]) ∧ Below w.heap.size w w' := by
  have e1 : bAt s i = 92 := by rw [bAt_nat s i (by omega), hb]; rfl
  have e2 : bAt s ((i + 1 : Nat) : Int) = (120 : UInt8).toNat := by rw [bAt_nat s (i + 1) (by omega), hc]
  obtain ⟨b1, hb1⟩ : ∃ b : UInt8, s[i + 2] = b := ⟨_, rfl⟩
  obtain ⟨b2, hb2⟩ : ∃ b : UInt8, s[i + 3] = b := ⟨_, rfl⟩
  have d1 : digit s (i + 2) = dg2 b1.toNat := by rw [digit_eq, show (i : Int) + 2 = ((i + 2 : Nat) : Int) from by omega, bAt_nat s (i + 2) (by omega), hb1]
  have d2 : digit s (i + 3) = dg2 b2.toNat := by rw [digit_eq, show (i : Int) + 3 = ((i + 3 : Nat) : Int) from by omega, bAt_nat s (i + 3) (by omega), hb2]
  have HA := hide ha
  clear ha
  cases k1 : hasB hexL b1
  · have HR := hide (letR_5 (esc := esc) (c := 120) e1 e2 h6 (fun x => by
      have := x.2.1
      rw [d1] at this
      rw [dg2_has] at k1
      exact absurd this (by simpa using k1)))
    clear e1 e2 d1 d2
    go_enter Try.func64, Try.ntmps64
    go_wp2_with fail
    refine (among_any _ 120 esc hl (unhide HA)).mono ?_
    rintro e w1 ⟨rfl, hw1⟩
    have HB1 := hide hw1
    clear hw1
    go_wp2_with fail
    refine (among_any _ b1 hexL (by decide) hexL_asc).mono ?_
    rintro e w2 ⟨rfl, hw2⟩
    have HB2 := hide ((unhide HB1).trans (hw2.mono (unhide HB1).size))
    clear hw2
    go_wp2
    go_ret2
    exact ⟨ret_pair (unhide HR), unhide HB2⟩
  · cases k2 : hasB hexL b2
    · have HR := hide (letR_5 (esc := esc) (c := 120) e1 e2 h6 (fun x => by
        have := x.2.2
        rw [d2] at this
        rw [dg2_has] at k2
        exact absurd this (by simpa using k2)))
      clear e1 e2 d1 d2
      go_enter Try.func64, Try.ntmps64
      go_wp2_with fail
      refine (among_any _ 120 esc hl (unhide HA)).mono ?_
      rintro e w1 ⟨rfl, hw1⟩
      have HB1 := hide hw1
      clear hw1
      go_wp2_with fail
      refine (among_any _ b1 hexL (by decide) hexL_asc).mono ?_
      rintro e w2 ⟨rfl, hw2⟩
      have HB2 := hide ((unhide HB1).trans (hw2.mono (unhide HB1).size))
      clear hw2
      go_wp2_with fail
      refine (among_any _ b2 hexL (by decide) hexL_asc).mono ?_
      rintro e w3 ⟨rfl, hw3⟩
      have HB3 := hide ((unhide HB2).trans (hw3.mono (unhide HB2).size))
      clear hw3
      go_wp2
      go_ret2
      exact ⟨ret_pair (unhide HR), unhide HB3⟩
    · have p1 : 0 ≤ dg2 b1.toNat := by rw [dg2_has] at k1; simpa using k1
      have p2 : 0 ≤ dg2 b2.toNat := by rw [dg2_has] at k2; simpa using k2
      have HR := hide (letR_6 (esc := esc) (c := 120) e1 e2 h6 ⟨rfl, by rw [d1]; exact p1, by rw [d2]; exact p2⟩)
      rw [d1, d2] at HR
      clear e1 e2 d1 d2
      go_enter Try.func64, Try.ntmps64
      go_wp2_with fail
      refine (among_any _ 120 esc hl (unhide HA)).mono ?_
      rintro e w1 ⟨rfl, hw1⟩
      have HB1 := hide hw1
      clear hw1
      go_wp2_with fail
      refine (among_any _ b1 hexL (by decide) hexL_asc).mono ?_
      rintro e w2 ⟨rfl, hw2⟩
      have HB2 := hide ((unhide HB1).trans (hw2.mono (unhide HB1).size))
      clear hw2
      go_wp2_with fail
      refine (among_any _ b2 hexL (by decide) hexL_asc).mono ?_
      rintro e w3 ⟨rfl, hw3⟩
      have HB3 := hide ((unhide HB2).trans (hw3.mono (unhide HB2).size))
      clear hw3
      go_wp2_with fail
      have q1 := dg2_lt b1.toNat
      have q2 := dg2_lt b2.toNat
      go_loopw [8] (fun n wr => ∃ (k : Nat) (W : World), k ≤ 16 ∧ n = .int .i64 (sumK (dg2 b1.toNat) (dg2 b2.toNat) k) ∧ wr = W.iter ⟨#[48, 49, 50, 51, 52, 53, 54, 55, 56, 57, 97, 98, 99, 100, 101, 102]⟩ k ∧ W.heap.size = w3.heap.size ∧ Hid (Below w.heap.size w W)) (fun _ wr => 16 - wr.iterPos w3.heap.size)
      case atStart => exact ⟨0, w3, by omega, by rw [sumK_zero p1 p2], rfl, rfl, HB3⟩
      case round =>
        obtain ⟨k, W, hk, rfl, rfl, hsz, HW⟩ := hrel
        by_cases hlt : k < 16
        · have hks : k < (⟨#[48, 49, 50, 51, 52, 53, 54, 55, 56, 57, 97, 98, 99, 100, 101, 102]⟩ : ByteArray).size := hlt
          have hasc : (((⟨#[48, 49, 50, 51, 52, 53, 54, 55, 56, 57, 97, 98, 99, 100, 101, 102]⟩ : ByteArray))[k]'hks).toNat < 128 := of_decide_eq_true (List.all_eq_true.1 hexL_asc _ (List.getElem_mem (l := hexL) hlt))
          have hnx := fun ty => run_next_ascii (P := Try.prog) W ⟨#[48, 49, 50, 51, 52, 53, 54, 55, 56, 57, 97, 98, 99, 100, 101, 102]⟩ k ty hks hasc
          simp only [hsz] at hnx
          have f1 : (((((⟨#[48, 49, 50, 51, 52, 53, 54, 55, 56, 57, 97, 98, 99, 100, 101, 102]⟩ : ByteArray))[k]'hks).toNat : Int) == (b1.toNat : Int)) = decide (dg2 b1.toNat = k) := dg2_at b1 k hlt
          have f2 : (((((⟨#[48, 49, 50, 51, 52, 53, 54, 55, 56, 57, 97, 98, 99, 100, 101, 102]⟩ : ByteArray))[k]'hks).toNat : Int) == (b2.toNat : Int)) = decide (dg2 b2.toNat = k) := dg2_at b2 k hlt
          have hki : (k : Int) < 16 := by omega
          have hkj : (k : Int) < ((⟨#[48, 49, 50, 51, 52, 53, 54, 55, 56, 57, 97, 98, 99, 100, 101, 102]⟩ : ByteArray).size : Int) := by show (k : Int) < 16; omega
          have hk0 : (0 : Int) ≤ (k : Int) := by omega
          have hss1 : (i : Int) + 1 + 1 < s.size := by omega
          have hss2 : (i : Int) + 1 + 2 < s.size := by omega
          have HS := hide (sumK_step (dg2 b1.toNat) (dg2 b2.toNat) k)
          have hm0 : 0 ≤ sumK (dg2 b1.toNat) (dg2 b2.toNat) k ∧ sumK (dg2 b1.toNat) (dg2 b2.toNat) k ≤ 1000 := by
            unfold sumK
            constructor <;> (split <;> split <;> omega)
          obtain ⟨m, hm⟩ : ∃ m, sumK (dg2 b1.toNat) (dg2 b2.toNat) k = m := ⟨_, rfl⟩
          rw [hm] at HS hm0 ⊢
          obtain ⟨hm1, hm2⟩ := hm0
          clear hm hasc
          by_cases g1 : dg2 b1.toNat = k
          · by_cases g2 : dg2 b2.toNat = k
            · rw [if_pos g1, if_pos g2] at HS
              rw [decide_eq_true g1] at f1
              rw [decide_eq_true g2] at f2
              clear g1 g2
              go_wp2_with fail
              go_quiet (fail)
              go_wp2_with fail
              go_quiet (fail)
              go_wp2_with fail
              go_roundw
              case rel =>
                simp only [iter_drewN]
                refine ⟨k + 1, _, by omega, ?_, rfl, ?_, ?_⟩
                · first | (rw [unhide HS]; done) | (rw [unhide HS]; simp)
                · exact hsz
                · first | exact hide (below_drewN (unhide HW) _) | exact hide (below_drewN (below_drewN (unhide HW) _) _)
              case measure =>
                simp only [iterPos_drewN, iterPos_at _ _ _ _ hsz]
                omega
            · rw [if_pos g1, if_neg g2] at HS
              rw [decide_eq_true g1] at f1
              rw [decide_eq_false g2] at f2
              clear g1 g2
              go_wp2_with fail
              go_quiet (fail)
              go_wp2_with fail
              go_quiet (fail)
              go_wp2_with fail
              go_roundw
              case rel =>
                simp only [iter_drewN]
                refine ⟨k + 1, _, by omega, ?_, rfl, ?_, ?_⟩
                · first | (rw [unhide HS]; done) | (rw [unhide HS]; simp)
                · exact hsz
                · first | exact hide (below_drewN (unhide HW) _) | exact hide (below_drewN (below_drewN (unhide HW) _) _)
              case measure =>
                simp only [iterPos_drewN, iterPos_at _ _ _ _ hsz]
                omega
          · by_cases g2 : dg2 b2.toNat = k
            · rw [if_neg g1, if_pos g2] at HS
              rw [decide_eq_false g1] at f1
              rw [decide_eq_true g2] at f2
              clear g1 g2
              go_wp2_with fail
              go_quiet (fail)
              go_wp2_with fail
              go_quiet (fail)
              go_wp2_with fail
              go_roundw
              case rel =>
                simp only [iter_drewN]
                refine ⟨k + 1, _, by omega, ?_, rfl, ?_, ?_⟩
                · first | (rw [unhide HS]; done) | (rw [unhide HS]; simp)
                · exact hsz
                · first | exact hide (below_drewN (unhide HW) _) | exact hide (below_drewN (below_drewN (unhide HW) _) _)
              case measure =>
                simp only [iterPos_drewN, iterPos_at _ _ _ _ hsz]
                omega
            · rw [if_neg g1, if_neg g2] at HS
              rw [decide_eq_false g1] at f1
              rw [decide_eq_false g2] at f2
              clear g1 g2
              go_wp2_with fail
              go_quiet (fail)
              go_wp2_with fail
              go_quiet (fail)
              go_wp2_with fail
              go_roundw
              case rel =>
                simp only [iter_drewN]
                refine ⟨k + 1, _, by omega, ?_, rfl, ?_, ?_⟩
                · first | (rw [unhide HS]; done) | (rw [unhide HS]; simp)
                · exact hsz
                · first | exact hide (below_drewN (unhide HW) _) | exact hide (below_drewN (below_drewN (unhide HW) _) _)
              case measure =>
                simp only [iterPos_drewN, iterPos_at _ _ _ _ hsz]
                omega
        · have hkk : k = 16 := by omega
          subst hkk
          have hnx := fun ty => run_next_end (P := Try.prog) W ⟨#[48, 49, 50, 51, 52, 53, 54, 55, 56, 57, 97, 98, 99, 100, 101, 102]⟩ 16 ty (by decide)
          simp only [hsz] at hnx
          have hse := sumK_end q1 q2
          have hw8 := wrap_small (x := 16 * dg2 b1.toNat + dg2 b2.toNat) (by omega) (by omega)
          go_wp2
          go_ret2
          exact ⟨ret_pair (unhide HR), (unhide HW).alloc (unhide HW).size _⟩
end Go.Proofs.Ytbojcemamhiodaa
