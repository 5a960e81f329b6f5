import Derived.Test.YtbojcemamhiodabGreatDoorFams
import Derived.Laws.Strings
import Derived.Test.YtbojcemamhiodabGreatDoorCats
namespace Go.Proofs.YtbojcemamhiodabGreatDoor

/-- does u stand in s at place k -/
def standsB (s : List UInt8) (k : Nat) (u : List UInt8) : Bool := decide (u <+: s.drop k)
theorem stands_len {s u : List UInt8} {k : Nat} (hk : k ≤ s.length) (h : standsB s k u = true) : u.length + k ≤ s.length := by
  have := (of_decide_eq_true h).length_le
  rw [List.length_drop] at this
  omega
theorem stands_cut (s u : List UInt8) (k : Nat) : (((bl s).extract k (k + u.length)).toList == (bl u).toList) = standsB s k u := by
  rw [ByteArray.toList_eq, ByteArray.toList_eq, ByteArray.data_extract]
  unfold standsB
  rw [Bool.eq_iff_iff, beq_iff_eq, decide_eq_true_eq, List.prefix_iff_eq_take]
  simp [bl, List.extract_eq_take_drop]
  exact eq_comm
theorem stands_no {s u : List UInt8} {k : Nat} (h : ¬ u.length + k ≤ s.length) (hk : k ≤ s.length) : standsB s k u = false := by
  cases hh : standsB s k u
  · rfl
  · exact absurd (stands_len hk hh) h
/-- where 'u' / 'v' and then 'w' goes to -/
def toW (s u v w : List UInt8) : Int :=
  if standsB s 0 u = true then (if standsB s u.length w = true then ((u.length + w.length : Nat) : Int) else -1) else
  if standsB s 0 v = true then (if standsB s v.length w = true then ((v.length + w.length : Nat) : Int) else -1) else -1
end Go.Proofs.YtbojcemamhiodabGreatDoor
namespace Go.Proofs.YtbojcemamhiodabGreatDoor

theorem wordM_bl (s u : List UInt8) (k : Nat) : wordM (bl s) (bl u) k = if standsB s k u = true then ((k + u.length : Nat) : Int) else -1 := by
  have key : ((List.range (bl u).size).all fun j => bAt (bl s) ((k : Int) + j) == bAt (bl u) j) = true ↔ standsB s k u = true := by
    unfold standsB
    rw [List.all_eq_true, decide_eq_true_eq, List.prefix_iff_getElem?, bl_size]
    constructor
    · intro h i hi
      have h1 := h i (List.mem_range.2 hi)
      rw [beq_iff_eq, show (k : Int) + i = ((k + i : Nat) : Int) from by omega, bAt_bl, bAt_bl, List.getElem?_eq_getElem hi] at h1
      rw [List.getElem?_drop]
      cases hx : s[k + i]? with
      | none => rw [hx] at h1; simp at h1
      | some b =>
        rw [hx] at h1
        simp only at h1
        congr 1
        exact UInt8.toNat_inj.1 (by omega)
    · intro h j hj
      rw [List.mem_range] at hj
      have h1 := h j hj
      rw [List.getElem?_drop] at h1
      rw [beq_iff_eq, show (k : Int) + j = ((k + j : Nat) : Int) from by omega, bAt_bl, bAt_bl, List.getElem?_eq_getElem hj, h1]
  unfold wordM
  by_cases h : standsB s k u = true
  · rw [if_pos (key.2 h), if_pos h, bl_size]
    omega
  · rw [if_neg (fun x => h (key.1 x)), if_neg h]
theorem match_leaf {T : List Tm} {s u : List UInt8} {i k F : Nat} (h : T[i]? = some ⟨0, bl u, []⟩) (hk : k ≤ s.length) : matchN T (bl s) (F + 1) i k = some (if standsB s k u = true then ((k + u.length : Nat) : Int) else -1) := by
  have hi : i < T.length := by
    rcases Nat.lt_or_ge i T.length with h1 | h1
    · exact h1
    · rw [List.getElem?_eq_none h1] at h; cases h
  rw [matchN, bl_size, if_neg (by omega), Int.toNat_natCast, h]
  show runN _ _ _ _ _ = _
  unfold runN
  rw [if_pos rfl, ← wordM_bl]
theorem match_words (s u v w : List UInt8) : matchN [⟨5, ByteArray.empty, [3, 4]⟩, ⟨0, bl u, []⟩, ⟨0, bl v, []⟩, ⟨6, ByteArray.empty, [1, 2]⟩, ⟨0, bl w, []⟩] (bl s) 3 0 0 = some (toW s u v w) := by
  obtain ⟨T, hT⟩ : ∃ T : List Tm, T = [⟨5, ByteArray.empty, [3, 4]⟩, ⟨0, bl u, []⟩, ⟨0, bl v, []⟩, ⟨6, ByteArray.empty, [1, 2]⟩, ⟨0, bl w, []⟩] := ⟨_, rfl⟩
  rw [← hT]
  have hl : T.length = 5 := by rw [hT]; rfl
  have t0 : T[0]? = some ⟨5, ByteArray.empty, [3, 4]⟩ := by rw [hT]; rfl
  have t1 : T[1]? = some ⟨0, bl u, []⟩ := by rw [hT]; rfl
  have t2 : T[2]? = some ⟨0, bl v, []⟩ := by rw [hT]; rfl
  have t3 : T[3]? = some ⟨6, ByteArray.empty, [1, 2]⟩ := by rw [hT]; rfl
  have t4 : T[4]? = some ⟨0, bl w, []⟩ := by rw [hT]; rfl
  clear hT
  have m1 : matchN T (bl s) 1 1 0 = some (if standsB s 0 u = true then ((0 + u.length : Nat) : Int) else -1) := match_leaf (i := 1) (k := 0) (F := 0) t1 (by omega)
  have m2 : matchN T (bl s) 1 2 0 = some (if standsB s 0 v = true then ((0 + v.length : Nat) : Int) else -1) := match_leaf (i := 2) (k := 0) (F := 0) t2 (by omega)
  have m4 : ∀ k : Nat, k ≤ s.length → matchN T (bl s) 2 4 k = some (if standsB s k w = true then ((k + w.length : Nat) : Int) else -1) := fun k hk => match_leaf (i := 4) (F := 1) t4 hk
  have m3 : matchN T (bl s) 2 3 0 = choiceM (matchN T (bl s) 1) [1, 2] 0 := by
    rw [matchN, hl, bl_size, if_neg (by simp)]
    show (match T[3]? with | none => _ | some t => _) = _
    rw [t3]
    rfl
  rw [matchN, hl, bl_size, if_neg (by simp)]
  show (match T[0]? with | none => _ | some t => _) = _
  rw [t0]
  show rowM (matchN T (bl s) 2) [3, 4] 0 = _
  unfold toW
  by_cases hu : standsB s 0 u = true
  · rw [if_pos hu] at m1 ⊢
    have hlen := stands_len (by omega) hu
    have m3' : matchN T (bl s) 2 3 0 = some (u.length : Int) := by
      rw [m3]
      simp only [choiceM, m1, Option.bind_some]
      rw [if_neg (by omega)]
      simp
    have h4 := m4 u.length (by omega)
    simp only [rowM, m3', Option.bind_some]
    rw [if_neg (by omega), h4]
    by_cases hw : standsB s u.length w = true
    · rw [if_pos hw]
      simp only [Option.bind_some]
      rw [if_neg (by omega)]
    · rw [if_neg hw]
      rfl
  · rw [if_neg hu] at m1 ⊢
    by_cases hv : standsB s 0 v = true
    · rw [if_pos hv] at m2 ⊢
      have hlen := stands_len (by omega) hv
      have m3' : matchN T (bl s) 2 3 0 = some (v.length : Int) := by
        rw [m3]
        simp only [choiceM, m1, m2, Option.bind_some]
        rw [if_pos trivial, if_neg (by omega)]
        simp
      have h4 := m4 v.length (by omega)
      simp only [rowM, m3', Option.bind_some]
      rw [if_neg (by omega), h4]
      by_cases hw : standsB s v.length w = true
      · rw [if_pos hw]
        simp only [Option.bind_some]
        rw [if_neg (by omega)]
      · rw [if_neg hw]
        rfl
    · rw [if_neg hv] at m2 ⊢
      have m3' : matchN T (bl s) 2 3 0 = some (-1) := by
        rw [m3]
        simp only [choiceM, m1, m2, Option.bind_some]
        simp
      simp only [rowM, m3', Option.bind_some]
      simp
end Go.Proofs.YtbojcemamhiodabGreatDoor
namespace Go.Proofs.YtbojcemamhiodabGreatDoor

def TL1 (u : List UInt8) : List Tm := [⟨5, ByteArray.empty, [3, 4]⟩, ⟨0, bl u, []⟩, ⟨4, ByteArray.empty, [1]⟩, ⟨7, ByteArray.empty, [2]⟩, ⟨3, ByteArray.empty, []⟩]
def TL2 (u : List UInt8) : List Tm := [⟨5, ByteArray.empty, [5, 6]⟩, ⟨0, bl u, []⟩, ⟨4, ByteArray.empty, [1]⟩, ⟨3, ByteArray.empty, []⟩, ⟨5, ByteArray.empty, [2, 3]⟩, ⟨8, ByteArray.empty, [4]⟩, ⟨3, ByteArray.empty, []⟩]

theorem word_yes {T : List Tm} {s u : List UInt8} {i k : Nat} {l : List Int} (ht : T[i]? = some ⟨0, bl u, l⟩) (hk : k ≤ s.length) (h : standsB s k u = true) : Mr T (bl s) i k ((k + u.length : Nat) : Int) := by
  have h1 := Mr.word (s := bl s) (a := k) (by omega) (by rw [bl_size]; omega) ht
  rw [wordM_bl, if_pos h] at h1
  exact h1
theorem word_no {T : List Tm} {s u : List UInt8} {i k : Nat} {l : List Int} (ht : T[i]? = some ⟨0, bl u, l⟩) (hk : k ≤ s.length) (h : standsB s k u = false) : Mr T (bl s) i k (-1) := by
  have h1 := Mr.word (s := bl s) (a := k) (by omega) (by rw [bl_size]; omega) ht
  rw [wordM_bl, if_neg (by simp [h])] at h1
  exact h1

section
variable (s u : List UInt8)
theorem looks1_yes (h : standsB s 0 u = true) : Mr (TL1 u) (bl s) 0 0 0 ∧ Cr (TL1 u) (bl s) 0 0 [.mk 0 (-1) [] []] := by
  have z : (0 : Int) ≤ (bl s).size := by omega
  have m1 : Mr (TL1 u) (bl s) 1 0 ((0 + u.length : Nat) : Int) := word_yes (T := TL1 u) (i := 1) (k := 0) rfl (by omega) h
  have m2 : Mr (TL1 u) (bl s) 2 0 ((0 + u.length : Nat) : Int) := Mr.part (i := 2) (by omega) z rfl (m1.up.elim fun _ _ => Rr.cons m1 (by omega) (Rr.nil _))
  have m3 : Mr (TL1 u) (bl s) 3 0 0 := Mr.and_yes (i := 3) (by omega) z rfl (Rr.cons m2 (by omega) (Rr.nil _)) (by omega)
  have m4 : Mr (TL1 u) (bl s) 4 0 0 := Mr.place (i := 4) (by omega) z rfl
  exact ⟨Mr.row (i := 0) (by omega) z rfl (Rr.cons m3 (by omega) (Rr.cons m4 (by omega) (Rr.nil _))), Cr.row (i := 0) (by omega) z rfl (CRr.cons m3 (by omega) (Cr.and (i := 3) (by omega) z rfl) (CRr.cons m4 (by omega) (Cr.place (i := 4) (by omega) z rfl) (CRr.nil _) rfl) rfl)⟩
theorem looks1_no (h : standsB s 0 u = false) : Mr (TL1 u) (bl s) 0 0 (-1) := by
  have z : (0 : Int) ≤ (bl s).size := by omega
  have m1 : Mr (TL1 u) (bl s) 1 0 (-1) := word_no (T := TL1 u) (i := 1) (k := 0) rfl (by omega) h
  have m2 : Mr (TL1 u) (bl s) 2 0 (-1) := Mr.part (i := 2) (by omega) z rfl (Rr.no m1)
  have m3 : Mr (TL1 u) (bl s) 3 0 (-1) := Mr.and_no (i := 3) (by omega) z rfl (Rr.no m2)
  exact Mr.row (i := 0) (by omega) z rfl (Rr.no m3)
theorem looks2_no (h : standsB s 0 u = true) : Mr (TL2 u) (bl s) 0 0 (-1) := by
  have z : (0 : Int) ≤ (bl s).size := by omega
  have hl := stands_len (by omega) h
  have m1 : Mr (TL2 u) (bl s) 1 0 ((0 + u.length : Nat) : Int) := word_yes (T := TL2 u) (i := 1) (k := 0) rfl (by omega) h
  have m2 : Mr (TL2 u) (bl s) 2 0 ((0 + u.length : Nat) : Int) := Mr.part (i := 2) (by omega) z rfl (Rr.cons m1 (by omega) (Rr.nil _))
  have m3 : Mr (TL2 u) (bl s) 3 ((0 + u.length : Nat) : Int) ((0 + u.length : Nat) : Int) := Mr.place (i := 3) (by omega) (by rw [bl_size]; omega) rfl
  have m4 : Mr (TL2 u) (bl s) 4 0 ((0 + u.length : Nat) : Int) := Mr.row (i := 4) (by omega) z rfl (Rr.cons m2 (by omega) (Rr.cons m3 (by omega) (Rr.nil _)))
  have m5 : Mr (TL2 u) (bl s) 5 0 (-1) := Mr.not_no (i := 5) (by omega) z rfl (Rr.cons m4 (by omega) (Rr.nil _)) (by omega)
  exact Mr.row (i := 0) (by omega) z rfl (Rr.no m5)
theorem looks2_yes (h : standsB s 0 u = false) : Mr (TL2 u) (bl s) 0 0 0 ∧ Cr (TL2 u) (bl s) 0 0 [.mk 0 (-1) [] []] := by
  have z : (0 : Int) ≤ (bl s).size := by omega
  have m1 : Mr (TL2 u) (bl s) 1 0 (-1) := word_no (T := TL2 u) (i := 1) (k := 0) rfl (by omega) h
  have m2 : Mr (TL2 u) (bl s) 2 0 (-1) := Mr.part (i := 2) (by omega) z rfl (Rr.no m1)
  have m4 : Mr (TL2 u) (bl s) 4 0 (-1) := Mr.row (i := 4) (by omega) z rfl (Rr.no m2)
  have m5 : Mr (TL2 u) (bl s) 5 0 0 := Mr.not_yes (i := 5) (by omega) z rfl (Rr.no m4)
  have m6 : Mr (TL2 u) (bl s) 6 0 0 := Mr.place (i := 6) (by omega) z rfl
  exact ⟨Mr.row (i := 0) (by omega) z rfl (Rr.cons m5 (by omega) (Rr.cons m6 (by omega) (Rr.nil _))), Cr.row (i := 0) (by omega) z rfl (CRr.cons m5 (by omega) (Cr.not (i := 5) (by omega) z rfl) (CRr.cons m6 (by omega) (Cr.place (i := 6) (by omega) z rfl) (CRr.nil _) rfl) rfl)⟩
end

/-- First: r <- 'u' {} / . r -/
def TF (u : List UInt8) (all r : ByteArray) : List Tm := [⟨6, ByteArray.empty, [3, 6]⟩, ⟨0, bl u, []⟩, ⟨3, ByteArray.empty, []⟩, ⟨5, ByteArray.empty, [1, 2]⟩, ⟨1, all, []⟩, ⟨2, r, [0]⟩, ⟨5, ByteArray.empty, [4, 5]⟩]
/-- where u stands first from k on, up to its end; -1 -/
def firstTo (s u : List UInt8) : Nat → Nat → Int
  | 0, k => if standsB s k u = true then ((k + u.length : Nat) : Int) else -1
  | n + 1, k => if standsB s k u = true then ((k + u.length : Nat) : Int) else firstTo s u n (k + 1)
theorem firstTo_ge (s u : List UInt8) : ∀ n k : Nat, firstTo s u n k = -1 ∨ ((k : Int) ≤ firstTo s u n k ∧ firstTo s u n k ≤ 0 + firstTo s u n k)
  | 0, k => by
    unfold firstTo
    split
    · exact .inr ⟨by omega, by omega⟩
    · exact .inl rfl
  | n + 1, k => by
    unfold firstTo
    split
    · exact .inr ⟨by omega, by omega⟩
    · rcases firstTo_ge s u n (k + 1) with h | h
      · exact .inl h
      · exact .inr ⟨by omega, by omega⟩
theorem oneM_all (s : List UInt8) (all : ByteArray) (hall : ∀ c : UInt8, ∃ j : Nat, j < all.size ∧ bAt all j = c.toNat) (k : Nat) (hk : k < s.length) : oneM (bl s) all k = ((k + 1 : Nat) : Int) := by
  obtain ⟨j, hj, he⟩ := hall s[k]
  unfold oneM
  rw [if_pos]
  · omega
  · refine ⟨by rw [bl_size]; omega, List.any_eq_true.2 ⟨j, by simpa using hj, ?_⟩⟩
    rw [beq_iff_eq, he, bAt_bl, List.getElem?_eq_getElem hk]
theorem oneM_none (s : List UInt8) (all : ByteArray) : oneM (bl s) all (s.length : Nat) = -1 := by
  unfold oneM
  rw [if_neg]
  rw [bl_size]
  omega
section
variable {s u : List UInt8} {all r : ByteArray} (hall : ∀ c : UInt8, ∃ j : Nat, j < all.size ∧ bAt all j = c.toNat)
theorem first_at {k : Nat} (hk : k ≤ s.length) (h : standsB s k u = true) : Mr (TF u all r) (bl s) 0 k ((k + u.length : Nat) : Int) ∧ Cr (TF u all r) (bl s) 0 k [.mk ((k + u.length : Nat) : Int) (-1) [] []] := by
  have hz := bl_size s
  have hl := stands_len hk h
  have m1 : Mr (TF u all r) (bl s) 1 k ((k + u.length : Nat) : Int) := word_yes (T := TF u all r) (i := 1) rfl hk h
  have m2 : Mr (TF u all r) (bl s) 2 ((k + u.length : Nat) : Int) ((k + u.length : Nat) : Int) := Mr.place (i := 2) (by omega) (by omega) rfl
  have m3 : Mr (TF u all r) (bl s) 3 k ((k + u.length : Nat) : Int) := Mr.row (i := 3) (by omega) (by omega) rfl (Rr.cons m1 (by omega) (Rr.cons m2 (by omega) (Rr.nil _)))
  have c3 : Cr (TF u all r) (bl s) 3 k [.mk ((k + u.length : Nat) : Int) (-1) [] []] := Cr.row (i := 3) (by omega) (by omega) rfl (CRr.cons m1 (by omega) (Cr.word (i := 1) (by omega) (by omega) rfl) (CRr.cons m2 (by omega) (Cr.place (i := 2) (by omega) (by omega) rfl) (CRr.nil _) rfl) rfl)
  exact ⟨Mr.choice (i := 0) (by omega) (by omega) rfl (Hr.yes m3 (by omega)), Cr.choice (i := 0) (by omega) (by omega) rfl (CHr.yes m3 (by omega) c3)⟩
include hall
theorem first_all : ∀ (n k : Nat), k + n = s.length → Mr (TF u all r) (bl s) 0 k (firstTo s u n k) ∧ (firstTo s u n k ≠ -1 → Cr (TF u all r) (bl s) 0 k [.mk (firstTo s u n k) (-1) [] []])
  | 0, k, hk => by
    have hz := bl_size s
    unfold firstTo
    by_cases h : standsB s k u = true
    · rw [if_pos h]
      exact ⟨(first_at (by omega) h).1, fun _ => (first_at (by omega) h).2⟩
    · rw [if_neg h]
      refine ⟨?_, fun e => absurd rfl e⟩
      have h' : standsB s k u = false := by simpa using h
      have m1 : Mr (TF u all r) (bl s) 1 k (-1) := word_no (T := TF u all r) (i := 1) rfl (by omega) h'
      have m3 : Mr (TF u all r) (bl s) 3 k (-1) := Mr.row (i := 3) (by omega) (by omega) rfl (Rr.no m1)
      have m4 : Mr (TF u all r) (bl s) 4 k (-1) := by
        have := Mr.one (T := TF u all r) (s := bl s) (i := 4) (a := k) (by omega) (by omega) rfl
        rw [show k = s.length from by omega, oneM_none] at this
        rw [show k = s.length from by omega]
        exact this
      have m6 : Mr (TF u all r) (bl s) 6 k (-1) := Mr.row (i := 6) (by omega) (by omega) rfl (Rr.no m4)
      exact Mr.choice (i := 0) (by omega) (by omega) rfl (Hr.no m3 (Hr.no m6 (Hr.nil _)))
  | n + 1, k, hk => by
    have hz := bl_size s
    have ih := first_all n (k + 1) (by omega)
    unfold firstTo
    by_cases h : standsB s k u = true
    · rw [if_pos h]
      exact ⟨(first_at (by omega) h).1, fun _ => (first_at (by omega) h).2⟩
    · rw [if_neg h]
      have h' : standsB s k u = false := by simpa using h
      have hge := firstTo_ge s u n (k + 1)
      have m1 : Mr (TF u all r) (bl s) 1 k (-1) := word_no (T := TF u all r) (i := 1) rfl (by omega) h'
      have m3 : Mr (TF u all r) (bl s) 3 k (-1) := Mr.row (i := 3) (by omega) (by omega) rfl (Rr.no m1)
      have m4 : Mr (TF u all r) (bl s) 4 k ((k + 1 : Nat) : Int) := by
        have := Mr.one (T := TF u all r) (s := bl s) (i := 4) (a := k) (by omega) (by omega) rfl
        rw [oneM_all s all hall k (by omega)] at this
        exact this
      by_cases hr : firstTo s u n (k + 1) = -1
      · have m5 : Mr (TF u all r) (bl s) 5 ((k + 1 : Nat) : Int) (-1) := Mr.name (i := 5) (by omega) (by omega) rfl (by rw [hr] at ih; exact Rr.no ih.1)
        have m6 : Mr (TF u all r) (bl s) 6 k (-1) := Mr.row (i := 6) (by omega) (by omega) rfl (Rr.cons m4 (by omega) (Rr.no m5))
        rw [hr]
        exact ⟨Mr.choice (i := 0) (by omega) (by omega) rfl (Hr.no m3 (Hr.no m6 (Hr.nil _))), fun e => absurd rfl e⟩
      · have m5 : Mr (TF u all r) (bl s) 5 ((k + 1 : Nat) : Int) (firstTo s u n (k + 1)) := Mr.name (i := 5) (by omega) (by omega) rfl (Rr.cons ih.1 hr (Rr.nil _))
        have m6 : Mr (TF u all r) (bl s) 6 k (firstTo s u n (k + 1)) := Mr.row (i := 6) (by omega) (by omega) rfl (Rr.cons m4 (by omega) (Rr.cons m5 hr (Rr.nil _)))
        have c5 : Cr (TF u all r) (bl s) 5 ((k + 1 : Nat) : Int) [.mk (firstTo s u n (k + 1)) (-1) [] []] := Cr.name (i := 5) (by omega) (by omega) rfl (CRr.cons ih.1 hr (ih.2 hr) (CRr.nil _) rfl)
        have c6 : Cr (TF u all r) (bl s) 6 k [.mk (firstTo s u n (k + 1)) (-1) [] []] := Cr.row (i := 6) (by omega) (by omega) rfl (CRr.cons m4 (by omega) (Cr.one (i := 4) (by omega) (by omega) rfl) (CRr.cons m5 hr c5 (CRr.nil _) rfl) rfl)
        exact ⟨Mr.choice (i := 0) (by omega) (by omega) rfl (Hr.no m3 (Hr.yes m6 hr)), fun _ => Cr.choice (i := 0) (by omega) (by omega) rfl (CHr.no m3 (CHr.yes m6 hr c6))⟩
end
end Go.Proofs.YtbojcemamhiodabGreatDoor
