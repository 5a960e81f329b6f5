import Derived.Test.YtbojcemamhiodaaGreatDoorLks
import Derived.KernelRfl
import Derived.Test.YtbojcemamhiodaaGreatDoorCx4
import Derived.Test.YtbojcemamhiodaaGreatDoorParse
import Derived.Test.YtbojcemamhiodaaGreatDoorComp
namespace Go.Proofs.YtbojcemamhiodaaGreatDoor

/-- r <- {'a' r? 'b'} -/
def textN : ByteArray := ⟨#[114, 32, 60, 45, 32, 123, 39, 97, 39, 32, 114, 63, 32, 39, 98, 39, 125]⟩
def TN : List Tm := [⟨4, ByteArray.empty, [5]⟩, ⟨0, bl [97], []⟩, ⟨2, bl [114], [0]⟩, ⟨11, ByteArray.empty, [2]⟩, ⟨0, bl [98], []⟩, ⟨5, ByteArray.empty, [1, 3, 4]⟩]
theorem compile_nest : compileF 5 3 textN = some (0, 0) := by decide +kernel
theorem build_nest : buildF 6 (parseF textN).rules = TN := by kernel_rfl
def subN (a b : Nat) : List UInt8 := List.replicate a 97 ++ List.replicate b 98
theorem subN_len (a b : Nat) : (subN a b).length = a + b := by simp [subN]
theorem sub_at (a b k : Nat) : (subN a b)[k]? = if k < a then some 97 else if k < a + b then some 98 else none := by
  unfold subN
  by_cases h : k < a
  · rw [if_pos h, List.getElem?_append_left (by simpa using h)]
    simp [h]
  · rw [if_neg h, List.getElem?_append_right (by simpa using Nat.le_of_not_lt h)]
    by_cases h2 : k < a + b
    · rw [if_pos h2, List.length_replicate, List.getElem?_replicate, if_pos (by omega)]
    · rw [if_neg h2, List.length_replicate, List.getElem?_replicate, if_neg (by omega)]
theorem stands_one (s : List UInt8) (c : UInt8) (k : Nat) (h : s[k]? = some c) : standsB s k [c] = true := by
  unfold standsB
  rw [decide_eq_true_eq, List.prefix_iff_getElem?]
  intro i hi
  have hi0 : i = 0 := by simp at hi; omega
  subst hi0
  rw [List.getElem?_drop]
  simpa using h
theorem stands_oneN (s : List UInt8) (c : UInt8) (k : Nat) (h : s[k]? ≠ some c) : standsB s k [c] = false := by
  unfold standsB
  rw [decide_eq_false_iff_not]
  intro hp
  have := List.prefix_iff_getElem?.1 hp 0 (by simp)
  rw [List.getElem?_drop] at this
  exact h (by simpa using this)

/-- what the level at place A - 1 - j catches -/
def ctN (A : Nat) : Nat → List Ct
  | 0 => []
  | j + 1 => [.mk ((A - 1 - j : Nat) : Int) ((A + j + 1 : Nat) : Int) [] (ctN A j)]

section
variable {A B : Nat}
theorem nest_end : Mr TN (bl (subN A B)) 0 (A : Nat) (-1) := by
  have hz := bl_size (subN A B)
  have hl := subN_len A B
  have m1 : Mr TN (bl (subN A B)) 1 (A : Nat) (-1) := word_no (T := TN) (i := 1) rfl (by omega) (stands_oneN _ _ _ (by rw [sub_at, if_neg (by omega)]; split <;> simp))
  have m5 : Mr TN (bl (subN A B)) 5 (A : Nat) (-1) := Mr.row (i := 5) (by omega) (by omega) rfl (Rr.no m1)
  exact Mr.part (i := 0) (by omega) (by omega) rfl (Rr.no m5)
theorem nest_at : ∀ j : Nat, j < A → j < B → Mr TN (bl (subN A B)) 0 ((A - 1 - j : Nat) : Int) ((A + j + 1 : Nat) : Int) ∧ Cr TN (bl (subN A B)) 0 ((A - 1 - j : Nat) : Int) (ctN A (j + 1))
  | j, hA, hB => by
    have hz := bl_size (subN A B)
    have hl := subN_len A B
    have m1 : Mr TN (bl (subN A B)) 1 ((A - 1 - j : Nat) : Int) ((A - 1 - j + 1 : Nat) : Int) := word_yes (T := TN) (u := [97]) (i := 1) rfl (by omega) (stands_one _ _ _ (by rw [sub_at, if_pos (by omega)]))
    have c1 : Cr TN (bl (subN A B)) 1 ((A - 1 - j : Nat) : Int) [] := Cr.word (i := 1) (by omega) (by omega) rfl
    have m4 : Mr TN (bl (subN A B)) 4 ((A + j : Nat) : Int) ((A + j + 1 : Nat) : Int) := word_yes (T := TN) (u := [98]) (i := 4) rfl (by omega) (stands_one _ _ _ (by rw [sub_at, if_neg (by omega), if_pos (by omega)]))
    have c4 : Cr TN (bl (subN A B)) 4 ((A + j : Nat) : Int) [] := Cr.word (i := 4) (by omega) (by omega) rfl
    have hq : Mr TN (bl (subN A B)) 3 ((A - 1 - j + 1 : Nat) : Int) ((A + j : Nat) : Int) ∧ Cr TN (bl (subN A B)) 3 ((A - 1 - j + 1 : Nat) : Int) (ctN A j) := by
      cases j with
      | zero =>
        have e : A - 1 - 0 + 1 = A := by omega
        rw [e]
        have m2 : Mr TN (bl (subN A B)) 2 (A : Nat) (-1) := Mr.name (i := 2) (by omega) (by omega) rfl (Rr.no nest_end)
        exact ⟨Mr.query_no (i := 3) (by omega) (by omega) rfl (Rr.no m2), Cr.query (i := 3) (by omega) (by omega) rfl (CRr.no m2)⟩
      | succ j =>
        have ih := nest_at j (by omega) (by omega)
        have e : A - 1 - (j + 1) + 1 = A - 1 - j := by omega
        rw [e]
        have m2 : Mr TN (bl (subN A B)) 2 ((A - 1 - j : Nat) : Int) ((A + j + 1 : Nat) : Int) := Mr.name (i := 2) (by omega) (by omega) rfl (Rr.cons ih.1 (by omega) (Rr.nil _))
        have c2 : Cr TN (bl (subN A B)) 2 ((A - 1 - j : Nat) : Int) (ctN A (j + 1)) := Cr.name (i := 2) (by omega) (by omega) rfl (CRr.cons ih.1 (by omega) ih.2 (CRr.nil _) (by simp))
        exact ⟨Mr.query_yes (i := 3) (by omega) (by omega) rfl (Rr.cons m2 (by omega) (Rr.nil _)) (by omega), Cr.query (i := 3) (by omega) (by omega) rfl (CRr.cons m2 (by omega) c2 (CRr.nil _) (by simp))⟩
    have r5 : Rr TN (bl (subN A B)) [1, 3, 4] ((A - 1 - j : Nat) : Int) ((A + j + 1 : Nat) : Int) := Rr.cons m1 (by omega) (Rr.cons hq.1 (by omega) (Rr.cons m4 (by omega) (Rr.nil _)))
    have m5 : Mr TN (bl (subN A B)) 5 ((A - 1 - j : Nat) : Int) ((A + j + 1 : Nat) : Int) := Mr.row (i := 5) (by omega) (by omega) rfl r5
    have c5 : Cr TN (bl (subN A B)) 5 ((A - 1 - j : Nat) : Int) (ctN A j) := Cr.row (i := 5) (by omega) (by omega) rfl (CRr.cons m1 (by omega) c1 (CRr.cons hq.1 (by omega) hq.2 (CRr.cons m4 (by omega) c4 (CRr.nil _) rfl) rfl) (by simp))
    have rr : Rr TN (bl (subN A B)) [5] ((A - 1 - j : Nat) : Int) ((A + j + 1 : Nat) : Int) := Rr.cons m5 (by omega) (Rr.nil _)
    exact ⟨Mr.part (i := 0) (by omega) (by omega) rfl rr, Cr.part (i := 0) (u := ByteArray.empty) (by omega) (by omega) rfl rr (CRr.cons m5 (by omega) c5 (CRr.nil _) (by simp))⟩
end

/-- what Nested writes, n levels from within -/
def strN (A : Nat) : Nat → List UInt8
  | 0 => []
  | j + 1 => decC ((A - 1 - j : Nat) : Int) ++ [45] ++ decC ((A + j + 1 : Nat) : Int) ++ (if strN A j = [] then [] else 40 :: strN A j ++ [41])
theorem str_ne (A j : Nat) : strN A (j + 1) ≠ [] := by unfold strN; simp
theorem str_ct (A : Nat) : ∀ j : Nat, wrL (ctN A j) = strN A j
  | 0 => rfl
  | j + 1 => by
    show wrC _ ++ wrC.rest [] = _
    unfold strN
    rw [wrC_part, if_pos rfl, ← str_ct A j]
    cases j with
    | zero =>
      rw [show ctN A 0 = [] from rfl]
      simp [wrL, wrC.rest]
    | succ j =>
      have h := str_ne A j
      rw [← str_ct A (j + 1)] at h
      rw [if_neg h]
      simp [ctN, wrL, wrC.rest]
theorem str_len (A : Nat) : ∀ j : Nat, (strN A j).length ≤ 8 * j
  | 0 => by simp [strN]
  | j + 1 => by
    have ih := str_len A j
    have h1 : (decC ((A - 1 - j : Nat) : Int)).length ≤ 2 := by unfold decC; split <;> simp
    have h2 : (decC ((A + j + 1 : Nat) : Int)).length ≤ 2 := by unfold decC; split <;> simp
    unfold strN
    split
    · simp only [List.length_append, List.length_cons, List.length_nil]
      omega
    · simp only [List.length_append, List.length_cons, List.length_nil]
      omega
end Go.Proofs.YtbojcemamhiodaaGreatDoor
