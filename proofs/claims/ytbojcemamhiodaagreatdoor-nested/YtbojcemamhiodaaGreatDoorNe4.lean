import Derived.Test.YtbojcemamhiodaaGreatDoorNe3
namespace Go.Proofs.YtbojcemamhiodaaGreatDoor
open Go.RowKit

theorem rep_snoc (k : Nat) : bl (List.replicate k 97) ++ ⟨#[97]⟩ = bl (List.replicate (k + 1) 97) := by
  rw [show (⟨#[97]⟩ : ByteArray) = bl [97] from rfl, bl_app, ← List.replicate_succ']
theorem sub_snoc (a k : Nat) : bl (subN a k) ++ ⟨#[98]⟩ = bl (subN a (k + 1)) := by
  rw [show (⟨#[98]⟩ : ByteArray) = bl [98] from rfl, bl_app]
  unfold subN
  rw [List.append_assoc, ← List.replicate_succ']
theorem sub_zero (a : Nat) : subN a 0 = List.replicate a 97 := by simp [subN]
theorem str_one (A : Nat) : strN A 1 = decC ((A - 1 - 0 : Nat) : Int) ++ [45] ++ decC ((A + 0 + 1 : Nat) : Int) := by
  conv => lhs; unfold strN
  rw [if_pos (show strN A 0 = [] from rfl), List.append_nil]
theorem str_more (A j : Nat) : strN A (j + 2) = decC ((A - 1 - (j + 1) : Nat) : Int) ++ [45] ++ decC ((A + (j + 1) + 1 : Nat) : Int) ++ ([40] ++ strN A (j + 1) ++ [41]) := by
  conv => lhs; unfold strN
  rw [if_neg (str_ne A j)]
  rfl
theorem decC_len4 (a : Int) : (decC a).length ≤ 2 := by unfold decC; split <;> simp
theorem bl_cat (a b c d : List UInt8) : bl a ++ ⟨#[45]⟩ ++ bl c ++ (⟨#[40]⟩ ++ bl d ++ ⟨#[41]⟩) = bl (a ++ [45] ++ c ++ ([40] ++ d ++ [41])) ∧ b = b := by
  refine ⟨?_, rfl⟩
  rw [show (⟨#[45]⟩ : ByteArray) = bl [45] from rfl, show (⟨#[40]⟩ : ByteArray) = bl [40] from rfl, show (⟨#[41]⟩ : ByteArray) = bl [41] from rfl]
  simp only [bl_app]

set_option maxRecDepth 4000 in
set_option maxHeartbeats 2000000 in
theorem nested_walk (W : World) (n m : Int) (A B M : Nat) (hA : A ≤ 20) (hB : B ≤ 20) (hMA : M ≤ A) (hMB : M ≤ B) (x y : Int) (h1 : (if n < 0 then 0 else n) = x) (h2 : (if 20 < x then 20 else x) = (A : Int)) (h3 : (if m < 0 then 0 else m) = y) (h4 : (if 20 < y then 20 else y) = (B : Int)) (h5 : (if B < A then (B : Int) else A) = (M : Int)) (hM : (A ≤ B ∧ M = A) ∨ (B < A ∧ M = B)) :
    Calls Tryz.prog 12 #[.int .i64 n, .int .i64 m] W fun e w' => e = .returned (.bool true) ∧ Below W.heap.size W w' := by
  have HM := hide hM
  have HQ := hide (fun (W : World) (k : Nat) (r : Int) (cs : ByteArray) => nest_ask W A B k r cs hA hB)
  clear hM
  go_enter Tryz.func12, Tryz.ntmps12
  go_wp2_with fail
  go_loopw [7, 8] (fun v i wr => ∃ k : Nat, k ≤ A ∧ v = .string (bl (List.replicate k 97)) ∧ i = .int .i64 k ∧ Hid (Below W.heap.size W wr)) (fun _ i _ => A - (intOf i).toNat)
  case atStart => exact ⟨0, Nat.zero_le _, rfl, rfl, Below.refl _ _⟩
  case round =>
    obtain ⟨k, hk, rfl, rfl, HB⟩ := hrel
    have hz := bl_size (List.replicate k (97 : UInt8))
    rw [List.length_replicate] at hz
    by_cases hlt : k < A
    · have hltI : (k : Int) < A := by omega
      have HE := hide (rep_snoc k)
      generalize bl (List.replicate k 97) = S at *
      go_wp2_with fail
      go_roundw
      case rel => exact ⟨k + 1, by omega, by rw [unhide HE], by go_num, HB⟩
      case measure => simp [intOf] <;> omega
    · have hkA : k = A := by omega
      subst hkA
      clear hlt hz
      rename_i wr1 _
      go_wp2_with fail
      go_loopw [7, 9] (fun v i wr => ∃ j : Nat, j ≤ B ∧ v = .string (bl (subN k j)) ∧ i = .int .i64 j ∧ Hid (Below W.heap.size W wr)) (fun _ i _ => B - (intOf i).toNat)
      case atStart => exact ⟨0, Nat.zero_le _, by rw [sub_zero], rfl, HB⟩
      case round =>
        clear HB
        obtain ⟨j, hj, rfl, rfl, HB⟩ := hrel
        have hz := bl_size (subN k j)
        rw [subN_len] at hz
        by_cases hlt : j < B
        · have hltI : (j : Int) < B := by omega
          have HE := hide (sub_snoc k j)
          generalize bl (subN k j) = S at *
          go_wp2_with fail
          go_roundw
          case rel => exact ⟨j + 1, by omega, by rw [unhide HE], by go_num, HB⟩
          case measure => simp [intOf] <;> omega
        · have hjB : j = B := by omega
          subst hjB
          clear hlt hz
          go_wp2_with fail
          go_loopw [10, 11] (fun v i wr => ∃ (d : Nat) (q : Int), d ≤ M ∧ v = .string (bl (strN k d)) ∧ i = .int .i64 q ∧ q + d + 1 = M ∧ Hid (Below W.heap.size W wr)) (fun _ i _ => (intOf i + 1).toNat)
          case atStart => exact ⟨0, (M : Int) - 1, Nat.zero_le _, rfl, rfl, by omega, HB⟩
          case round =>
            clear HB
            obtain ⟨d, q, hd, rfl, rfl, hq, HB⟩ := hrel
            have hz := bl_size (strN k d)
            have hsl := str_len k d
            by_cases hlt : d < M
            · have hq0 : 0 ≤ q := by omega
              obtain ⟨P, hP⟩ : ∃ P : Nat, P = k - 1 - d := ⟨_, rfl⟩
              obtain ⟨R, hR⟩ : ∃ R : Nat, R = k + d + 1 := ⟨_, rfl⟩
              have e1 : q + (k : Int) - (M : Int) = (P : Int) := by omega
              have e2 : 2 * (M : Int) - q + (k : Int) - (M : Int) = (R : Int) := by omega
              have NP := hide (fun W : World => number_any P W (by omega))
              have NR := hide (fun W : World => number_any R W (by omega))
              have l1 := decC_len4 (P : Int)
              have l2 := decC_len4 (R : Int)
              have z1 : (⟨(decC (P : Int)).toArray⟩ : ByteArray).size = (decC (P : Int)).length := by show (decC (P : Int)).toArray.size = _; rw [List.size_toArray]
              have z2 : (⟨(decC (R : Int)).toArray⟩ : ByteArray).size = (decC (R : Int)).length := by show (decC (R : Int)).toArray.size = _; rw [List.size_toArray]
              have hqb : q ≤ 20 := by omega
              have hRb : R ≤ 41 := by omega
              have hMI : (M : Int) ≤ 20 := by omega
              have hkI : (k : Int) ≤ 20 := by omega
              have Hq := hide hq
              cases d with
              | zero =>
                have hem : (bl (strN k 0)).toList.isEmpty = true := by rw [ByteArray.toList_eq]; rfl
                have HE : Hid (bl (strN k (0 + 1)) = ⟨(decC (P : Int)).toArray⟩ ++ ⟨#[45]⟩ ++ ⟨(decC (R : Int)).toArray⟩ ++ ⟨#[]⟩) := by
                  unfold Hid
                  rw [str_one, hP, hR]
                  show bl _ = bl (decC ((k - 1 - 0 : Nat) : Int)) ++ bl [45] ++ bl (decC ((k + 0 + 1 : Nat) : Int)) ++ bl []
                  simp only [bl_app, List.append_nil]
                have HPR := hide (And.intro hP hR)
                clear hP hR hq
                go_wp2_with fail
                go_at_call 25
                refine (unhide NP _).mono ?_
                rintro e w1 ⟨rfl, hb1⟩
                have HB1 := hide ((unhide HB).trans (hb1.mono (unhide HB).size))
                clear hb1
                go_wp2_with fail
                go_at_call 25
                refine (unhide NR _).mono ?_
                rintro e w2 ⟨rfl, hb2⟩
                have HB2 := hide ((unhide HB1).trans (hb2.mono (unhide HB1).size))
                clear hb2
                go_wp2_with fail
                go_roundw
                case rel => exact ⟨0 + 1, q - 1, by omega, by rw [unhide HE], by go_num, by have := unhide Hq; omega, HB2⟩
                case measure => simp [intOf] <;> omega
              | succ d =>
                have hem : (bl (strN k (d + 1))).toList.isEmpty = false := by
                  rw [ByteArray.toList_eq]
                  cases hh : strN k (d + 1) with
                  | nil => exact absurd hh (str_ne k d)
                  | cons => rfl
                have HE : Hid (bl (strN k (d + 1 + 1)) = ⟨(decC (P : Int)).toArray⟩ ++ ⟨#[45]⟩ ++ ⟨(decC (R : Int)).toArray⟩ ++ (⟨#[40]⟩ ++ bl (strN k (d + 1)) ++ ⟨#[41]⟩)) := by
                  unfold Hid
                  rw [str_more, hP, hR]
                  exact (bl_cat _ [] _ _).1.symm
                clear hP hR hq
                generalize bl (strN k (d + 1)) = S at *
                go_wp2_with fail
                go_at_call 25
                refine (unhide NP _).mono ?_
                rintro e w1 ⟨rfl, hb1⟩
                have HB1 := hide ((unhide HB).trans (hb1.mono (unhide HB).size))
                clear hb1
                go_wp2_with fail
                go_at_call 25
                refine (unhide NR _).mono ?_
                rintro e w2 ⟨rfl, hb2⟩
                have HB2 := hide ((unhide HB1).trans (hb2.mono (unhide HB1).size))
                clear hb2
                go_wp2_with fail
                go_roundw
                case rel => exact ⟨d + 1 + 1, q - 1, by omega, by rw [unhide HE], by go_num, by have := unhide Hq; omega, HB2⟩
                case measure => simp [intOf] <;> omega
            · have hdM : d = M := by omega
              subst hdM
              have hqn : q = -1 := by omega
              subst hqn
              clear hz hsl hlt hq
              rcases unhide HM with ⟨hAB, hMe⟩ | ⟨hAB, hMe⟩
              · subst hMe
                have g1 : ¬ (j : Int) < d := by omega
                have g2 : (d : Int) ≤ j := by omega
                by_cases h0 : d = 0
                · subst h0
                  have HC := hide (fun W => unhide HQ W 0 (-1) (bl (strN 0 0)) (.inl ⟨rfl, rfl, rfl⟩))
                  go_wp2_with fail
                  go_at_call 24
                  refine (unhide HC _).mono ?_
                  rintro e w5 ⟨rfl, hb5⟩
                  have HB5 := hide ((unhide HB).trans (hb5.mono (unhide HB).size))
                  clear hb5
                  go_wp2
                  go_ret
                  exact ⟨rfl, unhide HB5⟩
                · have hp : (0 : Int) < d := by omega
                  have HC := hide (fun W => unhide HQ W 0 (2 * (d : Int)) (bl (strN d d)) (.inr ⟨d - 1, by omega, by omega, by omega, by omega, by rw [show d - 1 + 1 = d from by omega]⟩))
                  clear h0
                  go_wp2_with fail
                  go_at_call 24
                  refine (unhide HC _).mono ?_
                  rintro e w5 ⟨rfl, hb5⟩
                  have HB5 := hide ((unhide HB).trans (hb5.mono (unhide HB).size))
                  clear hb5
                  go_wp2
                  go_ret
                  exact ⟨rfl, unhide HB5⟩
              · subst hMe
                have g1 : (d : Int) < k := by omega
                by_cases h0 : d = 0
                · subst h0
                  go_wp2
                  go_ret
                  exact ⟨rfl, unhide HB⟩
                · have hp : ¬ (d : Int) = 0 := by omega
                  have hb0 : ((d : Int) == 0) = false := beq_eq_false_iff_ne.2 hp
                  obtain ⟨u, hu⟩ : ∃ u : Nat, u = k - d := ⟨_, rfl⟩
                  have e1 : (k : Int) - d = u := by omega
                  have HC := hide (fun W => unhide HQ W u ((k : Int) + d) (bl (strN k d)) (.inr ⟨d - 1, by omega, by omega, by omega, by omega, by rw [show d - 1 + 1 = d from by omega]⟩))
                  clear h0 hu
                  go_wp2_with fail
                  go_at_call 24
                  refine (unhide HC _).mono ?_
                  rintro e w5 ⟨rfl, hb5⟩
                  have HB5 := hide ((unhide HB).trans (hb5.mono (unhide HB).size))
                  clear hb5
                  go_wp2
                  go_ret
                  exact ⟨rfl, unhide HB5⟩
theorem nested_any (W : World) (n m : Int) :
    Calls Tryz.prog 12 #[.int .i64 n, .int .i64 m] W fun e w' => e = .returned (.bool true) ∧ Below W.heap.size W w' := by
  have cl : ∀ z : Int, ∃ (A : Nat) (x : Int), A ≤ 20 ∧ (if z < 0 then 0 else z) = x ∧ (if 20 < x then 20 else x) = (A : Int) := fun z => by
    by_cases a1 : z < 0
    · exact ⟨0, 0, by omega, by rw [if_pos a1], by decide⟩
    · by_cases a2 : 20 < z
      · exact ⟨20, z, by omega, by rw [if_neg a1], by rw [if_pos a2]; rfl⟩
      · exact ⟨z.toNat, z, by omega, by rw [if_neg a1], by rw [if_neg a2]; omega⟩
  obtain ⟨A, x, hA, e1, e2⟩ := cl n
  obtain ⟨B, y, hB, e3, e4⟩ := cl m
  by_cases h : B < A
  · exact nested_walk W n m A B B hA hB (by omega) (by omega) x y e1 e2 e3 e4 (by rw [if_pos h]) (.inr ⟨h, rfl⟩)
  · exact nested_walk W n m A B A hA hB (by omega) (by omega) x y e1 e2 e3 e4 (by rw [if_neg h]) (.inl ⟨by omega, rfl⟩)
end Go.Proofs.YtbojcemamhiodaaGreatDoor
