import Derived.Test.YtbojcemamhiodabGreatDoorTx2
namespace Go.Proofs.YtbojcemamhiodabGreatDoor
open Go.RowKit

theorem innB_low (l : List UInt8) : innB l 0 = false := rfl
theorem innB_high (l : List UInt8) (k : Nat) (h : l.length ≤ k + 1) : innB l k = false := by
  unfold innB
  cases k with
  | zero => rfl
  | succ j =>
    have : l[j + 2]? = none := List.getElem?_eq_none (by omega)
    dsimp only
    rw [this]
    cases l[j]? <;> cases l[j + 1]? <;> rfl
theorem innB_mid (l : List UInt8) (j : Nat) (a b c : UInt8) (h0 : l[j]? = some a) (h1 : l[j + 1]? = some b) (h2 : l[j + 2]? = some c) : innB l (j + 1) = ((a.toNat : Int) == (b.toNat : Int) - 1 && (c.toNat : Int) == (b.toNat : Int) + 1) := by
  unfold innB
  dsimp only
  rw [h0, h1, h2]
  dsimp only
  rw [Bool.eq_iff_iff]
  simp only [Bool.and_eq_true, beq_iff_eq]
  omega

set_option maxRecDepth 4000 in
set_option maxHeartbeats 2000000 in
theorem isInner_any (l : List UInt8) (hl : l.length ≤ 400) (k : Nat) (hk : k < l.length) (w : World) :
    Calls Tryz.prog 81 #[.string (bl l), .int .i64 k] w fun e w' => e = .returned (.bool (innB l k)) ∧ w' = w := by
  have hz := bl_size l
  cases k with
  | zero =>
    rw [innB_low]
    go_enter Tryz.func81, Tryz.ntmps81
    go_wp2
    go_ret
    exact ⟨rfl, rfl⟩
  | succ j =>
    by_cases h : j + 2 < l.length
    · obtain ⟨a, h0⟩ : ∃ a, l[j]? = some a := ⟨_, List.getElem?_eq_getElem (by omega)⟩
      obtain ⟨b, h1⟩ : ∃ b, l[j + 1]? = some b := ⟨_, List.getElem?_eq_getElem (by omega)⟩
      obtain ⟨c, h2⟩ : ∃ c, l[j + 2]? = some c := ⟨_, List.getElem?_eq_getElem h⟩
      have HE := hide (innB_mid l j a b c h0 h1 h2)
      have i0 : j < (bl l).size := by omega
      have i1 : j + 1 < (bl l).size := by omega
      have i2 : j + 2 < (bl l).size := by omega
      have b0 : (bl l)[j]'i0 = a := (List.getElem?_eq_some_iff.1 h0).2
      have b1 : (bl l)[j + 1]'i1 = b := (List.getElem?_eq_some_iff.1 h1).2
      have b2 : (bl l)[j + 2]'i2 = c := (List.getElem?_eq_some_iff.1 h2).2
      have n0 := a.toNat_lt
      have n1 := b.toNat_lt
      have n2 := c.toNat_lt
      have hI : ((j : Int) + 1 + 1) < l.length := by omega
      have t1 : ((j : Int) + 1).toNat = j + 1 := by omega
      have t2 : ((j : Int) + 1 + 1).toNat = j + 2 := by omega
      clear h0 h1 h2
      cases hA : ((a.toNat : Int) == (b.toNat : Int) - 1)
      · rw [hA, Bool.false_and] at HE
        go_enter Tryz.func81, Tryz.ntmps81
        go_wp2
        go_ret
        exact ⟨ret_bool (unhide HE).symm, rfl⟩
      · rw [hA, Bool.true_and] at HE
        go_enter Tryz.func81, Tryz.ntmps81
        go_wp2
        go_ret
        exact ⟨ret_bool (unhide HE).symm, rfl⟩
    · rw [innB_high l (j + 1) (by omega)]
      have hI : (l.length : Int) ≤ (j : Int) + 1 + 1 := by omega
      go_enter Tryz.func81, Tryz.ntmps81
      go_wp2
      go_ret
      exact ⟨rfl, rfl⟩
def befB (l : List UInt8) (k : Nat) : Bool := match k with
  | 0 => false
  | j + 1 => innB l j
theorem setT0_succ (l : List UInt8) (k : Nat) (h : k < l.length) : setT0 l (k + 1) = setT0 l k ++ (if innB l k = true then (if befB l k = true then [] else [45]) else chrC l[k] (isSM l[k].toNat)) := by
  have hb : (0 < k ∧ innB l (k - 1) = true) ↔ befB l k = true := by
    cases k with
    | zero => simp [befB]
    | succ j => simp [befB]
  conv => lhs; unfold setT0
  rw [List.getElem?_eq_getElem h]
  dsimp only
  congr 1
  by_cases hi : innB l k = true
  · rw [if_pos hi, if_pos hi]
    by_cases hj : befB l k = true
    · rw [if_pos (hb.2 hj), if_pos hj]
    · rw [if_neg (fun x => hj (hb.1 x)), if_neg hj]
  · rw [if_neg hi, if_neg hi]
theorem setT0_len (l : List UInt8) : ∀ k, (setT0 l k).length ≤ 1 + 4 * k
  | 0 => by simp [setT0]
  | k + 1 => by
    have h1 := setT0_len l k
    unfold setT0
    split
    · omega
    · rename_i c _
      have h2 := chrC_len c (isSM c.toNat)
      rw [List.length_append]
      split
      · split <;> simp <;> omega
      · omega

set_option maxRecDepth 4000 in
set_option maxHeartbeats 4000000 in
theorem writeSet_any (hh : SaidH) (l : List UInt8) (hl : l.length ≤ 400) (w : World) (ht : Tab w) :
    Calls Tryz.prog 59 #[.string (bl l)] w fun e w' => e = .returned (.string (bl (setT l))) ∧ Below w.heap.size w w' := by
  have hz := bl_size l
  have HH := hide hh
  have HT := hide ht
  clear hh ht
  unfold setT
  by_cases h0 : l.length = 0
  · rw [if_pos h0]
    go_enter Tryz.func59, Tryz.ntmps59
    go_wp2
    go_ret
    exact ⟨rfl, Below.refl _ _⟩
  · rw [if_neg h0]
    by_cases h256 : l.length = 256
    · rw [if_pos h256]
      have d1 : ((l.length : Int) == 256) = true := beq_iff_eq.2 (by omega)
      have d0 : ((l.length : Int) == 0) = false := beq_eq_false_iff_ne.2 (by omega)
      clear h256 h0
      go_enter Tryz.func59, Tryz.ntmps59
      go_wp2
      go_ret
      exact ⟨rfl, Below.refl _ _⟩
    · rw [if_neg h256]
      have d1 : ((l.length : Int) == 256) = false := beq_eq_false_iff_ne.2 (by omega)
      have d0 : ((l.length : Int) == 0) = false := beq_eq_false_iff_ne.2 (by omega)
      clear h256 h0
      go_enter Tryz.func59, Tryz.ntmps59
      go_wp2_with fail
      go_loopw [3, 4, 5] (fun v b i wr => ∃ k : Nat, k ≤ l.length ∧ v = .string (bl (setT0 l k)) ∧ b = .bool (befB l k) ∧ i = .int .i64 k ∧ Hid (Below w.heap.size w wr)) (fun _ _ i _ => l.length - (intOf i).toNat)
      case atStart => exact ⟨0, Nat.zero_le _, rfl, rfl, rfl, Below.refl _ _⟩
      case round =>
        obtain ⟨k, hk, rfl, rfl, rfl, HB⟩ := hrel
        have hwl := setT0_len l k
        have hzw := bl_size (setT0 l k)
        by_cases hlt : k < l.length
        · have hi : k < (bl l).size := by omega
          have hb : (bl l)[k]'hi = l[k] := rfl
          have Hs := hide (setT0_succ l k hlt)
          have HI := hide (isInner_any l hl k hlt wr)
          have HM := hide (isSetMark_any l[k].toNat wr)
          have HC := hide (writeChar_any (unhide HH) l[k] (isSM l[k].toNat) wr ((unhide HT).below (unhide HB)))
          have hcl := chrC_len l[k] (isSM l[k].toNat)
          have hzc := bl_size (chrC l[k] (isSM l[k].toNat))
          have HBF : Hid (befB l (k + 1) = innB l k) := rfl
          generalize hg : l[k] = c at *
          have hcn : c.toNat < 256 := c.toNat_lt
          generalize isSM c.toNat = mk at *
          generalize setT0 l k = P at *
          generalize befB l k = bf at *
          cases hin : innB l k
          · rw [hin] at HI HBF Hs
            rw [if_neg (by simp)] at Hs
            go_wp2_with fail
            go_at_call 81
            refine (unhide HI).mono ?_
            rintro e w1 ⟨rfl, hw1⟩
            replace hw1 := hw1.symm
            subst hw1
            go_wp2_with fail
            go_at_call 82
            refine (unhide HM).mono ?_
            rintro e w1 ⟨rfl, hw1⟩
            replace hw1 := hw1.symm
            subst hw1
            go_wp2_with fail
            go_at_call 80
            refine (unhide HC).mono ?_
            rintro e w2 ⟨rfl, hb2⟩
            have HB2 := hide ((unhide HB).trans (hb2.mono (unhide HB).size))
            clear hb2
            go_wp2_with fail
            go_roundw
            case rel => exact ⟨k + 1, by omega, by rw [unhide Hs, ← bl_app], by rw [unhide HBF], by go_num, HB2⟩
            case measure => simp [intOf]; omega
          · rw [hin] at HI HBF Hs
            rw [if_pos rfl] at Hs
            cases bf
            · rw [if_neg (by simp)] at Hs
              go_wp2_with fail
              go_at_call 81
              refine (unhide HI).mono ?_
              rintro e w1 ⟨rfl, hw1⟩
              replace hw1 := hw1.symm
              subst hw1
              go_wp2_with fail
              go_roundw
              case rel => exact ⟨k + 1, by omega, by rw [unhide Hs, ← bl_app]; rfl, by rw [unhide HBF], by go_num, HB⟩
              case measure => simp [intOf]; omega
            · rw [if_pos rfl, List.append_nil] at Hs
              go_wp2_with fail
              go_at_call 81
              refine (unhide HI).mono ?_
              rintro e w1 ⟨rfl, hw1⟩
              replace hw1 := hw1.symm
              subst hw1
              go_wp2_with fail
              go_roundw
              case rel => exact ⟨k + 1, by omega, by rw [unhide Hs], by rw [unhide HBF], by go_num, HB⟩
              case measure => simp [intOf]; omega
        · have hkk : k = l.length := by omega
          subst hkk
          go_wp2
          go_ret
          exact ⟨by rw [← bl_app]; rfl, unhide HB⟩
set_option maxHeartbeats 1000000 in
theorem levelOf_any (k : Int) (w : World) : Calls Tryz.prog 36 #[.int .i64 k] w fun e w' => e = .returned (.int .i64 (lvlK k)) ∧ w' = w := by
  unfold lvlK
  by_cases h : k = 5 ∨ k = 6
  · rw [if_pos h]
    rcases h with rfl | rfl
    all_goals
      go_enter Tryz.func36, Tryz.ntmps36
      go_wp2
      go_ret
      exact ⟨rfl, rfl⟩
  · rw [if_neg h]
    have b5 : (k == 5) = false := by simp; omega
    have b6 : (k == 6) = false := by simp; omega
    by_cases h2 : k = 7 ∨ k = 8
    · rw [if_pos h2]
      rcases h2 with rfl | rfl
      all_goals
        go_enter Tryz.func36, Tryz.ntmps36
        go_wp2
        go_ret
        exact ⟨rfl, rfl⟩
    · rw [if_neg h2]
      have b7 : (k == 7) = false := by simp; omega
      have b8 : (k == 8) = false := by simp; omega
      clear h h2
      go_enter Tryz.func36, Tryz.ntmps36
      go_wp2
      go_ret
      exact ⟨rfl, rfl⟩
end Go.Proofs.YtbojcemamhiodabGreatDoor
