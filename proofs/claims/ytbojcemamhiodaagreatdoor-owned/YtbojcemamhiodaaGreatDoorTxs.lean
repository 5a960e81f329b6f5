import Derived.Test.YtbojcemamhiodaaGreatDoorTxm
import Derived.Test.YtbojcemamhiodaaGreatDoorBui2
import Derived.BigQuiet
import Derived.Lib.ItoaNum
import Derived.Lib.ItoaWalk
namespace Go.Proofs.YtbojcemamhiodaaGreatDoor
open Go.RowKit

/-- the library's table of 64 bytes: what FormatInt at base 16 reads of it -/
def Tab (w : World) : Prop := w.cell? ⟨2, 15, none⟩ = some (.int .u8 4) ∧ 2 < w.heap.size
theorem Tab.below {w w' : World} (h : Tab w) (hb : Below w.heap.size w w') : Tab w' := ⟨(World.cell?_of_block (hb.block _ h.2)).trans h.1, Nat.lt_of_lt_of_le h.2 hb.size⟩

def hex2 (n : Nat) : List UInt8 := if n < 16 then [hexC n] else [hexC (n / 16), hexC (n % 16)]
/-- the contract of strconv.FormatInt at base 16 -/
def SaidH : Prop := ∀ (n : Nat) (w : World), n < 256 → Tab w → Calls Tryz.prog 126 #[.int .i64 n, .int .i64 16] w fun e w' => e = .returned (.string (bl (hex2 n))) ∧ Below w.heap.size w w'

set_option maxRecDepth 4000 in
set_option maxHeartbeats 2000000 in
theorem writeChar_any (hh : SaidH) (c : UInt8) (mark : Bool) (w : World) (ht : Tab w) :
    Calls Tryz.prog 97 #[.int .u8 (c.toNat : Int), .bool mark] w fun e w' => e = .returned (.string (bl (chrC c mark))) ∧ Below w.heap.size w w' := by
  have hcv := conv_at1 (c.toNat : Int) c rfl
  have hlt := c.toNat_lt
  unfold chrC
  cases mark with
  | true =>
    rw [if_pos rfl]
    have e1 : (⟨#[92]⟩ ++ ⟨#[c]⟩ : ByteArray) = bl [92, c] := rfl
    have E1 := hide e1
    clear e1
    go_enter Tryz.func97, Tryz.ntmps97
    go_wp2
    go_ret
    exact ⟨rfl, (Below.refl _ _).alloc (Nat.le_refl _) _⟩
  | false =>
    rw [if_neg (by simp)]
    by_cases h : 32 ≤ c.toNat ∧ c.toNat ≤ 126
    · rw [if_pos h]
      have h1 : (32 : Int) ≤ c.toNat := by omega
      have h2 : (c.toNat : Int) ≤ 126 := by omega
      clear h
      go_enter Tryz.func97, Tryz.ntmps97
      go_wp2
      go_ret
      exact ⟨rfl, (Below.refl _ _).alloc (Nat.le_refl _) _⟩
    · rw [if_neg h]
      have hd : decide ((32 : Int) ≤ c.toNat) = false ∨ (decide ((32 : Int) ≤ c.toNat) = true ∧ decide ((c.toNat : Int) ≤ 126) = false) := by
        by_cases h1 : 32 ≤ c.toNat
        · exact .inr ⟨by simp; omega, by simp; omega⟩
        · exact .inl (by simp; omega)
      have HH := hide (hh c.toNat w hlt ht)
      clear h hcv
      by_cases h16 : c.toNat < 16
      · have h16I : (c.toNat : Int) < 16 := by omega
        have e1 : hex2 c.toNat = [hexC c.toNat] := by unfold hex2; rw [if_pos h16]
        have e2 : c.toNat / 16 = 0 := by omega
        have e3 : c.toNat % 16 = c.toNat := by omega
        rw [e1] at HH
        rw [e2, e3]
        clear e1 e2 e3
        generalize hexC c.toNat = x at *
        rcases hd with hd | ⟨hd, hd2⟩
        all_goals
          go_enter Tryz.func97, Tryz.ntmps97
          go_wp2_with fail
          go_at_call 126
          refine (unhide HH).mono ?_
          rintro e w1 ⟨rfl, hb1⟩
          have HB1 := hide hb1
          clear hb1
          go_wp2
          go_ret
          exact ⟨rfl, unhide HB1⟩
      · have h16I : ¬ (c.toNat : Int) < 16 := by omega
        have e1 : hex2 c.toNat = [hexC (c.toNat / 16), hexC (c.toNat % 16)] := by unfold hex2; rw [if_neg h16]
        rw [e1] at HH
        clear e1
        generalize hexC (c.toNat / 16) = x at *
        generalize hexC (c.toNat % 16) = y at *
        rcases hd with hd | ⟨hd, hd2⟩
        all_goals
          go_enter Tryz.func97, Tryz.ntmps97
          go_wp2_with fail
          go_at_call 126
          refine (unhide HH).mono ?_
          rintro e w1 ⟨rfl, hb1⟩
          have HB1 := hide hb1
          clear hb1
          go_wp2
          go_ret
          exact ⟨rfl, unhide HB1⟩

theorem chrC_len (c : UInt8) (m : Bool) : (chrC c m).length ≤ 4 := by
  unfold chrC
  split
  · simp
  · split <;> simp
def wordP (l : List UInt8) (k : Nat) : List UInt8 := 39 :: ((l.take k).flatMap fun c => chrC c (isWM c.toNat))
theorem wordP_succ (l : List UInt8) (k : Nat) (h : k < l.length) : wordP l (k + 1) = wordP l k ++ chrC l[k] (isWM l[k].toNat) := by
  unfold wordP
  rw [List.take_succ_eq_append_getElem h, List.flatMap_append]
  simp
theorem wordP_len (l : List UInt8) : ∀ k, (wordP l k).length ≤ 1 + 4 * k
  | 0 => by simp [wordP]
  | k + 1 => by
    by_cases h : k < l.length
    · rw [wordP_succ l k h, List.length_append]
      have h1 := wordP_len l k
      have h2 := chrC_len l[k] (isWM l[k].toNat)
      omega
    · have e : wordP l (k + 1) = wordP l k := by unfold wordP; rw [List.take_of_length_le (by omega), List.take_of_length_le (by omega)]
      have h1 := wordP_len l k
      rw [e]
      omega

set_option maxRecDepth 4000 in
set_option maxHeartbeats 2000000 in
theorem writeWord_any (hh : SaidH) (l : List UInt8) (hl : l.length ≤ 400) (w : World) (ht : Tab w) :
    Calls Tryz.prog 68 #[.string (bl l)] w fun e w' => e = .returned (.string (bl (wordT l))) ∧ Below w.heap.size w w' := by
  have hz := bl_size l
  have HH := hide hh
  have HT := hide ht
  clear hh ht
  go_enter Tryz.func68, Tryz.ntmps68
  go_wp2_with fail
  go_loopw [3, 4] (fun v i wr => ∃ k : Nat, k ≤ l.length ∧ v = .string (bl (wordP l k)) ∧ i = .int .i64 k ∧ Hid (Below w.heap.size w wr)) (fun _ i _ => l.length - (intOf i).toNat)
  case atStart => exact ⟨0, Nat.zero_le _, rfl, rfl, Below.refl _ _⟩
  case round =>
    obtain ⟨k, hk, rfl, rfl, HB⟩ := hrel
    have hwl := wordP_len l k
    have hzw := bl_size (wordP l k)
    by_cases hlt : k < l.length
    · have hi : k < (bl l).size := by omega
      have hb : (bl l)[k]'hi = l[k] := rfl
      have Hs := hide (wordP_succ l k hlt)
      have HM := hide (isWordMark_any l[k].toNat wr)
      have HC := hide (writeChar_any (unhide HH) l[k] (isWM l[k].toNat) wr ((unhide HT).below (unhide HB)))
      have hcl := chrC_len l[k] (isWM l[k].toNat)
      have hzc := bl_size (chrC l[k] (isWM l[k].toNat))
      generalize hg : l[k] = c at *
      have hcn : c.toNat < 256 := c.toNat_lt
      generalize isWM c.toNat = mk at *
      generalize wordP l k = P at *
      go_wp2_with fail
      go_at_call 96
      refine (unhide HM).mono ?_
      rintro e w1 ⟨rfl, hw1⟩
      replace hw1 := hw1.symm
      subst hw1
      go_wp2_with fail
      go_at_call 97
      refine (unhide HC).mono ?_
      rintro e w2 ⟨rfl, hb2⟩
      have HB2 := hide ((unhide HB).trans (hb2.mono (unhide HB).size))
      clear hb2
      go_wp2_with fail
      go_roundw
      case rel => exact ⟨k + 1, by omega, by rw [unhide Hs, ← bl_app], by go_num, HB2⟩
      case measure => simp [intOf]; omega
    · have e : wordP l k ++ [39] = wordT l := by unfold wordP wordT; rw [List.take_of_length_le (by omega)]
      have HE := hide e
      clear e
      generalize wordP l k = P at *
      go_wp2
      go_ret
      exact ⟨by rw [← unhide HE, ← bl_app]; rfl, unhide HB⟩
end Go.Proofs.YtbojcemamhiodaaGreatDoor
namespace Go.Proofs.YtbojcemamhiodaaGreatDoor
open Go.RowKit

theorem innB_low (l : List UInt8) : innB l 0 = false := rfl
theorem innB_high (l : List UInt8) (k : Nat) (h : l.length ≤ k + 1) : innB l k = false := by
  unfold innB
  cases k with
  | zero => rfl
  | succ j =>
    have : l[j + 2]? = none := List.getElem?_eq_none (by omega)
    dsimp only
    rw [this]
    cases l[j]? <;> cases l[j + 1]? <;> rfl
theorem innB_mid (l : List UInt8) (j : Nat) (a b c : UInt8) (h0 : l[j]? = some a) (h1 : l[j + 1]? = some b) (h2 : l[j + 2]? = some c) : innB l (j + 1) = ((a.toNat : Int) == (b.toNat : Int) - 1 && (c.toNat : Int) == (b.toNat : Int) + 1) := by
  unfold innB
  dsimp only
  rw [h0, h1, h2]
  dsimp only
  rw [Bool.eq_iff_iff]
  simp only [Bool.and_eq_true, beq_iff_eq]
  omega

set_option maxRecDepth 4000 in
set_option maxHeartbeats 2000000 in
theorem isInner_any (l : List UInt8) (hl : l.length ≤ 400) (k : Nat) (hk : k < l.length) (w : World) :
    Calls Tryz.prog 98 #[.string (bl l), .int .i64 k] w fun e w' => e = .returned (.bool (innB l k)) ∧ w' = w := by
  have hz := bl_size l
  cases k with
  | zero =>
    rw [innB_low]
    go_enter Tryz.func98, Tryz.ntmps98
    go_wp2
    go_ret
    exact ⟨rfl, rfl⟩
  | succ j =>
    by_cases h : j + 2 < l.length
    · obtain ⟨a, h0⟩ : ∃ a, l[j]? = some a := ⟨_, List.getElem?_eq_getElem (by omega)⟩
      obtain ⟨b, h1⟩ : ∃ b, l[j + 1]? = some b := ⟨_, List.getElem?_eq_getElem (by omega)⟩
      obtain ⟨c, h2⟩ : ∃ c, l[j + 2]? = some c := ⟨_, List.getElem?_eq_getElem h⟩
      have HE := hide (innB_mid l j a b c h0 h1 h2)
      have i0 : j < (bl l).size := by omega
      have i1 : j + 1 < (bl l).size := by omega
      have i2 : j + 2 < (bl l).size := by omega
      have b0 : (bl l)[j]'i0 = a := (List.getElem?_eq_some_iff.1 h0).2
      have b1 : (bl l)[j + 1]'i1 = b := (List.getElem?_eq_some_iff.1 h1).2
      have b2 : (bl l)[j + 2]'i2 = c := (List.getElem?_eq_some_iff.1 h2).2
      have n0 := a.toNat_lt
      have n1 := b.toNat_lt
      have n2 := c.toNat_lt
      have hI : ((j : Int) + 1 + 1) < l.length := by omega
      have t1 : ((j : Int) + 1).toNat = j + 1 := by omega
      have t2 : ((j : Int) + 1 + 1).toNat = j + 2 := by omega
      clear h0 h1 h2
      cases hA : ((a.toNat : Int) == (b.toNat : Int) - 1)
      · rw [hA, Bool.false_and] at HE
        go_enter Tryz.func98, Tryz.ntmps98
        go_wp2
        go_ret
        exact ⟨ret_bool (unhide HE).symm, rfl⟩
      · rw [hA, Bool.true_and] at HE
        go_enter Tryz.func98, Tryz.ntmps98
        go_wp2
        go_ret
        exact ⟨ret_bool (unhide HE).symm, rfl⟩
    · rw [innB_high l (j + 1) (by omega)]
      have hI : (l.length : Int) ≤ (j : Int) + 1 + 1 := by omega
      go_enter Tryz.func98, Tryz.ntmps98
      go_wp2
      go_ret
      exact ⟨rfl, rfl⟩
def befB (l : List UInt8) (k : Nat) : Bool := match k with
  | 0 => false
  | j + 1 => innB l j
theorem setT0_succ (l : List UInt8) (k : Nat) (h : k < l.length) : setT0 l (k + 1) = setT0 l k ++ (if innB l k = true then (if befB l k = true then [] else [45]) else chrC l[k] (isSM l[k].toNat)) := by
  have hb : (0 < k ∧ innB l (k - 1) = true) ↔ befB l k = true := by
    cases k with
    | zero => simp [befB]
    | succ j => simp [befB]
  conv => lhs; unfold setT0
  rw [List.getElem?_eq_getElem h]
  dsimp only
  congr 1
  by_cases hi : innB l k = true
  · rw [if_pos hi, if_pos hi]
    by_cases hj : befB l k = true
    · rw [if_pos (hb.2 hj), if_pos hj]
    · rw [if_neg (fun x => hj (hb.1 x)), if_neg hj]
  · rw [if_neg hi, if_neg hi]
theorem setT0_len (l : List UInt8) : ∀ k, (setT0 l k).length ≤ 1 + 4 * k
  | 0 => by simp [setT0]
  | k + 1 => by
    have h1 := setT0_len l k
    unfold setT0
    split
    · omega
    · rename_i c _
      have h2 := chrC_len c (isSM c.toNat)
      rw [List.length_append]
      split
      · split <;> simp <;> omega
      · omega

set_option maxRecDepth 4000 in
set_option maxHeartbeats 4000000 in
theorem writeSet_any (hh : SaidH) (l : List UInt8) (hl : l.length ≤ 400) (w : World) (ht : Tab w) :
    Calls Tryz.prog 69 #[.string (bl l)] w fun e w' => e = .returned (.string (bl (setT l))) ∧ Below w.heap.size w w' := by
  have hz := bl_size l
  have HH := hide hh
  have HT := hide ht
  clear hh ht
  unfold setT
  by_cases h0 : l.length = 0
  · rw [if_pos h0]
    go_enter Tryz.func69, Tryz.ntmps69
    go_wp2
    go_ret
    exact ⟨rfl, Below.refl _ _⟩
  · rw [if_neg h0]
    by_cases h256 : l.length = 256
    · rw [if_pos h256]
      have d1 : ((l.length : Int) == 256) = true := beq_iff_eq.2 (by omega)
      have d0 : ((l.length : Int) == 0) = false := beq_eq_false_iff_ne.2 (by omega)
      clear h256 h0
      go_enter Tryz.func69, Tryz.ntmps69
      go_wp2
      go_ret
      exact ⟨rfl, Below.refl _ _⟩
    · rw [if_neg h256]
      have d1 : ((l.length : Int) == 256) = false := beq_eq_false_iff_ne.2 (by omega)
      have d0 : ((l.length : Int) == 0) = false := beq_eq_false_iff_ne.2 (by omega)
      clear h256 h0
      go_enter Tryz.func69, Tryz.ntmps69
      go_wp2_with fail
      go_loopw [3, 4, 5] (fun v b i wr => ∃ k : Nat, k ≤ l.length ∧ v = .string (bl (setT0 l k)) ∧ b = .bool (befB l k) ∧ i = .int .i64 k ∧ Hid (Below w.heap.size w wr)) (fun _ _ i _ => l.length - (intOf i).toNat)
      case atStart => exact ⟨0, Nat.zero_le _, rfl, rfl, rfl, Below.refl _ _⟩
      case round =>
        obtain ⟨k, hk, rfl, rfl, rfl, HB⟩ := hrel
        have hwl := setT0_len l k
        have hzw := bl_size (setT0 l k)
        by_cases hlt : k < l.length
        · have hi : k < (bl l).size := by omega
          have hb : (bl l)[k]'hi = l[k] := rfl
          have Hs := hide (setT0_succ l k hlt)
          have HI := hide (isInner_any l hl k hlt wr)
          have HM := hide (isSetMark_any l[k].toNat wr)
          have HC := hide (writeChar_any (unhide HH) l[k] (isSM l[k].toNat) wr ((unhide HT).below (unhide HB)))
          have hcl := chrC_len l[k] (isSM l[k].toNat)
          have hzc := bl_size (chrC l[k] (isSM l[k].toNat))
          have HBF : Hid (befB l (k + 1) = innB l k) := rfl
          generalize hg : l[k] = c at *
          have hcn : c.toNat < 256 := c.toNat_lt
          generalize isSM c.toNat = mk at *
          generalize setT0 l k = P at *
          generalize befB l k = bf at *
          cases hin : innB l k
          · rw [hin] at HI HBF Hs
            rw [if_neg (by simp)] at Hs
            go_wp2_with fail
            go_at_call 98
            refine (unhide HI).mono ?_
            rintro e w1 ⟨rfl, hw1⟩
            replace hw1 := hw1.symm
            subst hw1
            go_wp2_with fail
            go_at_call 99
            refine (unhide HM).mono ?_
            rintro e w1 ⟨rfl, hw1⟩
            replace hw1 := hw1.symm
            subst hw1
            go_wp2_with fail
            go_at_call 97
            refine (unhide HC).mono ?_
            rintro e w2 ⟨rfl, hb2⟩
            have HB2 := hide ((unhide HB).trans (hb2.mono (unhide HB).size))
            clear hb2
            go_wp2_with fail
            go_roundw
            case rel => exact ⟨k + 1, by omega, by rw [unhide Hs, ← bl_app], by rw [unhide HBF], by go_num, HB2⟩
            case measure => simp [intOf]; omega
          · rw [hin] at HI HBF Hs
            rw [if_pos rfl] at Hs
            cases bf
            · rw [if_neg (by simp)] at Hs
              go_wp2_with fail
              go_at_call 98
              refine (unhide HI).mono ?_
              rintro e w1 ⟨rfl, hw1⟩
              replace hw1 := hw1.symm
              subst hw1
              go_wp2_with fail
              go_roundw
              case rel => exact ⟨k + 1, by omega, by rw [unhide Hs, ← bl_app]; rfl, by rw [unhide HBF], by go_num, HB⟩
              case measure => simp [intOf]; omega
            · rw [if_pos rfl, List.append_nil] at Hs
              go_wp2_with fail
              go_at_call 98
              refine (unhide HI).mono ?_
              rintro e w1 ⟨rfl, hw1⟩
              replace hw1 := hw1.symm
              subst hw1
              go_wp2_with fail
              go_roundw
              case rel => exact ⟨k + 1, by omega, by rw [unhide Hs], by rw [unhide HBF], by go_num, HB⟩
              case measure => simp [intOf]; omega
        · have hkk : k = l.length := by omega
          subst hkk
          go_wp2
          go_ret
          exact ⟨by rw [← bl_app]; rfl, unhide HB⟩
set_option maxHeartbeats 1000000 in
theorem levelOf_any (k : Int) (w : World) : Calls Tryz.prog 42 #[.int .i64 k] w fun e w' => e = .returned (.int .i64 (lvlK k)) ∧ w' = w := by
  unfold lvlK
  by_cases h : k = 5 ∨ k = 6
  · rw [if_pos h]
    rcases h with rfl | rfl
    all_goals
      go_enter Tryz.func42, Tryz.ntmps42
      go_wp2
      go_ret
      exact ⟨rfl, rfl⟩
  · rw [if_neg h]
    have b5 : (k == 5) = false := by simp; omega
    have b6 : (k == 6) = false := by simp; omega
    by_cases h2 : k = 7 ∨ k = 8
    · rw [if_pos h2]
      rcases h2 with rfl | rfl
      all_goals
        go_enter Tryz.func42, Tryz.ntmps42
        go_wp2
        go_ret
        exact ⟨rfl, rfl⟩
    · rw [if_neg h2]
      have b7 : (k == 7) = false := by simp; omega
      have b8 : (k == 8) = false := by simp; omega
      clear h h2
      go_enter Tryz.func42, Tryz.ntmps42
      go_wp2
      go_ret
      exact ⟨rfl, rfl⟩
end Go.Proofs.YtbojcemamhiodaaGreatDoor
namespace Go.Proofs.YtbojcemamhiodaaGreatDoor
open Go.RowKit

section
variable {S : Nat → Prop} {G : Nat} {nv tv : Value} {nms : List ByteArray} {T : List Tm} {w w' : World}
theorem Gm.below (h : Gm w S G nv tv nms T) (hb : Below w.heap.size w w') : Gm w' S G nv tv nms T := h.turn fun b hS hz => ⟨hS, hb.block b hz⟩
theorem Gm.cells (h : Gm w S G nv tv nms T) : w.cell? ⟨G, 0, none⟩ = some nv ∧ w.cell? ⟨G, 1, none⟩ = some tv ∧ G < w.heap.size := by
  refine ⟨?_, ?_, (Array.getElem?_eq_some_iff.1 h.cell).1⟩
  all_goals simp [World.cell?, h.cell]
theorem Gm.shape (h : Gm w S G nv tv nms T) : ∃ ao cp, tv = .slice ao T.length cp := by
  obtain ⟨xs, hx1, _⟩ := h.terms
  rcases hx1.2 with ⟨e, hz⟩ | ⟨_, _, _, e, _⟩
  · exact ⟨none, 0, by rw [e, hz]⟩
  · exact ⟨_, _, e⟩
theorem Gm.term (h : Gm w S G nv tv nms T) (k : Nat) (hk : k < T.length) : ∃ g cp ao n' cp', tv = .slice (some ⟨g, 0, none⟩) T.length cp ∧ T.length ≤ cp ∧ g < w.heap.size ∧ IntR w S (.slice ao n' cp') T[k].kids ∧
    w.cell? ⟨g, k * 3, none⟩ = some (.int .i64 T[k].kind) ∧ w.cell? ⟨g, k * 3 + 1, none⟩ = some (.string T[k].text) ∧ w.cell? ⟨g, k * 3 + 2, none⟩ = some (.slice ao n' cp') := by
  obtain ⟨xs, h1, h2⟩ := h.terms
  obtain ⟨kv, k1, k2⟩ := h2.at k T[k] (List.getElem?_eq_getElem hk)
  rcases h1.2 with ⟨_, hz⟩ | ⟨g, cap, cur, hv, hS, hh, hle, hcm, hcs, ht⟩
  · omega
  · have hsh : ∃ ao n' cp', kv = .slice ao n' cp' := by
      rcases k1.2 with ⟨e, _⟩ | ⟨_, _, _, e, _⟩
      · exact ⟨_, _, _, e⟩
      · exact ⟨_, _, _, e⟩
    obtain ⟨ao, n', cp', rfl⟩ := hsh
    have hc : ∀ j < 3, w.cell? ⟨g, k * 3 + j, none⟩ = (T[k].cs (.slice ao n' cp'))[j]? := by
      intro j hj
      rw [← k2 j hj, ← ht, List.getElem?_take, if_pos (by omega)]
      simp [World.cell?, hh]
    exact ⟨g, cap, ao, n', cp', hv, hle, (Array.getElem?_eq_some_iff.1 hh).1, k1, (hc 0 (by omega)).trans rfl, (hc 1 (by omega)).trans rfl, (hc 2 (by omega)).trans rfl⟩
end

section
variable (S : Nat → Prop) (G : Nat) (nv tv : Value) (nms : List ByteArray) (T : List Tm)
/-- the contract of writeTerm, of what f tells -/
def SaidWt (f : Int → Int → Option (List UInt8)) : Prop := ∀ (w : World) (i least : Int) (x : List UInt8), Gm w S G nv tv nms T → Tab w → 0 ≤ least → least ≤ 2 → f i least = some x → x.length ≤ 1099511627776 →
  Calls Tryz.prog 27 #[.pointer (some ⟨G, 0, none⟩), .int .i64 i, .int .i64 least] w fun e w' => e = .returned (.string (bl x)) ∧ Below w.heap.size w w'
def SaidLt (f : Int → Int → Option (List UInt8)) : Prop := ∀ (w : World) (ks : List Int) (ao : Option Addr) (n cp : Nat) (btw : List UInt8) (least : Int) (x : List UInt8), Gm w S G nv tv nms T → Tab w → IntR w S (.slice ao n cp) ks → btw.length ≤ 3 → 0 ≤ least → least ≤ 2 → listT f btw least ks = some x → x.length ≤ 1099511627776 →
  Calls Tryz.prog 71 #[.pointer (some ⟨G, 0, none⟩), .slice ao n cp, .string (bl btw), .int .i64 least] w fun e w' => e = .returned (.string (bl x)) ∧ Below w.heap.size w w'
end
section
variable {S : Nat → Prop} {G : Nat} {nv tv : Value} {nms : List ByteArray} {T : List Tm} {f : Int → Int → Option (List UInt8)}

theorem IntR.below {w w' : World} {v : Value} {l : List Int} (h : IntR w S v l) (hb : Below w.heap.size w w') : IntR w' S v l := RowIn.turn h fun b hS hz => ⟨hS, hb.block b hz⟩

set_option maxRecDepth 4000 in
set_option maxHeartbeats 4000000 in
theorem write_any (hf : SaidWt S G nv tv nms T f) : SaidLt S G nv tv nms T f := by
  intro w ks ao n cp btw least x hG hT hl hbt h0 h2 hx hxl
  obtain ⟨hn, hmx⟩ := hl.len
  subst hn
  have hzb := bl_size btw
  have Hf := hide hf
  have HG := hide hG
  have HT := hide hT
  have HL := hide hl
  have HX : Hid (listA f btw least [] true (ks.drop 0) = some x) := hx
  clear hf hG hT hl hx
  go_enter Tryz.func71, Tryz.ntmps71
  go_wp2_with fail
  go_loopw [9, 14] (fun v i wr => ∃ (k : Nat) (acc : List UInt8), k ≤ ks.length ∧ v = .string (bl acc) ∧ i = .int .i64 k ∧ acc.length ≤ x.length ∧ Hid (listA f btw least acc (decide (k = 0)) (ks.drop k) = some x) ∧ Hid (Below w.heap.size w wr)) (fun _ i _ => ks.length - (intOf i).toNat)
  case atStart => exact ⟨0, [], Nat.zero_le _, rfl, rfl, by simp, HX, Below.refl _ _⟩
  case round =>
    obtain ⟨k, acc, hk, rfl, rfl, hal, HX', HB⟩ := hrel
    have hza := bl_size acc
    by_cases hlt : k < ks.length
    · have hd : ks.drop k = ks[k] :: ks.drop (k + 1) := List.drop_eq_getElem_cons hlt
      have hr' := unhide HX'
      rw [hd] at hr'
      obtain ⟨y, hy, hrest, hlen⟩ := listA_cons hr'
      obtain ⟨g, rfl, hg, hcp, hc⟩ := ((unhide HL).below (unhide HB)).at k hlt
      have hyl : y.length ≤ x.length := by simp only [List.length_append] at hlen; omega
      have hzy := bl_size y
      have HC := hide (unhide Hf wr ks[k] least y ((unhide HG).below (unhide HB)) ((unhide HT).below (unhide HB)) h0 h2 hy (by omega))
      have HR := hide hrest
      generalize ks[k] = i at *
      clear hd hr' hy hrest
      by_cases hk0 : k = 0
      · subst hk0
        rw [decide_eq_true rfl, if_pos rfl, List.append_nil] at HR
        rw [decide_eq_true rfl, if_pos rfl, List.append_nil] at hlen
        go_wp2_with fail
        go_at_call 27
        refine (unhide HC).mono ?_
        rintro e w2 ⟨rfl, hb2⟩
        have HB2 := hide ((unhide HB).trans (hb2.mono (unhide HB).size))
        clear hb2
        go_wp2_with fail
        go_roundw
        case rel => exact ⟨0 + 1, acc ++ y, by omega, by rw [← bl_app], by go_num, hlen, HR, HB2⟩
        case measure => simp [intOf]; omega
      · have hkp : (0 : Int) < k := by omega
        rw [decide_eq_false hk0, if_neg (by simp)] at HR
        rw [decide_eq_false hk0, if_neg (by simp)] at hlen
        have hl2 : acc.length + btw.length + y.length ≤ x.length := by simp only [List.length_append] at hlen; omega
        go_wp2_with fail
        go_at_call 27
        refine (unhide HC).mono ?_
        rintro e w2 ⟨rfl, hb2⟩
        have HB2 := hide ((unhide HB).trans (hb2.mono (unhide HB).size))
        clear hb2
        go_wp2_with fail
        go_roundw
        case rel => exact ⟨k + 1, acc ++ btw ++ y, by omega, by rw [← bl_app, ← bl_app], by go_num, hlen, by have := unhide HR; rw [decide_eq_false (by omega)]; exact this, HB2⟩
        case measure => simp [intOf]; omega
    · have hr' := unhide HX'
      rw [List.drop_eq_nil_of_le (by omega)] at hr'
      have e : acc = x := by injection hr'
      clear hr'
      subst e
      go_wp2
      go_ret
      exact ⟨rfl, unhide HB⟩
end
end Go.Proofs.YtbojcemamhiodaaGreatDoor
namespace Go.Proofs.YtbojcemamhiodaaGreatDoor
open Go.RowKit

set_option maxRecDepth 4000 in
set_option maxHeartbeats 1000000 in
theorem pow2_16 (w : World) : Calls Tryz.prog 146 #[.int .i64 16] w fun e w' => e = .returned (.bool true) ∧ w' = w := by
  go_enter Tryz.func146, Tryz.ntmps146
  go_wp2
  go_ret
  exact ⟨rfl, rfl⟩
set_option maxRecDepth 4000 in
set_option maxHeartbeats 1000000 in
theorem tz64_16 (w : World) (h : w.cell? ⟨2, 15, none⟩ = some (.int .u8 4)) : Calls Tryz.prog 155 #[.int .u64 16] w fun e w' => e = .returned (.int .i64 4) ∧ w' = w := by
  have hidx : IntKind.u64.wrap (bits BinOp.and IntKind.u64 16 (IntKind.u64.wrap (-16)) * 285870213051353865) / 288230376151711744 = 15 := by decide +kernel
  go_enter Tryz.func155, Tryz.ntmps155
  go_wp2
  go_ret
  exact ⟨rfl, rfl⟩
set_option maxRecDepth 4000 in
set_option maxHeartbeats 1000000 in
theorem tz_16 (w : World) (h : w.cell? ⟨2, 15, none⟩ = some (.int .u8 4)) : Calls Tryz.prog 147 #[.int .u64 16] w fun e w' => e = .returned (.int .i64 4) ∧ w' = w := by
  have H := hide (tz64_16 w h)
  go_enter Tryz.func147, Tryz.ntmps147
  go_wp2_with fail
  go_at_call 155
  refine (unhide H).mono ?_
  rintro e w' ⟨rfl, hw⟩
  replace hw := hw.symm
  subst hw
  go_wp2
  go_ret
  exact ⟨rfl, rfl⟩
end Go.Proofs.YtbojcemamhiodaaGreatDoor
namespace Go.Proofs.YtbojcemamhiodaaGreatDoor
open Go.RowKit

theorem hex_dig : ∀ n : Nat, n < 16 → ∃ h : n < Lib.digits36.size, Lib.digits36[n]'h = hexC n := by decide +kernel
theorem z64 : Tryz.zeroCells194[64]? = some (.int .u8 0) := by kernel_rfl
theorem z63 : Tryz.zeroCells194[63]? = some (.int .u8 0) := by kernel_rfl
theorem conv_off (l : List UInt8) (W : World) (B o : Nat) (h : ∀ j (hj : j < l.length), W.cell? ⟨B, o + j, none⟩ = some (.int .u8 (l[j].toNat : Int))) : (convert 74 9 (.slice (some ⟨B, o, none⟩) l.length l.length)).run Tryz.prog W = .ok (.string (bl l)) W := by
  refine run_convert_bytes_back (P := Tryz.prog) W 74 9 5 ⟨B, o, none⟩ l.length l Tryz.underlying74 Tryz.underlying5 Tryz.underlying9 ?_
  intro j hj
  have hadd : (⟨B, o, none⟩ : Addr).add j = ⟨B, o + j, none⟩ := by unfold Addr.add; split <;> simp_all
  rw [hadd]
  exact h j hj
theorem and15 (n : Nat) (h : n < 256) : bits .and .u64 (n : Int) 15 = ((n % 16 : Nat) : Int) := by
  have key : ∀ k : Nat, k < 256 → bits .and .u64 (k : Int) 15 = ((k % 16 : Nat) : Int) := by decide +kernel
  exact key n h
theorem size65' : Tryz.zeroCells194.size = 65 := by kernel_rfl
theorem size65 : 64 < Tryz.zeroCells194.size := by rw [size65']; omega
/-- where the round stands -/
def HxR (w : World) (n : Nat) (u i : Value) (wr : World) : Prop :=
  (u = .int .u64 (n : Int) ∧ i = .int .i64 65 ∧ wr = w.alloc (.cells Tryz.zeroCells194 194)) ∨
  (16 ≤ n ∧ u = .int .u64 ((n / 16 : Nat) : Int) ∧ i = .int .i64 64 ∧ wr = w.alloc (.cells (Tryz.zeroCells194.setIfInBounds 64 (.int .u8 ((hexC (n % 16)).toNat : Int))) 194))

set_option maxRecDepth 100000 in
set_option maxHeartbeats 1000000 in
theorem bits_16 (n : Nat) (h : n < 256) (w : World) (ht : Tab w) :
    Calls Tryz.prog 136 #[.slice none 0 0, .int .u64 n, .int .i64 16, .bool false, .bool false] w fun e w' => e = .returned (.tuple #[.slice none 0 0, .string (bl (hex2 n))]) ∧ Below w.heap.size w w' := by
  have hA : Below w.heap.size w (w.alloc (.cells Tryz.zeroCells194 194)) := (Below.refl _ _).alloc (Nat.le_refl _) _
  have HT := hide (tz_16 _ (ht.below hA).1)
  have c64 : (w.alloc (.cells Tryz.zeroCells194 194)).cell? ⟨w.heap.size, 64, none⟩ = some (.int .u8 0) := by simp only [World.cell?, heap_alloc_new]; exact z64
  have c63 : (w.alloc (.cells Tryz.zeroCells194 194)).cell? ⟨w.heap.size, 63, none⟩ = some (.int .u8 0) := by simp only [World.cell?, heap_alloc_new]; exact z63
  have f64 : (w.alloc (.cells Tryz.zeroCells194 194)).frozen? ⟨w.heap.size, 64, none⟩ = false := World.frozen?_alloc_new _ _ _ _
  have f63 : (w.alloc (.cells Tryz.zeroCells194 194)).frozen? ⟨w.heap.size, 63, none⟩ = false := World.frozen?_alloc_new _ _ _ _
  have HA := hide hA
  clear ht hA
  go_enter Tryz.func136, Tryz.ntmps136
  go_name_bytes_deep 38 MSG hMSG
  clear hMSG
  go_name_bytes_deep 30 DG hDG
  have eDG : DG = Lib.digits36 := by rw [← hDG]; decide +kernel
  subst eDG
  clear hDG
  go_wp2_with fail
  go_at_call 146
  refine (pow2_16 _).mono ?_
  rintro e w1 ⟨rfl, hw⟩
  replace hw := hw.symm
  subst hw
  go_wp2_with fail
  go_at_call 147
  refine (unhide HT).mono ?_
  rintro e w1 ⟨rfl, hw⟩
  replace hw := hw.symm
  subst hw
  go_wp2_with fail
  go_loopw [1, 13] (fun u i wr => HxR w n u i wr) (fun u _ _ => (intOf u).toNat)
  case atStart => exact .inl ⟨rfl, rfl, rfl⟩
  case round =>
    rcases hrel with ⟨rfl, rfl, rfl⟩ | ⟨h16, rfl, rfl, rfl⟩
    · by_cases h16 : n < 16
      · have hI : ¬ (16 : Int) ≤ n := by omega
        obtain ⟨hd, hx⟩ := hex_dig n h16
        have hdI : (n : Int) < Lib.digits36.size := by omega
        have hx2 : hex2 n = [hexC n] := by unfold hex2; rw [if_pos h16]
        have hcv := conv_off [hexC n] (w.alloc (.cells (Tryz.zeroCells194.setIfInBounds 64 (.int .u8 ((hexC n).toNat : Int))) 194)) w.heap.size 64 (fun j hj => by
          have hj0 : j = 0 := by simp at hj; omega
          subst hj0
          rw [World.cell?_alloc_new, Array.getElem?_setIfInBounds_self_of_lt size65]
          rfl)
        simp only [List.length_cons, List.length_nil] at hcv
        go_wp2
        refine bodyPost_ret (v := .tuple #[.slice none 0 0, .string (bl [hexC n])]) (by simp [results, Tryz.results136, go_sem]) rfl ⟨by first | rfl | rw [hx2], (Below.refl _ _).alloc (Nat.le_refl _) _⟩
      · have hI : (16 : Int) ≤ n := by omega
        have ha := and15 n h
        obtain ⟨r, hr⟩ : ∃ r, r = n % 16 := ⟨_, rfl⟩
        rw [← hr] at ha
        obtain ⟨hd, hx⟩ := hex_dig r (by omega)
        have hdI : (r : Int) < Lib.digits36.size := by omega
        obtain ⟨q, hq⟩ : ∃ q, q = n / 16 := ⟨_, rfl⟩
        have hdiv : (n : Int) / 16 = (q : Int) := by omega
        have hqn : (q : Int) < n := by omega
        have Hr := hide hr
        have HE : Hid (HxR w n (.int .u64 (q : Int)) (.int .i64 64) (w.alloc (.cells (Tryz.zeroCells194.setIfInBounds 64 (.int .u8 ((hexC r).toNat : Int))) 194))) := .inr ⟨by omega, by rw [hq], rfl, by rw [hr]⟩
        clear hr hq
        go_wp2_with fail
        go_roundw
        case rel => exact unhide HE
        case measure => simp [intOf] <;> omega
    · have hq : n / 16 < 16 := by omega
      have hx2 : hex2 n = [hexC (n / 16), hexC (n % 16)] := by unfold hex2; rw [if_neg (by omega)]
      obtain ⟨q, hqq⟩ : ∃ q, q = n / 16 := ⟨_, rfl⟩
      rw [← hqq] at hq hx2 ⊢
      obtain ⟨hd, hx⟩ := hex_dig q hq
      have hI : ¬ (16 : Int) ≤ q := by omega
      have hdI : (q : Int) < Lib.digits36.size := by omega
      generalize hexC (n % 16) = y at *
      have hcv := conv_off [hexC q, y] (w.alloc (.cells ((Tryz.zeroCells194.setIfInBounds 64 (.int .u8 (y.toNat : Int))).setIfInBounds 63 (.int .u8 ((hexC q).toNat : Int))) 194)) w.heap.size 63 (fun j hj => by
        rw [World.cell?_alloc_new]
        have hs : (Tryz.zeroCells194.setIfInBounds 64 (.int .u8 (y.toNat : Int))).size = 65 := by rw [Array.size_setIfInBounds]; exact size65'
        cases j with
        | zero => rw [Array.getElem?_setIfInBounds_self_of_lt (by omega)]; rfl
        | succ j =>
          have hj0 : j = 0 := by simp at hj; omega
          subst hj0
          rw [Array.getElem?_setIfInBounds_ne (by omega), Array.getElem?_setIfInBounds_self_of_lt size65]
          rfl)
      simp only [List.length_cons, List.length_nil] at hcv
      have g63 : (w.alloc (.cells (Tryz.zeroCells194.setIfInBounds 64 (.int .u8 (y.toNat : Int))) 194)).cell? ⟨w.heap.size, 63, none⟩ = some (.int .u8 0) := by
        rw [World.cell?_alloc_new, Array.getElem?_setIfInBounds_ne (by omega)]
        exact z63
      clear hqq
      go_wp2
      refine bodyPost_ret (v := .tuple #[.slice none 0 0, .string (bl [hexC q, y])]) (by simp [results, Tryz.results136, go_sem]) rfl ⟨by first | rfl | rw [hx2], (Below.refl _ _).alloc (Nat.le_refl _) _⟩

set_option maxRecDepth 4000 in
set_option maxHeartbeats 1000000 in
theorem fmtI_16 (n : Nat) (h : n < 256) (w : World) (ht : Tab w) :
    Calls Tryz.prog 111 #[.int .i64 n, .int .i64 16] w fun e w' => e = .returned (.string (bl (hex2 n))) ∧ Below w.heap.size w w' := by
  have HS := hide (bits_16 n h w ht)
  have hI : (n : Int) < 256 := by omega
  have hw1 : IntKind.u64.wrap (n : Int) = n := by rw [IntKind.wrap_u64]; omega
  clear ht
  go_enter Tryz.func111, Tryz.ntmps111
  go_wp2_with fail
  go_at_call 136
  refine (unhide HS).mono ?_
  rintro e w' ⟨rfl, hb⟩
  have HB := hide hb
  clear hb
  go_wp2
  go_ret
  exact ⟨rfl, unhide HB⟩
set_option maxRecDepth 4000 in
set_option maxHeartbeats 1000000 in
theorem fmt_16 : SaidH := by
  intro n w h ht
  have HS := hide (fmtI_16 n h w ht)
  clear ht
  go_enter Tryz.func126, Tryz.ntmps126
  go_wp2_with fail
  go_at_call 111
  refine (unhide HS).mono ?_
  rintro e w' ⟨rfl, hb⟩
  have HB := hide hb
  clear hb
  go_wp2
  go_ret
  exact ⟨rfl, unhide HB⟩
end Go.Proofs.YtbojcemamhiodaaGreatDoor
namespace Go.Proofs.YtbojcemamhiodaaGreatDoor
open Go.RowKit

theorem obindT {α β : Type} {o : Option α} {f : α → Option β} {r : β} (h : o.bind f = some r) : ∃ x, o = some x ∧ f x = some r := by
  cases o with
  | none => cases h
  | some x => exact ⟨x, rfl, h⟩
theorem cons_bl (c : UInt8) (l : List UInt8) : bl (c :: l) = ⟨#[c]⟩ ++ bl l := by
  rw [show (⟨#[c]⟩ : ByteArray) = bl [c] from rfl, bl_app]
  rfl
section
variable {S : Nat → Prop} {G : Nat} {nv tv : Value} {nms : List ByteArray} {T : List Tm} {f : Int → Int → Option (List UInt8)}
def partT (text : List UInt8) (x : List UInt8) : List UInt8 := if text = [] then 123 :: x ++ [125] else 123 :: text ++ [58, 32] ++ x ++ [125]

set_option maxRecDepth 4000 in
set_option maxHeartbeats 1000000 in
theorem barePart_any (hL : SaidLt S G nv tv nms T f) (w : World) (kind : Int) (text : ByteArray) (ks : List Int) (ao : Option Addr) (n cp : Nat) (x : List UInt8) (hG : Gm w S G nv tv nms T) (hT : Tab w) (hk : IntR w S (.slice ao n cp) ks) (htx : text.size ≤ 400) (hx : listT f [] 0 ks = some x) (hb : x.length ≤ 1099511627776) :
    Calls Tryz.prog 70 #[.pointer (some ⟨G, 0, none⟩), .agg #[.int .i64 kind, .string text, .slice ao n cp]] w fun e w' => e = .returned (.string (bl (partT text.data.toList x))) ∧ Below w.heap.size w w' := by
  have hA : Below w.heap.size w (w.alloc (.cells #[.int .i64 kind, .string text, .slice ao n cp] 89)) := (Below.refl _ _).alloc (Nat.le_refl _) _
  have HC := hide (hL _ ks ao n cp [] 0 x (hG.below hA) (hT.below hA) (hk.below hA) (by simp) (by omega) (by omega) hx hb)
  rw [show bl [] = (⟨#[]⟩ : ByteArray) from rfl] at HC
  have hzx := bl_size x
  have HA := hide hA
  have HBX := hide (fun (w2 : World) (hb2 : Below (w.alloc (.cells #[.int .i64 kind, .string text, .slice ao n cp] 89)).heap.size (w.alloc (.cells #[.int .i64 kind, .string text, .slice ao n cp] 89)) w2) => three_t (below_keep hb2 (heap_alloc_new w _) (Nat.le_refl _)))
  clear hL hG hT hk hx hA
  by_cases he : text = ByteArray.empty
  · subst he
    have HX : Hid (bl (partT ByteArray.empty.data.toList x) = ⟨#[123]⟩ ++ bl x ++ ⟨#[125]⟩) := by
      unfold Hid partT
      rw [if_pos (show ByteArray.empty.data.toList = [] from rfl), ← bl_app, cons_bl]
      rfl
    go_enter Tryz.func70, Tryz.ntmps70
    go_wp2_with fail
    go_at_call 71
    refine (unhide HC).mono ?_
    rintro e w2 ⟨rfl, hb2⟩
    obtain ⟨y0, y1, y2, yf, hy⟩ := unhide HBX w2 hb2
    have HB := hide ((unhide HA).trans (hb2.mono (unhide HA).size))
    clear hb2
    go_wp2
    go_ret
    exact ⟨by rw [unhide HX]; rfl, unhide HB⟩
  · have hne : ¬ text.data.toList = [] := fun e => he (by apply ByteArray.ext; apply Array.ext'; simpa using e)
    have hemp : text.toList.isEmpty = false := by rw [ByteArray.toList_eq]; cases hq : text.data.toList with | nil => exact absurd hq hne | cons => rfl
    have HX : Hid (bl (partT text.data.toList x) = ⟨#[123]⟩ ++ text ++ ⟨#[58, 32]⟩ ++ bl x ++ ⟨#[125]⟩) := by
      unfold Hid partT
      rw [if_neg hne, ← bl_app, ← bl_app, ← bl_app, cons_bl]
      rfl
    clear he hne
    go_enter Tryz.func70, Tryz.ntmps70
    go_wp2_with fail
    go_at_call 71
    refine (unhide HC).mono ?_
    rintro e w2 ⟨rfl, hb2⟩
    obtain ⟨y0, y1, y2, yf, hy⟩ := unhide HBX w2 hb2
    have HB := hide ((unhide HA).trans (hb2.mono (unhide HA).size))
    clear hb2
    go_wp2
    go_ret
    exact ⟨by rw [unhide HX]; rfl, unhide HB⟩

set_option maxRecDepth 4000 in
set_option maxHeartbeats 1000000 in
theorem bare_any (hL : SaidLt S G nv tv nms T f) (w : World) (t : Tm) (ao : Option Addr) (n cp : Nat) (x : List UInt8) (hG : Gm w S G nv tv nms T) (hT : Tab w) (hk : IntR w S (.slice ao n cp) t.kids) (htx : t.text.size ≤ 400) (hw : bareT f t = some x) (hb : x.length ≤ 1099511627776) :
    Calls Tryz.prog 41 #[.pointer (some ⟨G, 0, none⟩), .agg #[.int .i64 t.kind, .string t.text, .slice ao n cp]] w fun e w' => e = .returned (.string (bl x)) ∧ Below w.heap.size w w' := by
  have hA : Below w.heap.size w (w.alloc (.cells #[.int .i64 t.kind, .string t.text, .slice ao n cp] 89)) := (Below.refl _ _).alloc (Nat.le_refl _) _
  have HA := hide hA
  have hh := fmt_16
  have hP := hL
  unfold bareT at hw
  by_cases k0 : t.kind = 0
  · rw [if_pos k0] at hw
    have hx : wordT t.text.data.toList = x := by injection hw
    subst hx
    have b0 : (t.kind == 0) = true := by simp [k0]
    have HC := hide (writeWord_any hh t.text.data.toList htx _ (hT.below hA))
    rw [bl_of] at HC
    clear hL hP hh hG hT hk hw hA k0
    go_enter Tryz.func41, Tryz.ntmps41
    go_wp2_with fail
    go_at_call 68
    refine (unhide HC).mono ?_
    rintro e w2 ⟨rfl, hb2⟩
    have HB := hide ((unhide HA).trans (hb2.mono (unhide HA).size))
    clear hb2
    go_wp2
    go_ret
    exact ⟨rfl, unhide HB⟩
  rw [if_neg k0] at hw
  have b0 : (t.kind == 0) = false := by simp [k0]
  by_cases k1 : t.kind = 1
  · rw [if_pos k1] at hw
    have hx : setT t.text.data.toList = x := by injection hw
    subst hx
    have b1 : (t.kind == 1) = true := by simp [k1]
    have HC := hide (writeSet_any hh t.text.data.toList htx _ (hT.below hA))
    rw [bl_of] at HC
    clear hL hP hh hG hT hk hw hA k0 k1
    go_enter Tryz.func41, Tryz.ntmps41
    go_wp2_with fail
    go_at_call 69
    refine (unhide HC).mono ?_
    rintro e w2 ⟨rfl, hb2⟩
    have HB := hide ((unhide HA).trans (hb2.mono (unhide HA).size))
    clear hb2
    go_wp2
    go_ret
    exact ⟨rfl, unhide HB⟩
  rw [if_neg k1] at hw
  have b1 : (t.kind == 1) = false := by simp [k1]
  by_cases k2 : t.kind = 2
  · rw [if_pos k2] at hw
    have hx : t.text.data.toList = x := by injection hw
    have HX : Hid (bl x = t.text) := by rw [← hx, bl_of]; rfl
    have b2 : (t.kind == 2) = true := by simp [k2]
    clear hL hP hh hG hT hk hw hA k0 k1 k2
    go_enter Tryz.func41, Tryz.ntmps41
    go_wp2
    go_ret
    exact ⟨by rw [unhide HX]; rfl, unhide HA⟩
  rw [if_neg k2] at hw
  have b2 : (t.kind == 2) = false := by simp [k2]
  by_cases k3 : t.kind = 3
  · rw [if_pos k3] at hw
    have hx : [123, 125] = x := by injection hw
    subst hx
    have b3 : (t.kind == 3) = true := by simp [k3]
    clear hL hP hh hG hT hk hw hA k0 k1 k2 k3
    go_enter Tryz.func41, Tryz.ntmps41
    go_wp2
    go_ret
    exact ⟨rfl, unhide HA⟩
  rw [if_neg k3] at hw
  have b3 : (t.kind == 3) = false := by simp [k3]
  by_cases k4 : t.kind = 4
  · rw [if_pos k4] at hw
    obtain ⟨y, hy, hxy⟩ := obindT hw
    have hxy' : partT t.text.data.toList y = x := by injection hxy
    have hyl : y.length ≤ x.length := by
      rw [← hxy']
      unfold partT
      split <;> simp <;> omega
    subst hxy'
    have b4 : (t.kind == 4) = true := by simp [k4]
    have HC := hide (barePart_any hL _ t.kind t.text t.kids ao n cp y (hG.below hA) (hT.below hA) (hk.below hA) htx hy (by omega))
    clear hL hP hh hG hT hk hw hA k0 k1 k2 k3 k4 hy hxy
    go_enter Tryz.func41, Tryz.ntmps41
    go_wp2_with fail
    go_at_call 70
    refine (unhide HC).mono ?_
    rintro e w2 ⟨rfl, hb2⟩
    have HB := hide ((unhide HA).trans (hb2.mono (unhide HA).size))
    clear hb2
    go_wp2
    go_ret
    exact ⟨rfl, unhide HB⟩
  rw [if_neg k4] at hw
  have b4 : (t.kind == 4) = false := by simp [k4]
  by_cases k5 : t.kind = 5
  · rw [if_pos k5] at hw
    have b5 : (t.kind == 5) = true := by simp [k5]
    have HC := hide (hL _ t.kids ao n cp [32] 1 x (hG.below hA) (hT.below hA) (hk.below hA) (by simp) (by omega) (by omega) hw hb)
    rw [show bl [32] = (⟨#[32]⟩ : ByteArray) from rfl] at HC
    clear hL hP hh hG hT hk hw hA k0 k1 k2 k3 k4 k5
    go_enter Tryz.func41, Tryz.ntmps41
    go_wp2_with fail
    go_at_call 71
    refine (unhide HC).mono ?_
    rintro e w2 ⟨rfl, hb2⟩
    have HB := hide ((unhide HA).trans (hb2.mono (unhide HA).size))
    clear hb2
    go_wp2
    go_ret
    exact ⟨rfl, unhide HB⟩
  rw [if_neg k5] at hw
  have b5 : (t.kind == 5) = false := by simp [k5]
  by_cases k6 : t.kind = 6
  · rw [if_pos k6] at hw
    have b6 : (t.kind == 6) = true := by simp [k6]
    have HC := hide (hL _ t.kids ao n cp [32, 47, 32] 0 x (hG.below hA) (hT.below hA) (hk.below hA) (by simp) (by omega) (by omega) hw hb)
    rw [show bl [32, 47, 32] = (⟨#[32, 47, 32]⟩ : ByteArray) from rfl] at HC
    clear hL hP hh hG hT hk hw hA k0 k1 k2 k3 k4 k5 k6
    go_enter Tryz.func41, Tryz.ntmps41
    go_wp2_with fail
    go_at_call 71
    refine (unhide HC).mono ?_
    rintro e w2 ⟨rfl, hb2⟩
    have HB := hide ((unhide HA).trans (hb2.mono (unhide HA).size))
    clear hb2
    go_wp2
    go_ret
    exact ⟨rfl, unhide HB⟩
  rw [if_neg k6] at hw
  have b6 : (t.kind == 6) = false := by simp [k6]
  by_cases k7 : t.kind = 7
  · rw [if_pos k7] at hw
    have b7 : (t.kind == 7) = true := by simp [k7]
    obtain ⟨y, hy, hxy⟩ := obindT hw
    injection hxy with hxy
    have hyl : y.length ≤ x.length := by rw [← hxy]; simp
    have hzy := bl_size y
    have HC := hide (hL _ t.kids ao n cp [] 1 y (hG.below hA) (hT.below hA) (hk.below hA) (by simp) (by omega) (by omega) hy (by omega))
    rw [show bl [] = (⟨#[]⟩ : ByteArray) from rfl] at HC
    have HX : Hid (bl x = ⟨#[38]⟩ ++ bl y) := by rw [← hxy]; exact cons_bl _ _
    clear hL hP hh hG hT hk hw hA k0 k1 k2 k3 k4 k5 k6 k7 hy hxy
    go_enter Tryz.func41, Tryz.ntmps41
    go_wp2_with fail
    go_at_call 71
    refine (unhide HC).mono ?_
    rintro e w2 ⟨rfl, hb2⟩
    have HB := hide ((unhide HA).trans (hb2.mono (unhide HA).size))
    clear hb2
    go_wp2
    go_ret
    exact ⟨by rw [unhide HX]; rfl, unhide HB⟩
  rw [if_neg k7] at hw
  have b7 : (t.kind == 7) = false := by simp [k7]
  by_cases k8 : t.kind = 8
  · rw [if_pos k8] at hw
    have b8 : (t.kind == 8) = true := by simp [k8]
    obtain ⟨y, hy, hxy⟩ := obindT hw
    injection hxy with hxy
    have hyl : y.length ≤ x.length := by rw [← hxy]; simp
    have hzy := bl_size y
    have HC := hide (hL _ t.kids ao n cp [] 1 y (hG.below hA) (hT.below hA) (hk.below hA) (by simp) (by omega) (by omega) hy (by omega))
    rw [show bl [] = (⟨#[]⟩ : ByteArray) from rfl] at HC
    have HX : Hid (bl x = ⟨#[33]⟩ ++ bl y) := by rw [← hxy]; exact cons_bl _ _
    clear hL hP hh hG hT hk hw hA k0 k1 k2 k3 k4 k5 k6 k7 k8 hy hxy
    go_enter Tryz.func41, Tryz.ntmps41
    go_wp2_with fail
    go_at_call 71
    refine (unhide HC).mono ?_
    rintro e w2 ⟨rfl, hb2⟩
    have HB := hide ((unhide HA).trans (hb2.mono (unhide HA).size))
    clear hb2
    go_wp2
    go_ret
    exact ⟨by rw [unhide HX]; rfl, unhide HB⟩
  rw [if_neg k8] at hw
  have b8 : (t.kind == 8) = false := by simp [k8]
  by_cases k9 : t.kind = 9
  · rw [if_pos k9] at hw
    have b9 : (t.kind == 9) = true := by simp [k9]
    obtain ⟨y, hy, hxy⟩ := obindT hw
    injection hxy with hxy
    have hyl : y.length ≤ x.length := by rw [← hxy]; simp
    have hzy := bl_size y
    have HC := hide (hL _ t.kids ao n cp [] 2 y (hG.below hA) (hT.below hA) (hk.below hA) (by simp) (by omega) (by omega) hy (by omega))
    rw [show bl [] = (⟨#[]⟩ : ByteArray) from rfl] at HC
    have HX : Hid (bl x = bl y ++ ⟨#[42]⟩) := by rw [← hxy, ← bl_app]; rfl
    clear hL hP hh hG hT hk hw hA k0 k1 k2 k3 k4 k5 k6 k7 k8 k9 hy hxy
    go_enter Tryz.func41, Tryz.ntmps41
    go_wp2_with fail
    go_at_call 71
    refine (unhide HC).mono ?_
    rintro e w2 ⟨rfl, hb2⟩
    have HB := hide ((unhide HA).trans (hb2.mono (unhide HA).size))
    clear hb2
    go_wp2
    go_ret
    exact ⟨by rw [unhide HX]; rfl, unhide HB⟩
  rw [if_neg k9] at hw
  have b9 : (t.kind == 9) = false := by simp [k9]
  by_cases k10 : t.kind = 10
  · rw [if_pos k10] at hw
    have b10 : (t.kind == 10) = true := by simp [k10]
    obtain ⟨y, hy, hxy⟩ := obindT hw
    injection hxy with hxy
    have hyl : y.length ≤ x.length := by rw [← hxy]; simp
    have hzy := bl_size y
    have HC := hide (hL _ t.kids ao n cp [] 2 y (hG.below hA) (hT.below hA) (hk.below hA) (by simp) (by omega) (by omega) hy (by omega))
    rw [show bl [] = (⟨#[]⟩ : ByteArray) from rfl] at HC
    have HX : Hid (bl x = bl y ++ ⟨#[43]⟩) := by rw [← hxy, ← bl_app]; rfl
    clear hL hP hh hG hT hk hw hA k0 k1 k2 k3 k4 k5 k6 k7 k8 k9 k10 hy hxy
    go_enter Tryz.func41, Tryz.ntmps41
    go_wp2_with fail
    go_at_call 71
    refine (unhide HC).mono ?_
    rintro e w2 ⟨rfl, hb2⟩
    have HB := hide ((unhide HA).trans (hb2.mono (unhide HA).size))
    clear hb2
    go_wp2
    go_ret
    exact ⟨by rw [unhide HX]; rfl, unhide HB⟩
  rw [if_neg k10] at hw
  have b10 : (t.kind == 10) = false := by simp [k10]
  by_cases k11 : t.kind = 11
  · rw [if_pos k11] at hw
    have b11 : (t.kind == 11) = true := by simp [k11]
    obtain ⟨y, hy, hxy⟩ := obindT hw
    injection hxy with hxy
    have hyl : y.length ≤ x.length := by rw [← hxy]; simp
    have hzy := bl_size y
    have HC := hide (hL _ t.kids ao n cp [] 2 y (hG.below hA) (hT.below hA) (hk.below hA) (by simp) (by omega) (by omega) hy (by omega))
    rw [show bl [] = (⟨#[]⟩ : ByteArray) from rfl] at HC
    have HX : Hid (bl x = bl y ++ ⟨#[63]⟩) := by rw [← hxy, ← bl_app]; rfl
    clear hL hP hh hG hT hk hw hA k0 k1 k2 k3 k4 k5 k6 k7 k8 k9 k10 k11 hy hxy
    go_enter Tryz.func41, Tryz.ntmps41
    go_wp2_with fail
    go_at_call 71
    refine (unhide HC).mono ?_
    rintro e w2 ⟨rfl, hb2⟩
    have HB := hide ((unhide HA).trans (hb2.mono (unhide HA).size))
    clear hb2
    go_wp2
    go_ret
    exact ⟨by rw [unhide HX]; rfl, unhide HB⟩
  rw [if_neg k11] at hw
  have b11 : (t.kind == 11) = false := by simp [k11]
  have hx : [] = x := by injection hw
  subst hx
  clear hL hP hh hG hT hk hw hA k0 k1 k2 k3 k4 k5 k6 k7 k8 k9 k10 k11
  go_enter Tryz.func41, Tryz.ntmps41
  go_wp2
  go_ret
  exact ⟨rfl, unhide HA⟩
end
end Go.Proofs.YtbojcemamhiodaaGreatDoor
namespace Go.Proofs.YtbojcemamhiodaaGreatDoor
open Go.RowKit

section
variable {S : Nat → Prop} {G : Nat} {nv tv : Value} {nms : List ByteArray} {T : List Tm}

set_option maxRecDepth 4000 in
set_option maxHeartbeats 1000000 in
theorem writeTerm_any (htx : ∀ t ∈ T, t.text.size ≤ 400) (F : Nat) (hf : SaidWt S G nv tv nms T (termT T F)) : SaidWt S G nv tv nms T (termT T (F + 1)) := by
  intro w i least x hG hT h0 h2 hx hxl
  obtain ⟨c0, c1, hlt⟩ := hG.cells
  rw [termT] at hx
  by_cases hi : i < 0 ∨ (T.length : Int) ≤ i
  · rw [if_pos hi] at hx
    have hx' : [] = x := by injection hx
    subst hx'
    obtain ⟨ao, cp, rfl⟩ := hG.shape
    have hd : decide (i < 0) = true ∨ (decide (i < 0) = false ∧ decide ((T.length : Int) ≤ i) = true) := by
      by_cases h : i < 0
      · exact .inl (by simpa using h)
      · exact .inr ⟨by simpa using h, by simp; omega⟩
    clear hG hT hf hi hx htx
    rcases hd with hd | ⟨hd, hd2⟩
    all_goals
      go_enter Tryz.func27, Tryz.ntmps27
      go_wp2
      go_ret
      exact ⟨rfl, Below.refl _ _⟩
  · rw [if_neg hi] at hx
    obtain ⟨k, rfl⟩ : ∃ k : Nat, i = k := ⟨i.toNat, by omega⟩
    have hk : k < T.length := by omega
    rw [Int.toNat_natCast, List.getElem?_eq_getElem hk] at hx
    dsimp only at hx
    obtain ⟨y, hy, hxy⟩ := obindT hx
    have hxy' : (if lvlK T[k].kind < least then 40 :: y ++ [41] else y) = x := by injection hxy
    have hyl : y.length ≤ x.length := by
      rw [← hxy']
      split <;> simp <;> omega
    obtain ⟨g, cp, ao, n', cp', hsh, hcp, hg, hkid, t0, t1, t2⟩ := hG.term k hk
    have ht := htx T[k] (List.getElem_mem hk)
    have hA : Below w.heap.size w (w.alloc (.cells #[.int .i64 T[k].kind, .string T[k].text, .slice ao n' cp'] 89)) := (Below.refl _ _).alloc (Nat.le_refl _) _
    have HC := hide (bare_any (write_any hf) _ T[k] ao n' cp' y (hG.below hA) (hT.below hA) (hkid.below hA) ht hy (by omega))
    have HBX := hide (fun (w2 : World) (hb2 : Below (w.alloc (.cells #[.int .i64 T[k].kind, .string T[k].text, .slice ao n' cp'] 89)).heap.size (w.alloc (.cells #[.int .i64 T[k].kind, .string T[k].text, .slice ao n' cp'] 89)) w2) => three_t (below_keep hb2 (heap_alloc_new w _) (Nat.le_refl _)))
    have HA := hide hA
    have hkI : (k : Int) < T.length := by omega
    have hzy := bl_size y
    subst hsh
    have hlv : 0 ≤ lvlK T[k].kind ∧ lvlK T[k].kind ≤ 2 := by unfold lvlK; split <;> (try split) <;> omega
    have HLV := hide (fun w : World => levelOf_any T[k].kind w)
    generalize T[k] = t at *
    clear hG hT hf hi hx hxy hy hkid ht hA htx
    by_cases hle : lvlK t.kind < least
    · rw [if_pos hle] at hxy'
      have HX : Hid (bl x = ⟨#[40]⟩ ++ bl y ++ ⟨#[41]⟩) := by
        rw [← hxy', ← bl_app, cons_bl]
        rfl
      generalize lvlK t.kind = lv at *
      clear hxy'
      go_enter Tryz.func27, Tryz.ntmps27
      go_wp2_with fail
      go_at_call 41
      refine (unhide HC).mono ?_
      rintro e w2 ⟨rfl, hb2⟩
      obtain ⟨y0, y1, y2, yf, hy⟩ := unhide HBX w2 hb2
      have HB := hide ((unhide HA).trans (hb2.mono (unhide HA).size))
      clear hb2
      go_wp2_with fail
      go_at_call 42
      refine (unhide HLV _).mono ?_
      rintro e w3 ⟨rfl, hw⟩
      replace hw := hw.symm
      subst hw
      go_wp2
      go_ret
      exact ⟨by rw [unhide HX]; rfl, unhide HB⟩
    · rw [if_neg hle] at hxy'
      subst hxy'
      generalize lvlK t.kind = lv at *
      go_enter Tryz.func27, Tryz.ntmps27
      go_wp2_with fail
      go_at_call 41
      refine (unhide HC).mono ?_
      rintro e w2 ⟨rfl, hb2⟩
      obtain ⟨y0, y1, y2, yf, hy⟩ := unhide HBX w2 hb2
      have HB := hide ((unhide HA).trans (hb2.mono (unhide HA).size))
      clear hb2
      go_wp2_with fail
      go_at_call 42
      refine (unhide HLV _).mono ?_
      rintro e w3 ⟨rfl, hw⟩
      replace hw := hw.symm
      subst hw
      go_wp2
      go_ret
      exact ⟨rfl, unhide HB⟩
theorem writeTerm_all (htx : ∀ t ∈ T, t.text.size ≤ 400) (F : Nat) : SaidWt S G nv tv nms T (termT T F) := by
  induction F with
  | zero => intro w i least x _ _ _ _ h; cases h
  | succ F ih => exact writeTerm_any htx F ih

def rulesA (T : List Tm) (F : Nat) : List UInt8 → List ByteArray → Nat → Option (List UInt8)
  | acc, [], _ => some acc
  | acc, nm :: l, k => (termT T F k 0).bind fun x => rulesA T F (acc ++ (nm.data.toList ++ [32, 60, 45, 32] ++ x ++ [10])) l (k + 1)
theorem rulesA_len (F : Nat) : ∀ (l : List ByteArray) (acc : List UInt8) (k : Nat) (r : List UInt8), rulesA T F acc l k = some r → acc.length ≤ r.length
  | [], acc, k, r, h => by injection h with h; subst h; exact Nat.le_refl _
  | nm :: l, acc, k, r, h => by
    unfold rulesA at h
    obtain ⟨x, _, h⟩ := obindT h
    have := rulesA_len F l _ _ r h
    simp only [List.length_append] at this
    omega
theorem Gm.name {w : World} (h : Gm w S G nv tv nms T) (k : Nat) (hk : k < nms.length) : ∃ g cp, nv = .slice (some ⟨g, 0, none⟩) nms.length cp ∧ nms.length ≤ cp ∧ g < w.heap.size ∧ w.cell? ⟨g, k, none⟩ = some (.string nms[k]) := by
  rcases h.names.2 with ⟨_, hz⟩ | ⟨g, cap, cur, hv, hS, hh, hle, hcm, hcs, ht⟩
  · omega
  · refine ⟨g, cap, hv, hle, (Array.getElem?_eq_some_iff.1 hh).1, ?_⟩
    have h1 : (nms.map Value.string)[k]? = some (.string nms[k]) := by simp [hk]
    rw [← ht, List.getElem?_take, if_pos (by omega)] at h1
    simpa [World.cell?, hh] using h1
theorem Gm.nshape {w : World} (h : Gm w S G nv tv nms T) : ∃ ao cp, nv = .slice ao nms.length cp := by
  rcases h.names.2 with ⟨e, hz⟩ | ⟨g, cap, cur, e, _⟩
  · exact ⟨none, 0, by rw [e, hz]⟩
  · exact ⟨_, _, e⟩

set_option maxRecDepth 4000 in
set_option maxHeartbeats 1000000 in
theorem Text_any (htx : ∀ t ∈ T, t.text.size ≤ 400) (hn2 : nms.length ≤ 100000) (F : Nat) (w : World) (x : List UInt8) (hG : Gm w S G nv tv nms T) (hT : Tab w) (hx : rulesA T F [] nms 0 = some x) (hxl : x.length ≤ 1099511627776) :
    Calls Tryz.prog 17 #[.pointer (some ⟨G, 0, none⟩)] w fun e w' => e = .returned (.string (bl x)) ∧ Below w.heap.size w w' := by
  obtain ⟨c0, c1, hlt⟩ := hG.cells
  obtain ⟨aon, cpn, rfl⟩ := hG.nshape
  have HG := hide hG
  have HT := hide hT
  have HF := hide (writeTerm_all (S := S) (G := G) (nv := .slice aon nms.length cpn) (tv := tv) (nms := nms) htx F)
  have HX : Hid (rulesA T F [] (nms.drop 0) 0 = some x) := hx
  clear hG hT hx htx
  go_enter Tryz.func17, Tryz.ntmps17
  go_wp2_with fail
  go_loopw [3, 14] (fun v i wr => ∃ (k : Nat) (acc : List UInt8), k ≤ nms.length ∧ v = .string (bl acc) ∧ i = .int .i64 k ∧ acc.length ≤ x.length ∧ Hid (rulesA T F acc (nms.drop k) k = some x) ∧ Hid (Below w.heap.size w wr)) (fun _ i _ => nms.length - (intOf i).toNat)
  case atStart => exact ⟨0, [], Nat.zero_le _, rfl, rfl, by simp, HX, Below.refl _ _⟩
  case round =>
    obtain ⟨k, acc, hk, rfl, rfl, hal, HX', HB⟩ := hrel
    have hza := bl_size acc
    by_cases hltk : k < nms.length
    · have hd : nms.drop k = nms[k] :: nms.drop (k + 1) := List.drop_eq_getElem_cons hltk
      have hr' := unhide HX'
      rw [hd] at hr'
      unfold rulesA at hr'
      obtain ⟨y, hy, hrest⟩ := obindT hr'
      have hlen := rulesA_len F _ _ _ _ hrest
      obtain ⟨g, cp, hnv, hcp, hg, hc⟩ := ((unhide HG).below (unhide HB)).name k hltk
      injection hnv with e1 e2 e3
      subst e1
      subst e3
      clear e2
      have hzy := bl_size y
      have hll : acc.length + nms[k].size + y.length + 5 ≤ x.length := by
        have hnz : nms[k].size = nms[k].data.toList.length := rfl
        simp only [List.length_append, List.length_cons, List.length_nil] at hlen
        omega
      have Hlen := hide hlen
      clear hlen
      have HC := hide (unhide HF wr k 0 y ((unhide HG).below (unhide HB)) ((unhide HT).below (unhide HB)) (by omega) (by omega) hy (by omega))
      have HE : Hid (bl (acc ++ (nms[k].data.toList ++ [32, 60, 45, 32] ++ y ++ [10])) = bl acc ++ (nms[k] ++ ⟨#[32, 60, 45, 32]⟩ ++ bl y ++ ⟨#[10]⟩)) := by
        rw [← bl_app, ← bl_app, ← bl_app, ← bl_app, bl_of]
        rfl
      have HR := hide hrest
      generalize nms[k] = nm at *
      clear hd hr' hy hrest
      go_wp2_with fail
      go_at_call 27
      refine (unhide HC).mono ?_
      rintro e w2 ⟨rfl, hb2⟩
      have HB2 := hide ((unhide HB).trans (hb2.mono (unhide HB).size))
      clear hb2
      go_wp2_with fail
      go_roundw
      case rel => exact ⟨k + 1, _, by omega, by rw [unhide HE], by go_num, unhide Hlen, HR, HB2⟩
      case measure => simp [intOf] <;> omega
    · have hr' := unhide HX'
      rw [List.drop_eq_nil_of_le (by omega)] at hr'
      have e : acc = x := by injection hr'
      clear hr'
      subst e
      go_wp2
      go_ret
      exact ⟨rfl, unhide HB⟩
end
end Go.Proofs.YtbojcemamhiodaaGreatDoor
