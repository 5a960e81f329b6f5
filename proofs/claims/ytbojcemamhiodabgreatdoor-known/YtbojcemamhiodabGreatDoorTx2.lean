import Derived.Test.YtbojcemamhiodabGreatDoorTx
import Derived.Test.YtbojcemamhiodabGreatDoorNm
import Derived.Test.YtbojcemamhiodabGreatDoorKps
namespace Go.Proofs.YtbojcemamhiodabGreatDoor
open Go.RowKit

/-- the library's table of 64 bytes: what FormatInt at base 16 reads of it -/
def Tab (w : World) : Prop := w.cell? ⟨2, 15, none⟩ = some (.int .u8 4) ∧ 2 < w.heap.size
theorem Tab.below {w w' : World} (h : Tab w) (hb : Below w.heap.size w w') : Tab w' := ⟨(World.cell?_of_block (hb.block _ h.2)).trans h.1, Nat.lt_of_lt_of_le h.2 hb.size⟩

def hex2 (n : Nat) : List UInt8 := if n < 16 then [hexC n] else [hexC (n / 16), hexC (n % 16)]
/-- the contract of strconv.FormatInt at base 16 -/
def SaidH : Prop := ∀ (n : Nat) (w : World), n < 256 → Tab w → Calls Tryz.prog 89 #[.int .i64 n, .int .i64 16] w fun e w' => e = .returned (.string (bl (hex2 n))) ∧ Below w.heap.size w w'

set_option maxRecDepth 4000 in
set_option maxHeartbeats 2000000 in
theorem writeChar_any (hh : SaidH) (c : UInt8) (mark : Bool) (w : World) (ht : Tab w) :
    Calls Tryz.prog 80 #[.int .u8 (c.toNat : Int), .bool mark] w fun e w' => e = .returned (.string (bl (chrC c mark))) ∧ Below w.heap.size w w' := by
  have hcv := conv_at1 (c.toNat : Int) c rfl
  have hlt := c.toNat_lt
  unfold chrC
  cases mark with
  | true =>
    rw [if_pos rfl]
    have e1 : (⟨#[92]⟩ ++ ⟨#[c]⟩ : ByteArray) = bl [92, c] := rfl
    have E1 := hide e1
    clear e1
    go_enter Tryz.func80, Tryz.ntmps80
    go_wp2
    go_ret
    exact ⟨rfl, (Below.refl _ _).alloc (Nat.le_refl _) _⟩
  | false =>
    rw [if_neg (by simp)]
    by_cases h : 32 ≤ c.toNat ∧ c.toNat ≤ 126
    · rw [if_pos h]
      have h1 : (32 : Int) ≤ c.toNat := by omega
      have h2 : (c.toNat : Int) ≤ 126 := by omega
      clear h
      go_enter Tryz.func80, Tryz.ntmps80
      go_wp2
      go_ret
      exact ⟨rfl, (Below.refl _ _).alloc (Nat.le_refl _) _⟩
    · rw [if_neg h]
      have hd : decide ((32 : Int) ≤ c.toNat) = false ∨ (decide ((32 : Int) ≤ c.toNat) = true ∧ decide ((c.toNat : Int) ≤ 126) = false) := by
        by_cases h1 : 32 ≤ c.toNat
        · exact .inr ⟨by simp; omega, by simp; omega⟩
        · exact .inl (by simp; omega)
      have HH := hide (hh c.toNat w hlt ht)
      clear h hcv
      by_cases h16 : c.toNat < 16
      · have h16I : (c.toNat : Int) < 16 := by omega
        have e1 : hex2 c.toNat = [hexC c.toNat] := by unfold hex2; rw [if_pos h16]
        have e2 : c.toNat / 16 = 0 := by omega
        have e3 : c.toNat % 16 = c.toNat := by omega
        rw [e1] at HH
        rw [e2, e3]
        clear e1 e2 e3
        generalize hexC c.toNat = x at *
        rcases hd with hd | ⟨hd, hd2⟩
        all_goals
          go_enter Tryz.func80, Tryz.ntmps80
          go_wp2_with fail
          go_at_call 89
          refine (unhide HH).mono ?_
          rintro e w1 ⟨rfl, hb1⟩
          have HB1 := hide hb1
          clear hb1
          go_wp2
          go_ret
          exact ⟨rfl, unhide HB1⟩
      · have h16I : ¬ (c.toNat : Int) < 16 := by omega
        have e1 : hex2 c.toNat = [hexC (c.toNat / 16), hexC (c.toNat % 16)] := by unfold hex2; rw [if_neg h16]
        rw [e1] at HH
        clear e1
        generalize hexC (c.toNat / 16) = x at *
        generalize hexC (c.toNat % 16) = y at *
        rcases hd with hd | ⟨hd, hd2⟩
        all_goals
          go_enter Tryz.func80, Tryz.ntmps80
          go_wp2_with fail
          go_at_call 89
          refine (unhide HH).mono ?_
          rintro e w1 ⟨rfl, hb1⟩
          have HB1 := hide hb1
          clear hb1
          go_wp2
          go_ret
          exact ⟨rfl, unhide HB1⟩

theorem chrC_len (c : UInt8) (m : Bool) : (chrC c m).length ≤ 4 := by
  unfold chrC
  split
  · simp
  · split <;> simp
def wordP (l : List UInt8) (k : Nat) : List UInt8 := 39 :: ((l.take k).flatMap fun c => chrC c (isWM c.toNat))
theorem wordP_succ (l : List UInt8) (k : Nat) (h : k < l.length) : wordP l (k + 1) = wordP l k ++ chrC l[k] (isWM l[k].toNat) := by
  unfold wordP
  rw [List.take_succ_eq_append_getElem h, List.flatMap_append]
  simp
theorem wordP_len (l : List UInt8) : ∀ k, (wordP l k).length ≤ 1 + 4 * k
  | 0 => by simp [wordP]
  | k + 1 => by
    by_cases h : k < l.length
    · rw [wordP_succ l k h, List.length_append]
      have h1 := wordP_len l k
      have h2 := chrC_len l[k] (isWM l[k].toNat)
      omega
    · have e : wordP l (k + 1) = wordP l k := by unfold wordP; rw [List.take_of_length_le (by omega), List.take_of_length_le (by omega)]
      have h1 := wordP_len l k
      rw [e]
      omega

set_option maxRecDepth 4000 in
set_option maxHeartbeats 2000000 in
theorem writeWord_any (hh : SaidH) (l : List UInt8) (hl : l.length ≤ 400) (w : World) (ht : Tab w) :
    Calls Tryz.prog 58 #[.string (bl l)] w fun e w' => e = .returned (.string (bl (wordT l))) ∧ Below w.heap.size w w' := by
  have hz := bl_size l
  have HH := hide hh
  have HT := hide ht
  clear hh ht
  go_enter Tryz.func58, Tryz.ntmps58
  go_wp2_with fail
  go_loopw [3, 4] (fun v i wr => ∃ k : Nat, k ≤ l.length ∧ v = .string (bl (wordP l k)) ∧ i = .int .i64 k ∧ Hid (Below w.heap.size w wr)) (fun _ i _ => l.length - (intOf i).toNat)
  case atStart => exact ⟨0, Nat.zero_le _, rfl, rfl, Below.refl _ _⟩
  case round =>
    obtain ⟨k, hk, rfl, rfl, HB⟩ := hrel
    have hwl := wordP_len l k
    have hzw := bl_size (wordP l k)
    by_cases hlt : k < l.length
    · have hi : k < (bl l).size := by omega
      have hb : (bl l)[k]'hi = l[k] := rfl
      have Hs := hide (wordP_succ l k hlt)
      have HM := hide (isWordMark_any l[k].toNat wr)
      have HC := hide (writeChar_any (unhide HH) l[k] (isWM l[k].toNat) wr ((unhide HT).below (unhide HB)))
      have hcl := chrC_len l[k] (isWM l[k].toNat)
      have hzc := bl_size (chrC l[k] (isWM l[k].toNat))
      generalize hg : l[k] = c at *
      have hcn : c.toNat < 256 := c.toNat_lt
      generalize isWM c.toNat = mk at *
      generalize wordP l k = P at *
      go_wp2_with fail
      go_at_call 79
      refine (unhide HM).mono ?_
      rintro e w1 ⟨rfl, hw1⟩
      replace hw1 := hw1.symm
      subst hw1
      go_wp2_with fail
      go_at_call 80
      refine (unhide HC).mono ?_
      rintro e w2 ⟨rfl, hb2⟩
      have HB2 := hide ((unhide HB).trans (hb2.mono (unhide HB).size))
      clear hb2
      go_wp2_with fail
      go_roundw
      case rel => exact ⟨k + 1, by omega, by rw [unhide Hs, ← bl_app], by go_num, HB2⟩
      case measure => simp [intOf]; omega
    · have e : wordP l k ++ [39] = wordT l := by unfold wordP wordT; rw [List.take_of_length_le (by omega)]
      have HE := hide e
      clear e
      generalize wordP l k = P at *
      go_wp2
      go_ret
      exact ⟨by rw [← unhide HE, ← bl_app]; rfl, unhide HB⟩
end Go.Proofs.YtbojcemamhiodabGreatDoor
