import Derived.Test.YtbojcemamhiodaaGreatDoorOw1
import Derived.Test.YtbojcemamhiodaaGreatDoorLax
import Derived.OwnWalk
namespace Go.Proofs.YtbojcemamhiodaaGreatDoor
open Go.RowKit

/-- a grammar on both sides: what may be asked of it as long as it stands -/
structure Sd (w : World) (G g : Nat) (nv : Value) (nms : List ByteArray) (x : ByteArray) : Prop where
 gl : g < w.heap.size
 c0 : w.cell? ⟨g, 0, none⟩ = some nv
 len : nms.length ≠ 0
 rules : ∀ W, Below w.heap.size w W → Calls Tryz.prog 14 #[.pointer (some ⟨G, 0, none⟩)] W fun e W' => ∃ v, e = .returned v ∧ W'.ownsRow W.heap.size 9 1 v nms.length (nms.map Value.string) ∧ Below W.heap.size W W'
 same : ∀ (W : World) (B : Nat) (v : Value), Below w.heap.size w W → W.ownsRow B 9 1 v nms.length (nms.map Value.string) → Calls Tryz.prog 15 #[v, nv] W fun e W' => e = .returned (.bool true) ∧ Below W.heap.size W W'
 text : ∀ W, Below w.heap.size w W → Calls Tryz.prog 17 #[.pointer (some ⟨G, 0, none⟩)] W fun e W' => e = .returned (.string x) ∧ Below W.heap.size W W'
 rtext : ∀ W, Below w.heap.size w W → Calls Tryz.prog 18 #[.pointer (some ⟨g, 0, none⟩)] W fun e W' => e = .returned (.string x) ∧ Below W.heap.size W W'
theorem Sd.below {w w' : World} {G g : Nat} {nv : Value} {nms : List ByteArray} {x : ByteArray} (h : Sd w G g nv nms x) (hb : Below w.heap.size w w') : Sd w' G g nv nms x :=
 ⟨Nat.lt_of_lt_of_le h.gl hb.size, (hb.cell (p := ⟨g, 0, none⟩) h.gl).trans h.c0, h.len, fun W hW => h.rules W (hb.trans (hW.mono hb.size)), fun W B v hW => h.same W B v (hb.trans (hW.mono hb.size)), fun W hW => h.text W (hb.trans (hW.mono hb.size)), fun W hW => h.rtext W (hb.trans (hW.mono hb.size))⟩
def OutSd (w : World) (e : Ending) (w' : World) : Prop :=
 Below w.heap.size w w' ∧ (e = .returned (.tuple #[.pointer none, .pointer none, .bool true]) ∨ ∃ G g nv nms x, e = .returned (.tuple #[.pointer (some ⟨G, 0, none⟩), .pointer (some ⟨g, 0, none⟩), .bool true]) ∧ Sd w' G g nv nms x)
theorem own_lo {w : World} {b b' : Nat} {e : TypeId} {size : Nat} {v : Value} {n : Nat} {xs : List Value} (h : w.ownsRow b e size v n xs) (hb : b' ≤ b) : w.ownsRow b' e size v n xs := by
 refine ⟨h.1, h.2.imp id ?_⟩
 rintro ⟨g, cap, cur, h1, h2, h3⟩
 exact ⟨g, cap, cur, h1, by omega, h3⟩
def RowOut (wr W : World) (v n : Value) : Prop := ∃ len xs, len ≠ 0 ∧ W.ownsRow wr.heap.size 9 1 v len xs ∧ Below wr.heap.size wr W ∧ Calls Tryz.prog 15 #[v, n] W fun e W' => e = .returned (.bool true) ∧ Below W.heap.size W W'
theorem row_new1 {w : World} {v : Value} : ∀ j u, [v][j]? = some u → (w.alloc (.cells #[v] 27)).cell? ((⟨w.heap.size, 0, none⟩ : Addr).add j) = some u := World.news_of_block (heap_alloc_new w (.cells #[v] 27))
theorem infoRowL : (Tryz.prog.info? 27).map (fun i => (i.zero, i.size, i.bytes)) = some (some (.slice none 0 0), 1, 24) := by kernel_rfl
set_option maxRecDepth 4000 in
set_option maxHeartbeats 4000000 in
theorem owned_walk (w : World) (s u : ByteArray) (hb1 : Calls Tryz.prog 13 #[.string s] w (OutSd w)) (hb2 : ∀ w1, Below w.heap.size w w1 → Calls Tryz.prog 13 #[.string u] w1 (OutSd w1)) :
  Calls Tryz.prog 3 #[.string s, .string u] w fun e w' => e = .returned (.bool true) ∧ Below w.heap.size w w' := by
 have H1 := hide hb1
 have H2 := hide hb2
 clear hb1 hb2
 go_enter Tryz.func3, Tryz.ntmps3
 go_wp2_with fail
 go_at_call 13
 refine (unhide H1).mono ?_
 rintro e1 w1 ⟨hB1, h⟩
 have HB1 := hide hB1
 have H3 := hide (unhide H2 w1 hB1)
 clear H1 H2 hB1
 rcases h with rfl | ⟨G, g, nv, nms, x, rfl, hS⟩
 ·go_wp2_with fail
  go_at_call 13
  refine (unhide H3).mono ?_
  rintro e2 w2 ⟨hB2, h⟩
  have HB2 := hide ((unhide HB1).trans (hB2.mono (unhide HB1).size))
  clear H3 hB2
  rcases h with rfl | ⟨G', g', nv', nms', x', rfl, hS'⟩
  ·go_wp2
   go_ret
   exact ⟨rfl, unhide HB2⟩
  ·clear hS'
   go_wp2
   go_ret
   exact ⟨rfl, unhide HB2⟩
 ·have HS := hide hS
  clear hS
  go_wp2_with fail
  go_at_call 13
  refine (unhide H3).mono ?_
  rintro e2 w2 ⟨hB2, h⟩
  have HB2 := hide ((unhide HB1).trans (hB2.mono (unhide HB1).size))
  have HS2 := hide ((unhide HS).below hB2)
  clear H3 HS hB2 HB1
  rcases h with rfl | ⟨G', g', nv', nms', x', rfl, hS'⟩
  ·clear HS2
   go_wp2
   go_ret
   exact ⟨rfl, unhide HB2⟩
  ·have HS' := hide hS'
   clear hS'
   obtain ⟨ti, hi, hzi, hs1, hby⟩ := info_parts infoRowL
   go_wp2_with fail
   go_loopw [11, 12] (fun lv kv wr => ∃ (k : Nat) (ao : Option Addr) (cp : Nat) (ls : List Value), k ≤ 4 ∧ lv = .slice ao k cp ∧ kv = .int .i64 k ∧ Hid (ls.length = k ∧ Lst w2.heap.size wr (.slice ao k cp) ls) ∧ Hid (Below w2.heap.size w2 wr)) (fun _ k _ => 4 - (intOf k).toNat)
   case atStart => exact ⟨0, none, 0, [], by omega, rfl, rfl, ⟨rfl, Lst.nil _ _⟩, Below.refl _ _⟩
   case round =>
    obtain ⟨wo, hwo⟩ : ∃ W, W = wr := ⟨_, rfl⟩
    subst hwo
    obtain ⟨k, ao, cp, ls, hk, rfl, rfl, HL, HB⟩ := hrel
    by_cases hk2 : k < 4
    ·have hki : (k : Int) < 4 := by omega
     have HR := hide ((unhide HS2).rules wo (unhide HB))
     go_wp2_with fail
     go_at_call 14
     refine (unhide HR).mono ?_
     rintro e3 w3 ⟨v3, rfl, hO3, hB3⟩
     have HB3 := hide hB3
     have HB3' := hide ((unhide HB).trans (hB3.mono (unhide HB).size))
     have hS3 := (unhide HS2).below (unhide HB3')
     have c0 := hS3.c0
     have gl := hS3.gl
     have HU3 : Hid (RowOut wo w3 v3 nv) := ⟨_, _, (unhide HS2).len, hO3, hB3, (unhide HS2).same w3 _ v3 (unhide HB3') hO3⟩
     have HR' := hide ((unhide HS').rules w3 (unhide HB3'))
     clear hO3 hB3 HR hS3
     go_wp2_with fail
     ·refine (unhide HR').mono ?_
      rintro e4 w4 ⟨v4, rfl, hO4, hB4⟩
      have HB4' := hide ((unhide HB3').trans (hB4.mono (unhide HB3').size))
      have hS4 := (unhide HS').below (unhide HB4')
      have c0' := hS4.c0
      have gl' := hS4.gl
      have HU4 : Hid (RowOut wo w4 v4 nv') := ⟨_, _, (unhide HS').len, own_lo hO4 (unhide HB3).size, (unhide HB3).trans (hB4.mono (unhide HB3).size), (unhide HS').same w4 _ v4 (unhide HB4') hO4⟩
      clear hO4 hB4 HB4' hS4 HR' HU3
      go_wp2_with fail
      obtain ⟨len, xs, hl0, hO, hBw, hC⟩ := unhide HU4
      have HC := hide hC
      rcases hO.2 with ⟨_, hz⟩ | ⟨g4, cap, cur, rfl, hlo, hh, hle, hcm, hcs, _⟩
      ·exact absurd hz hl0
      have hM : Mk w4 g4 cap 0 (.string (markB k)) := ⟨cur, hh, by omega, fun j hj => by omega⟩
      have HMr := hide hM
      have HBw := hide hBw
      have hleI : (len : Int) ≤ cap := by omega
      have hcI : cap ≤ 9223372036854775807 := by unfold maxLen at hcm; omega
      have Hlo := hide hlo
      clear hC hO hBw hh hcs hM hcm hlo
      go_at_call 15
      refine (unhide HC).mono ?_
      rintro e5 w5 ⟨rfl, hb5⟩
      have HM5 := hide ((unhide HMr).keep (hb5.block g4 (unhide HMr).lt))
      have HB5 := hide ((unhide HBw).trans (hb5.mono (unhide HBw).size))
      clear hb5 HC HMr HBw HU4
      go_wp2_with fail
      go_loopw [80] (fun i wq => ∃ j : Nat, j ≤ cap ∧ i = .int .i64 j ∧ Hid (Mk wq g4 cap j (.string (markB k))) ∧ Hid (But g4 w5 wq)) (fun i _ => cap - (intOf i).toNat)
      case atStart => exact ⟨0, Nat.zero_le _, rfl, HM5, But.refl _ _⟩
      case round =>
       obtain ⟨j, hj, rfl, HM, HBt⟩ := hrel
       by_cases hj2 : j < cap
       ·have hji : (j : Int) < cap := by omega
        obtain ⟨y0, hy⟩ := (unhide HM).has hj2
        have fz := (unhide HM).frozen (j := j)
        have hgl := (unhide HM).lt
        have HK := hide (mark_any wr k hk2)
        go_wp2_with fail
        go_at_call 16
        refine (unhide HK).mono ?_
        rintro e6 w6 ⟨rfl, hw6⟩
        replace hw6 := hw6.symm
        subst hw6
        go_wp2_with fail
        go_roundw
        case rel => exact ⟨j + 1, by omega, by go_num, (unhide HM).set hj2, (unhide HBt).setCell (.inl rfl) _⟩
        case measure => simp [intOf]; omega
       ·have hji : ¬ (j : Int) < cap := by omega
        have HM7 : Hid (Mk wr g4 cap cap (.string (markB k))) := by
         have h := unhide HM
         rw [show j = cap by omega] at h
         exact h
        have HW7 := hide ((unhide HB5).trans (but_below (unhide HBt) (Nat.le_trans (unhide HB5).size (Nat.le_refl _) |> fun _ => unhide Hlo) (unhide HB5).size))
        have HLL := (unhide HL).2
        have Hlen := hide (unhide HL).1
        have HO7 := hide (own_below (own_below HLL.own (unhide HW7)) ((Below.refl _ _).alloc (Nat.le_refl _) (.cells #[.slice (some ⟨g4, 0, none⟩) cap cap] 27)))
        clear HLL
        go_wp2_with (first | (at_builtin; refine wpList_append2 (wr.alloc (.cells #[.slice (some ⟨g4, 0, none⟩) cap cap] 27)) rfl (.tmp 89) (.tmp 91) 26 rfl w2.heap.size 27 ti _ 1 24 Tryz.underlying26 hi hzi hs1 hby rfl (by omega) (.slice ao k cp) ls.length ls rfl (unhide HO7) ⟨wr.heap.size, 0, none⟩ 1 1 (by omega) [.slice (some ⟨g4, 0, none⟩) cap cap] rfl rfl row_new1 (by simp; rfl) (by have := unhide Hlen; unfold maxLen; omega) (by have := unhide Hlen; omega) (by simp; have := (unhide HW7).size; have := (unhide HB).size; omega) ?_) | go_in)
        intro v8 w8 hown8 hgr8 hat8
        have hlen := unhide Hlen
        rw [hlen] at hown8
        obtain ⟨a8, c8, rfl⟩ := own_shape hown8
        have HN8 : Hid (Lst w2.heap.size w8 (.slice a8 (k + 1) c8) (ls ++ [.slice (some ⟨g4, 0, none⟩) cap cap])) := (unhide HL).2.next (unhide HW7) (by rw [hlen]; exact unhide HM7) (unhide Hlo) hcI ((Below.refl _ _).alloc (Nat.le_refl _) _) hgr8 (by rw [hlen]; exact hown8) (by simpa using hat8)
        have hzz : w2.heap.size ≤ wr.heap.size := Nat.le_trans (unhide HB).size (unhide HW7).size
        have HB8 : Hid (Below w2.heap.size w2 w8) := (((unhide HB).trans ((unhide HW7).mono (unhide HB).size)).alloc hzz _).grown hgr8 (by simp; omega) (fun j hj => ((unhide HL).2.own.lt j hj).1)
        clear hown8 hgr8 hat8 hlen
        go_wp2_with fail
        go_roundw
        case rel => exact ⟨k + 1, a8, c8, _, by omega, rfl, by go_num, ⟨by simp [unhide Hlen], unhide HN8⟩, HB8⟩
        case measure => simp [intOf]; omega
     ·clear HR'
      obtain ⟨len, xs, hl0, hO, hBw, hC⟩ := unhide HU3
      have HC := hide hC
      rcases hO.2 with ⟨_, hz⟩ | ⟨g4, cap, cur, rfl, hlo, hh, hle, hcm, hcs, _⟩
      ·exact absurd hz hl0
      have hM : Mk w3 g4 cap 0 (.string (markB k)) := ⟨cur, hh, by omega, fun j hj => by omega⟩
      have HMr := hide hM
      have HBw := hide hBw
      have hleI : (len : Int) ≤ cap := by omega
      have hcI : cap ≤ 9223372036854775807 := by unfold maxLen at hcm; omega
      have Hlo := hide hlo
      clear hC hO hBw hh hcs hM hcm hlo
      go_at_call 15
      refine (unhide HC).mono ?_
      rintro e5 w5 ⟨rfl, hb5⟩
      have HM5 := hide ((unhide HMr).keep (hb5.block g4 (unhide HMr).lt))
      have HB5 := hide ((unhide HBw).trans (hb5.mono (unhide HBw).size))
      clear hb5 HC HMr HBw HU3
      go_wp2_with fail
      go_loopw [80] (fun i wq => ∃ j : Nat, j ≤ cap ∧ i = .int .i64 j ∧ Hid (Mk wq g4 cap j (.string (markB k))) ∧ Hid (But g4 w5 wq)) (fun i _ => cap - (intOf i).toNat)
      case atStart => exact ⟨0, Nat.zero_le _, rfl, HM5, But.refl _ _⟩
      case round =>
       obtain ⟨j, hj, rfl, HM, HBt⟩ := hrel
       by_cases hj2 : j < cap
       ·have hji : (j : Int) < cap := by omega
        obtain ⟨y0, hy⟩ := (unhide HM).has hj2
        have fz := (unhide HM).frozen (j := j)
        have hgl := (unhide HM).lt
        have HK := hide (mark_any wr k hk2)
        go_wp2_with fail
        go_at_call 16
        refine (unhide HK).mono ?_
        rintro e6 w6 ⟨rfl, hw6⟩
        replace hw6 := hw6.symm
        subst hw6
        go_wp2_with fail
        go_roundw
        case rel => exact ⟨j + 1, by omega, by go_num, (unhide HM).set hj2, (unhide HBt).setCell (.inl rfl) _⟩
        case measure => simp [intOf]; omega
       ·have hji : ¬ (j : Int) < cap := by omega
        have HM7 : Hid (Mk wr g4 cap cap (.string (markB k))) := by
         have h := unhide HM
         rw [show j = cap by omega] at h
         exact h
        have HW7 := hide ((unhide HB5).trans (but_below (unhide HBt) (Nat.le_trans (unhide HB5).size (Nat.le_refl _) |> fun _ => unhide Hlo) (unhide HB5).size))
        have HLL := (unhide HL).2
        have Hlen := hide (unhide HL).1
        have HO7 := hide (own_below (own_below HLL.own (unhide HW7)) ((Below.refl _ _).alloc (Nat.le_refl _) (.cells #[.slice (some ⟨g4, 0, none⟩) cap cap] 27)))
        clear HLL
        go_wp2_with (first | (at_builtin; refine wpList_append2 (wr.alloc (.cells #[.slice (some ⟨g4, 0, none⟩) cap cap] 27)) rfl (.tmp 89) (.tmp 91) 26 rfl w2.heap.size 27 ti _ 1 24 Tryz.underlying26 hi hzi hs1 hby rfl (by omega) (.slice ao k cp) ls.length ls rfl (unhide HO7) ⟨wr.heap.size, 0, none⟩ 1 1 (by omega) [.slice (some ⟨g4, 0, none⟩) cap cap] rfl rfl row_new1 (by simp; rfl) (by have := unhide Hlen; unfold maxLen; omega) (by have := unhide Hlen; omega) (by simp; have := (unhide HW7).size; have := (unhide HB).size; omega) ?_) | go_in)
        intro v8 w8 hown8 hgr8 hat8
        have hlen := unhide Hlen
        rw [hlen] at hown8
        obtain ⟨a8, c8, rfl⟩ := own_shape hown8
        have HN8 : Hid (Lst w2.heap.size w8 (.slice a8 (k + 1) c8) (ls ++ [.slice (some ⟨g4, 0, none⟩) cap cap])) := (unhide HL).2.next (unhide HW7) (by rw [hlen]; exact unhide HM7) (unhide Hlo) hcI ((Below.refl _ _).alloc (Nat.le_refl _) _) hgr8 (by rw [hlen]; exact hown8) (by simpa using hat8)
        have hzz : w2.heap.size ≤ wr.heap.size := Nat.le_trans (unhide HB).size (unhide HW7).size
        have HB8 : Hid (Below w2.heap.size w2 w8) := (((unhide HB).trans ((unhide HW7).mono (unhide HB).size)).alloc hzz _).grown hgr8 (by simp; omega) (fun j hj => ((unhide HL).2.own.lt j hj).1)
        clear hown8 hgr8 hat8 hlen
        go_wp2_with fail
        go_roundw
        case rel => exact ⟨k + 1, a8, c8, _, by omega, rfl, by go_num, ⟨by simp [unhide Hlen], unhide HN8⟩, HB8⟩
        case measure => simp [intOf]; omega
    ·have hki : ¬ (k : Int) < 4 := by omega
     obtain rfl : k = 4 := by omega
     have hlen := (unhide HL).1
     have HL2 := hide (unhide HL).2
     go_wp2_with fail
     go_loopw [96] (fun i wq => ∃ j : Nat, j ≤ 4 ∧ i = .int .i64 j ∧ Hid (Below wo.heap.size wo wq)) (fun i _ => 4 - (intOf i).toNat)
     case atStart => exact ⟨0, by omega, rfl, Below.refl _ _⟩
     case round =>
      obtain ⟨wp, hwp⟩ : ∃ W, W = wr := ⟨_, rfl⟩
      subst hwp
      obtain ⟨j, hj, rfl, HBp⟩ := hrel
      by_cases hj2 : j < 4
      ·have hji : (j : Int) < 4 := by omega
       have hj0 : (0 : Int) ≤ (j : Int) := by omega
       have hat : ls[j]? = some ls[j] := List.getElem?_eq_getElem (by omega)
       obtain ⟨g7, c7, e1, hc7, _, hm7⟩ := (unhide HL2).row j _ hat
       rw [e1] at hat
       obtain ⟨X, hX, hcX, hfX, hXl⟩ := rowAt (n := 4) (RowIn.of_owns (by have h := own_below (unhide HL2).own (unhide HBp); rw [hlen] at h; exact h)) hat
       subst hX
       have HM7 := hide (hm7.keep ((unhide HBp).block g7 hm7.lt))
       have HK := hide (fun W => mark_any W j hj2)
       have hne : ((markB j).toList != (markB j).toList) = false := by simp
       clear hm7 e1 hat
       go_wp2_with fail
       go_loopw [103] (fun i wq => ∃ n : Nat, n ≤ c7 ∧ i = .int .i64 n ∧ Hid (Below wp.heap.size wp wq)) (fun i _ => c7 - (intOf i).toNat)
       case atStart => exact ⟨0, Nat.zero_le _, rfl, Below.refl _ _⟩
       case round =>
        obtain ⟨n, hn, rfl, HBq⟩ := hrel
        by_cases hn2 : n < c7
        ·have hni : (n : Int) < c7 := by omega
         have hn0 : (0 : Int) ≤ (n : Int) := by omega
         have hMq := (unhide HM7).keep ((unhide HBq).block g7 (unhide HM7).lt)
         have hc := hMq.cell hn2
         have hf := hMq.frozen (j := n)
         have hgl := hMq.lt
         clear hMq
         go_wp2_with fail
         go_at_call 16
         refine (unhide HK wr).mono ?_
         rintro e6 w6 ⟨rfl, hw6⟩
         replace hw6 := hw6.symm
         subst hw6
         go_wp2_with fail
         go_roundw
         case rel => exact ⟨n + 1, by omega, by go_num, HBq⟩
         case measure => simp [intOf]; omega
        ·have hni : ¬ (n : Int) < c7 := by omega
         go_wp2_with fail
         go_roundw
         case rel => exact ⟨j + 1, by omega, by go_num, (unhide HBp).trans ((unhide HBq).mono (unhide HBp).size)⟩
         case measure => simp [intOf]; omega
      ·have hji : ¬ (j : Int) < 4 := by omega
       have HBx := hide ((unhide HB).trans ((unhide HBp).mono (unhide HB).size))
       have HA := hide ((unhide HS2).below (unhide HBx))
       have HC := hide ((unhide HS').below (unhide HBx))
       have hx1 : (x.toList == x.toList) = true := by simp
       have hx2 : (x'.toList == x'.toList) = true := by simp
       clear HL HL2 HBp
       go_wp2_with fail
       go_at_call 17
       refine ((unhide HA).text wp (Below.refl _ _)).mono ?_
       rintro e7 w7 ⟨rfl, hb7⟩
       have HB7 := hide hb7
       clear hb7
       go_wp2_with fail
       go_at_call 18
       refine ((unhide HA).rtext w7 (unhide HB7)).mono ?_
       rintro e8 w8 ⟨rfl, hb8⟩
       have HB8 := hide ((unhide HB7).trans (hb8.mono (unhide HB7).size))
       clear hb8
       go_wp2_with fail
       go_at_call 17
       refine ((unhide HC).text w8 (unhide HB8)).mono ?_
       rintro e9 w9 ⟨rfl, hb9⟩
       have HB9 := hide ((unhide HB8).trans (hb9.mono (unhide HB8).size))
       clear hb9
       go_wp2_with fail
       go_at_call 18
       refine ((unhide HC).rtext w9 (unhide HB9)).mono ?_
       rintro e10 w10 ⟨rfl, hb10⟩
       have HB10 := hide ((unhide HB9).trans (hb10.mono (unhide HB9).size))
       clear hb10
       go_wp2
       go_ret
       exact ⟨rfl, (unhide HB2).trans (((unhide HBx).trans ((unhide HB10).mono (unhide HBx).size)).mono (unhide HB2).size)⟩
end Go.Proofs.YtbojcemamhiodaaGreatDoor
