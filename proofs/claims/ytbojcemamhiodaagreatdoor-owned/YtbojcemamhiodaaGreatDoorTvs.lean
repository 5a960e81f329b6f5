import Derived.Test.YtbojcemamhiodaaGreatDoorZa
import Derived.Test.YtbojcemamhiodaaGreatDoorTus
import Derived.Test.YtbojcemamhiodaaGreatDoorLax
import Derived.Deep.MidRow
import Derived.Deep.RegionHeld3
import Derived.Laws.Strings
import Derived.Laws.Concat
import Derived.Test.YtbojcemamhiodaaGreatDoorRyg
namespace Go.Proofs.YtbojcemamhiodaaGreatDoor
open Go.RowKit
theorem blApp (a b : List UInt8) : bl a ++ bl b = bl (a ++ b) := by
 apply ByteArray.ext
 rw [ByteArray.data_append]
 simp [bl]
theorem blCons (c : UInt8) (l : List UInt8) : bl (c :: l) = ⟨#[c]⟩ ++ bl l := by
 rw [show (⟨#[c]⟩ : ByteArray) = bl [c] from rfl, blApp]
 rfl
/-- a text is answered -/
def OutS (w : World) (x : List UInt8) (e : Ending) (w' : World) : Prop := e = .returned (.string (bl x)) ∧ Below w.heap.size w w'
theorem opL2 (k : Int) (l : List UInt8) (h : (opW k).toList = l) {a : Int} (ha : 0 ≤ a ∧ a ≤ 11) (hk : 0 ≤ k ∧ k ≤ 11) : ((opW a).toList == l) = (a == k) := by rw [← h, opW_eq ha hk]
set_option maxHeartbeats 2000000 in
theorem refRank_any (w : World) (e : Ex) (ht : Tree w AnyB e) (ho : OkX e) : Calls Tryz.prog 72 #[ptrX e] w fun x w' => x = .returned (.int .i64 (rankX e)) ∧ w' = w := by
 rw [Tree_iff] at ht
 obtain ⟨_, ⟨lv, hb, hrow⟩, _⟩ := ht
 have hop := ((OkX_iff e).1 ho).op
 have c0 := hb.c0
 have c1 := hb.c1
 have hlt := hb.lt
 obtain ⟨ao, cp, rfl⟩ := hrow.shape
 have e6 : ((opW e.op).toList == [47]) = (e.op == 6) := opL2 6 _ (by decide +kernel) hop (by omega)
 have e5 : ((opW e.op).toList == [114, 111, 119]) = (e.op == 5) := opL2 5 _ (by decide +kernel) hop (by omega)
 have e7 : ((opW e.op).toList == [38]) = (e.op == 7) := opL2 7 _ (by decide +kernel) hop (by omega)
 have e8 : ((opW e.op).toList == [33]) = (e.op == 8) := opL2 8 _ (by decide +kernel) hop (by omega)
 clear hb hrow ho
 unfold ptrX
 by_cases h6 : e.op = 6
 ·have HR : Hid (rankX e = 0) := by unfold rankX Hid; rw [if_pos h6]
  rw [show (e.op == 6) = true by simpa using h6] at e6
  clear h6 hop e5 e7 e8
  go_enter Tryz.func72, Tryz.ntmps72
  go_wp2
  go_ret
  exact ⟨ret_int (unhide HR).symm, rfl⟩
 rw [show (e.op == 6) = false by simpa using h6] at e6
 by_cases h5 : e.op = 5
 ·rw [show (e.op == 5) = true by simpa using h5] at e5
  rw [show (e.op == 7) = false by simp; omega] at e7
  rw [show (e.op == 8) = false by simp; omega] at e8
  by_cases hk : e.kids.length = 0
  ·have HR : Hid (rankX e = 3) := by unfold rankX Hid; rw [if_neg h6, if_neg (fun h => h.2 hk), if_neg (by omega)]
   have hk0 : ¬ (0 : Int) < e.kids.length := by omega
   clear h6 h5 hop hk
   go_enter Tryz.func72, Tryz.ntmps72
   go_wp2
   go_ret
   exact ⟨ret_int (unhide HR).symm, rfl⟩
  ·have HR : Hid (rankX e = 1) := by unfold rankX Hid; rw [if_neg h6, if_pos ⟨h5, hk⟩]
   have hk0 : (0 : Int) < e.kids.length := by omega
   clear h6 h5 hop hk
   go_enter Tryz.func72, Tryz.ntmps72
   go_wp2
   go_ret
   exact ⟨ret_int (unhide HR).symm, rfl⟩
 rw [show (e.op == 5) = false by simpa using h5] at e5
 by_cases h7 : e.op = 7
 ·have HR : Hid (rankX e = 2) := by unfold rankX Hid; rw [if_neg h6, if_neg (fun h => h5 h.1), if_pos (.inl h7)]
  rw [show (e.op == 7) = true by simpa using h7] at e7
  clear h6 h5 h7 hop e8
  go_enter Tryz.func72, Tryz.ntmps72
  go_wp2
  go_ret
  exact ⟨ret_int (unhide HR).symm, rfl⟩
 rw [show (e.op == 7) = false by simpa using h7] at e7
 by_cases h8 : e.op = 8
 ·have HR : Hid (rankX e = 2) := by unfold rankX Hid; rw [if_neg h6, if_neg (fun h => h5 h.1), if_pos (.inr h8)]
  rw [show (e.op == 8) = true by simpa using h8] at e8
  clear h6 h5 h7 h8 hop
  go_enter Tryz.func72, Tryz.ntmps72
  go_wp2
  go_ret
  exact ⟨ret_int (unhide HR).symm, rfl⟩
 ·have HR : Hid (rankX e = 3) := by unfold rankX Hid; rw [if_neg h6, if_neg (fun h => h5 h.1), if_neg (by omega)]
  rw [show (e.op == 8) = false by simpa using h8] at e8
  clear h6 h5 h7 h8 hop
  go_enter Tryz.func72, Tryz.ntmps72
  go_wp2
  go_ret
  exact ⟨ret_int (unhide HR).symm, rfl⟩
/-- the contract of text -/
def SaidTx (e : Ex) : Prop := ∀ w : World, Tree w AnyB e → OkX e → (exB e).length ≤ 1099511627776 → Calls Tryz.prog 28 #[ptrX e] w (OutS w (exB e))
theorem wrapX_len (r least : Int) (x : List UInt8) : x.length ≤ (wrapX r least x).length := by
 unfold wrapX
 split
 ·simp; omega
 ·exact Nat.le_refl _
set_option maxHeartbeats 2000000 in
theorem refAt_any (e : Ex) (hS : SaidTx e) (least : Int) (w : World) (ht : Tree w AnyB e) (ho : OkX e) (hl : (wrapX (rankX e) least (exB e)).length ≤ 1099511627776) : Calls Tryz.prog 44 #[ptrX e, .int .i64 least] w (OutS w (wrapX (rankX e) least (exB e))) := by
 have hle := wrapX_len (rankX e) least (exB e)
 have HR := hide (refRank_any w e ht ho)
 have HT := hide (hS w ht ho (by omega))
 have hz := bl_size (exB e)
 clear hS ht ho
 unfold ptrX at HR HT ⊢
 generalize exB e = x at *
 generalize rankX e = r at *
 by_cases hr : r < least
 ·have HW : Hid (wrapX r least x = 40 :: x ++ [41]) := by unfold wrapX Hid; rw [if_pos hr]
  have hxl : x.length ≤ 1099511627776 := by omega
  clear hle hl
  go_enter Tryz.func44, Tryz.ntmps44
  go_wp2_with fail
  go_at_call 72
  refine (unhide HR).mono ?_
  rintro e1 w1 ⟨rfl, hw1⟩
  replace hw1 := hw1.symm
  subst hw1
  go_wp2_with fail
  go_at_call 28
  refine (unhide HT).mono ?_
  rintro e1 w1 ⟨rfl, hb1⟩
  go_wp2
  go_ret
  refine ⟨?_, hb1⟩
  rw [unhide HW]
  show Ending.returned (.string _) = _
  rw [List.cons_append, blCons, ← blApp]
  rfl
 ·have HW : Hid (wrapX r least x = x) := by unfold wrapX Hid; rw [if_neg hr]
  clear hle hl
  go_enter Tryz.func44, Tryz.ntmps44
  go_wp2_with fail
  go_at_call 72
  refine (unhide HR).mono ?_
  rintro e1 w1 ⟨rfl, hw1⟩
  replace hw1 := hw1.symm
  subst hw1
  go_wp2_with fail
  go_at_call 28
  refine (unhide HT).mono ?_
  rintro e1 w1 ⟨rfl, hb1⟩
  go_wp2
  go_ret
  refine ⟨?_, hb1⟩
  rw [unhide HW]
  rfl
def tailJ (btw : List UInt8) (xs : List (List UInt8)) (k : Nat) : List UInt8 := if k = 0 then joinB btw xs else ((xs.drop k).map fun y => btw ++ y).flatten
theorem tailJ_step {btw : List UInt8} {xs : List (List UInt8)} {k : Nat} (hk : k < xs.length) : tailJ btw xs k = (if k = 0 then [] else btw) ++ xs[k] ++ tailJ btw xs (k + 1) := by
 unfold tailJ
 rw [if_neg (show ¬ k + 1 = 0 by omega)]
 by_cases h0 : k = 0
 ·subst h0
  cases xs with
  | nil => simp at hk
  | cons x l => simp [joinB]
 ·rw [if_neg h0, if_neg h0, List.drop_eq_getElem_cons hk, List.map_cons, List.flatten_cons, List.append_assoc]
theorem tailJ_end {btw : List UInt8} {xs : List (List UInt8)} {k : Nat} (hk : xs.length ≤ k) : tailJ btw xs k = [] := by
 unfold tailJ
 by_cases h0 : k = 0
 ·have : xs = [] := List.length_eq_zero_iff.1 (by omega)
  rw [if_pos h0, this]
  rfl
 ·rw [if_neg h0, List.drop_eq_nil_of_le hk]
  rfl
def atsX (ks : List Ex) (least : Int) : List (List UInt8) := ks.map fun k => wrapX (rankX k) least (exB k)
set_option maxRecDepth 4000 in
set_option maxHeartbeats 4000000 in
theorem refJoined_any (ks : List Ex) (hS : ∀ k ∈ ks, SaidTx k) (btw : List UInt8) (least : Int) (w : World) (v : Value) (hrow : RowIn w AnyB 61 1 v ks.length (ks.map ptrX)) (ht : ∀ k ∈ ks, Tree w AnyB k) (ho : ∀ k ∈ ks, OkX k) (hl : (joinB btw (atsX ks least)).length ≤ 1099511627776) :
  Calls Tryz.prog 43 #[v, .int .i64 least, .string (bl btw)] w (OutS w (joinB btw (atsX ks least))) := by
 obtain ⟨ao, cp, rfl⟩ := hrow.shape
 have hfew := hrow.few
 unfold maxLen at hfew
 have hzb := bl_size btw
 have hxn : (atsX ks least).length = ks.length := by unfold atsX; simp
 have HX : Hid (joinB btw (atsX ks least) = [] ++ tailJ btw (atsX ks least) 0) := by unfold tailJ Hid; rw [if_pos rfl, List.nil_append]
 have HR := hide hrow
 have HT := hide ht
 have HOk := hide ho
 have HS := hide hS
 generalize hxx : joinB btw (atsX ks least) = x at hl HX ⊢
 clear hrow ht ho hS hxx
 go_enter Tryz.func43, Tryz.ntmps43
 go_wp2_with fail
 go_loopw [7, 12] (fun v i wr => ∃ (k : Nat) (acc : List UInt8), k ≤ ks.length ∧ v = .string (bl acc) ∧ i = .int .i64 k ∧ acc.length ≤ x.length ∧ Hid (x = acc ++ tailJ btw (atsX ks least) k) ∧ Hid (Below w.heap.size w wr)) (fun _ i _ => ks.length - (intOf i).toNat)
 case atStart => exact ⟨0, [], Nat.zero_le _, rfl, rfl, by simp, HX, Below.refl _ _⟩
 case round =>
  obtain ⟨k, acc, hk, rfl, rfl, hal, HX', HB⟩ := hrel
  have hza := bl_size acc
  by_cases hlt : k < ks.length
  ·have hki : (k : Int) < ks.length := by omega
   have hmem : ks[k] ∈ ks := List.getElem_mem hlt
   have hst := tailJ_step (btw := btw) (xs := atsX ks least) (k := k) (by omega)
   have hyk : (atsX ks least)[k]'(by omega) = wrapX (rankX ks[k]) least (exB ks[k]) := by unfold atsX; simp
   rw [hyk] at hst
   obtain ⟨B, cap, hv, _, hc, hf, _, _, _, hBl⟩ := ((unhide HR).below (unhide HB)).at (i := k) (u := ptrX ks[k]) (by rw [List.getElem?_map, List.getElem?_eq_getElem hlt]; rfl)
   injection hv with hv1 _ hv2
   subst hv1
   subst hv2
   have hX2 := unhide HX'
   rw [hst] at hX2
   have hlen : acc.length + (if k = 0 then ([] : List UInt8) else btw).length + (wrapX (rankX ks[k]) least (exB ks[k])).length ≤ x.length := by
    rw [hX2]
    simp only [List.length_append]
    omega
   have HC := hide (refAt_any ks[k] (unhide HS _ hmem) least wr ((unhide HT _ hmem).below (unhide HB)) (unhide HOk _ hmem) (by omega))
   have HX2 := hide hX2
   unfold ptrX at hc HC
   have hzy := bl_size (wrapX (rankX ks[k]) least (exB ks[k]))
   generalize wrapX (rankX ks[k]) least (exB ks[k]) = y at *
   clear hst hyk hX2 HX'
   by_cases hk0 : k = 0
   ·subst hk0
    rw [if_pos rfl] at HX2 hlen
    have hl2 : acc.length + y.length ≤ x.length := by simpa using hlen
    have HX3 : Hid (x = (acc ++ y) ++ tailJ btw (atsX ks least) (0 + 1)) := by have h := unhide HX2; unfold Hid; rw [List.append_assoc]; simpa using h
    clear hlen
    go_wp2_with fail
    go_at_call 44
    refine (unhide HC).mono ?_
    rintro e w2 ⟨rfl, hb2⟩
    have HB2 := hide ((unhide HB).trans (hb2.mono (unhide HB).size))
    clear hb2
    go_wp2_with fail
    go_roundw
    case rel => exact ⟨0 + 1, acc ++ y, by omega, by rw [← blApp], by go_num, by simp; omega, HX3, HB2⟩
    case measure => simp [intOf]; omega
   ·have hkp : (0 : Int) < k := by omega
    rw [if_neg hk0] at HX2 hlen
    have HX3 : Hid (x = (acc ++ btw ++ y) ++ tailJ btw (atsX ks least) (k + 1)) := by have h := unhide HX2; unfold Hid; rw [h]; simp
    go_wp2_with fail
    go_at_call 44
    refine (unhide HC).mono ?_
    rintro e w2 ⟨rfl, hb2⟩
    have HB2 := hide ((unhide HB).trans (hb2.mono (unhide HB).size))
    clear hb2
    go_wp2_with fail
    go_roundw
    case rel => exact ⟨k + 1, acc ++ btw ++ y, by omega, by rw [← blApp, ← blApp], by go_num, by simp; omega, HX3, HB2⟩
    case measure => simp [intOf]; omega
  ·have hki : ¬ (k : Int) < ks.length := by omega
   have hr' := unhide HX'
   rw [tailJ_end (by omega), List.append_nil] at hr'
   clear HX' HX
   subst hr'
   go_wp2
   go_ret
   exact ⟨rfl, unhide HB⟩
end Go.Proofs.YtbojcemamhiodaaGreatDoor
namespace Go.Proofs.YtbojcemamhiodaaGreatDoor
open Go.RowKit
theorem wm_has (c : UInt8) : hasB [39, 92] c = isWM c.toNat := by
 have key : ∀ n : Nat, n < 256 → hasB [39, 92] (UInt8.ofNat n) = isWM n := by decide +kernel
 have := key c.toNat c.toNat_lt
 rwa [UInt8.ofNat_toNat] at this
theorem sm_has (c : UInt8) : hasB [93, 92, 45, 94, 91] c = isSM c.toNat := by
 have key : ∀ n : Nat, n < 256 → hasB [93, 92, 45, 94, 91] (UInt8.ofNat n) = isSM n := by decide +kernel
 have := key c.toNat c.toNat_lt
 rwa [UInt8.ofNat_toNat] at this
theorem conv_list (l : List UInt8) (W : World) (B : Nat) (h : ∀ j (hj : j < l.length), W.cell? ⟨B, j, none⟩ = some (.int .u8 (l[j].toNat : Int))) : (convert 74 9 (.slice (some ⟨B, 0, none⟩) l.length l.length)).run Tryz.prog W = .ok (.string (bl l)) W := by
 refine run_convert_bytes_back (P := Tryz.prog) W 74 9 5 ⟨B, 0, none⟩ l.length l Tryz.underlying74 Tryz.underlying5 Tryz.underlying9 ?_
 intro j hj
 have hadd : (⟨B, 0, none⟩ : Addr).add j = ⟨B, j, none⟩ := by unfold Addr.add; split <;> simp_all
 rw [hadd]
 exact h j hj
theorem hex_at (n : Nat) (h : n < 16) : ∃ hh : n < (⟨#[48, 49, 50, 51, 52, 53, 54, 55, 56, 57, 97, 98, 99, 100, 101, 102]⟩ : ByteArray).size, (⟨#[48, 49, 50, 51, 52, 53, 54, 55, 56, 57, 97, 98, 99, 100, 101, 102]⟩ : ByteArray)[n]'hh = hexC n := by
 have key : ∀ n : Nat, n < 16 → ∃ hh : n < (⟨#[48, 49, 50, 51, 52, 53, 54, 55, 56, 57, 97, 98, 99, 100, 101, 102]⟩ : ByteArray).size, (⟨#[48, 49, 50, 51, 52, 53, 54, 55, 56, 57, 97, 98, 99, 100, 101, 102]⟩ : ByteArray)[n]'hh = hexC n := by decide +kernel
 exact key n h
set_option maxRecDepth 4000 in
set_option maxHeartbeats 2000000 in
theorem written_any (w : World) (c : UInt8) (esc : List UInt8) (hl : esc.length ≤ 60) (ha : esc.all (fun b => decide (b.toNat < 128)) = true) (hp : hasB esc c = true → 32 ≤ c.toNat ∧ c.toNat ≤ 126) : Calls Tryz.prog 45 #[.int .u8 (c.toNat : Int), .string (bl esc)] w (OutS w (chrC c (hasB esc c))) := by
 have HA := hide (among_any w c esc hl ha)
 have hc := c.toNat_lt
 by_cases h1 : c.toNat < 32 ∨ 126 < c.toNat
 ·have hh : hasB esc c = false := by
   cases h : hasB esc c
   ·rfl
   ·have := hp h
    omega
  have HR : Hid (chrC c (hasB esc c) = [92, 120, hexC (c.toNat / 16), hexC (c.toNat % 16)]) := by
   unfold chrC Hid
   rw [hh, if_neg (by simp), if_neg (by omega)]
  obtain ⟨q, hq⟩ : ∃ q, c.toNat / 16 = q := ⟨_, rfl⟩
  obtain ⟨r, hr⟩ : ∃ r, c.toNat % 16 = r := ⟨_, rfl⟩
  rw [hq, hr] at HR
  have hq16 : q < 16 := by omega
  have hr16 : r < 16 := by omega
  obtain ⟨hqs, hqv⟩ := hex_at q hq16
  obtain ⟨hrs, hrv⟩ := hex_at r hr16
  have hqI : (c.toNat : Int) / 16 = (q : Int) := by omega
  have hrI : (c.toNat : Int) % 16 = (r : Int) := by omega
  clear hh hp
  have hcv : (convert 74 9 (.slice (some ⟨w.heap.size, 0, none⟩) 4 4)).run Tryz.prog ((w.alloc (.cells #[.int .u8 92, .int .u8 120, .int .u8 ((hexC q).toNat : Int), .int .u8 ((hexC r).toNat : Int)] 5)).drew) = .ok (.string (bl [92, 120, hexC q, hexC r])) ((w.alloc (.cells #[.int .u8 92, .int .u8 120, .int .u8 ((hexC q).toNat : Int), .int .u8 ((hexC r).toNat : Int)] 5)).drew) := conv_list [92, 120, hexC q, hexC r] ((w.alloc (.cells #[.int .u8 92, .int .u8 120, .int .u8 ((hexC q).toNat : Int), .int .u8 ((hexC r).toNat : Int)] 5)).drew) w.heap.size (fun j hj => by
   show (w.alloc _).cell? _ = _
   have hj2 : j < 4 := hj
   match j, hj2 with
   | 0, _ => simp only [World.cell?, heap_alloc_last]; rfl
   | 1, _ => simp only [World.cell?, heap_alloc_last]; rfl
   | 2, _ => simp only [World.cell?, heap_alloc_last]; rfl
   | 3, _ => simp only [World.cell?, heap_alloc_last]; rfl)
  clear hq hr
  by_cases h32 : c.toNat < 32
  ·have h32I : (c.toNat : Int) < 32 := by omega
   go_enter Tryz.func45, Tryz.ntmps45
   go_wp2_with fail
   go_region
   go_wp2
   go_ret
   exact ⟨by rw [unhide HR]; rfl, ((Below.refl _ _).alloc (Nat.le_refl _) _).drew⟩
  ·have h32I : ¬ (c.toNat : Int) < 32 := by omega
   have h126I : (126 : Int) < c.toNat := by omega
   go_enter Tryz.func45, Tryz.ntmps45
   go_wp2_with fail
   go_region
   go_wp2
   go_ret
   exact ⟨by rw [unhide HR]; rfl, ((Below.refl _ _).alloc (Nat.le_refl _) _).drew⟩
 ·have h32I : ¬ (c.toNat : Int) < 32 := by omega
  have h126I : ¬ (126 : Int) < c.toNat := by omega
  cases hh : hasB esc c
  ·have HR : Hid (chrC c false = [c]) := by unfold chrC Hid; rw [if_neg (by simp), if_pos (by omega)]
   rw [hh] at HA
   have hcv := fun W : World => conv_one (c.toNat : Int) c rfl (W.alloc (.cells #[.int .u8 (c.toNat : Int)] 5)) W.heap.size (by simp only [World.cell?, heap_alloc_last]; rfl)
   clear hh hp h1
   go_enter Tryz.func45, Tryz.ntmps45
   go_wp2_with fail
   go_at_call 73
   refine (unhide HA).mono ?_
   rintro e w1 ⟨rfl, hb1⟩
   go_wp2
   go_ret
   exact ⟨by rw [unhide HR]; rfl, hb1.alloc hb1.size _⟩
  ·have HR : Hid (chrC c true = [92, c]) := by unfold chrC Hid; rw [if_pos rfl]
   rw [hh] at HA
   have hcv : ∀ W : World, (convert 74 9 (.slice (some ⟨W.heap.size, 0, none⟩) 2 2)).run Tryz.prog (W.alloc (.cells #[.int .u8 92, .int .u8 (c.toNat : Int)] 5)) = .ok (.string (bl [92, c])) (W.alloc (.cells #[.int .u8 92, .int .u8 (c.toNat : Int)] 5)) := fun W => conv_list [92, c] (W.alloc (.cells #[.int .u8 92, .int .u8 (c.toNat : Int)] 5)) W.heap.size (fun j hj => by
    have hj2 : j < 2 := hj
    match j, hj2 with
    | 0, _ => simp only [World.cell?, heap_alloc_last]; rfl
    | 1, _ => simp only [World.cell?, heap_alloc_last]; rfl)
   clear hh hp h1
   go_enter Tryz.func45, Tryz.ntmps45
   go_wp2_with fail
   go_at_call 73
   refine (unhide HA).mono ?_
   rintro e w1 ⟨rfl, hb1⟩
   go_wp2
   go_ret
   exact ⟨by rw [unhide HR]; rfl, hb1.alloc hb1.size _⟩
end Go.Proofs.YtbojcemamhiodaaGreatDoor
namespace Go.Proofs.YtbojcemamhiodaaGreatDoor
open Go.RowKit
theorem ExB.loadSet {w : World} {b : Nat} {op str : ByteArray} {lv : Value} {f : Nat → Bool} {a : Int} (h : ExB w b op lv str f a) : (Instr.loadAt 81 (.pointer (some ⟨b, 3, none⟩))).run Tryz.prog w = .ok (.agg (setCells f)) w := by
 have h1 : w.rangeAt b 3 ((List.range 256).map fun c => Value.bool (f c)) := fun j v hv => by
  have hj : j < 256 := by have := (List.getElem?_eq_some_iff.1 hv).1; simpa using this
  have e : v = .bool (f j) := by simpa [hj] using hv.symm
  rw [h.cbit j hj, e]
 exact run_loadAt_mid w b 3 81 _ _ h1 Tryz.underlying81 (by simp [TypeDesc.isRow]) (by rw [size256]; simp)
/-- the bits of a set in a block of their own -/
def BitB (w : World) (B : Nat) (f : Nat → Bool) : Prop := w.heap[B]? = some (.cells (setCells f) 81)
theorem BitB.cell {w : World} {B : Nat} {f : Nat → Bool} (h : BitB w B f) {c : Nat} (hc : c < 256) : w.cell? ⟨B, c, none⟩ = some (.bool (f c)) := by
 simp only [World.cell?, BitB] at *
 rw [h]
 simp [setCells, hc]
theorem BitB.lt {w : World} {B : Nat} {f : Nat → Bool} (h : BitB w B f) : B < w.heap.size := (Array.getElem?_eq_some_iff.1 h).1
theorem chr4 (c : UInt8) (m : Bool) : (chrC c m).length ≤ 4 := by
 unfold chrC
 split
 ·simp
 ·split <;> simp
theorem sm_range (c : UInt8) : isSM c.toNat = true → 32 ≤ c.toNat ∧ c.toNat ≤ 126 := by
 have key : ∀ n : Nat, n < 256 → isSM n = true → 32 ≤ n ∧ n ≤ 126 := by decide +kernel
 exact key c.toNat c.toNat_lt
theorem wm_range (c : UInt8) : isWM c.toNat = true → 32 ≤ c.toNat ∧ c.toNat ≤ 126 := by
 have key : ∀ n : Nat, n < 256 → isWM n = true → 32 ≤ n ∧ n ≤ 126 := by decide +kernel
 exact key c.toNat c.toNat_lt
theorem setXt_len (f : Nat → Bool) : ∀ c, (setXt f c).length ≤ 5 * c
 | 0 => Nat.le_refl _
 | c + 1 => by
  have ih := setXt_len f c
  have h4 : (chrC (UInt8.ofNat c) (isSM c)).length ≤ 4 := by
   unfold chrC
   split
   ·simp
   ·split <;> simp
  rw [setXt, List.length_append]
  split
  ·split
   ·simp; omega
   ·rw [List.length_append]
    split
    ·simp; omega
    ·simp; omega
  ·simp; omega
theorem cntF_le (f : Nat → Bool) : ∀ c, cntF f c ≤ c
 | 0 => Nat.le_refl _
 | c + 1 => by
  have ih := cntF_le f c
  rw [cntF]
  split <;> omega
set_option maxRecDepth 4000 in
set_option maxHeartbeats 8000000 in
theorem refBytes_any (w : World) (f : Nat → Bool) : Calls Tryz.prog 46 #[.agg (setCells f)] w (OutS w (setX f)) := by
 have hs256 := setCells_size f
 have HWr := hide (fun (W : World) (c : Nat) => written_any W (UInt8.ofNat c) [93, 92, 45, 94, 91] (by decide) (by decide) (by rw [sm_has]; exact sm_range _))
 go_enter Tryz.func46, Tryz.ntmps46
 go_wp2_with fail
 go_loopw [3, 4, 5] (fun t n i wr => ∃ c : Nat, c ≤ 256 ∧ t = .string (bl (setXt f c)) ∧ n = .int .i64 (cntF f c) ∧ i = .int .i64 c ∧ Hid (BitB wr w.heap.size f) ∧ Hid (Below w.heap.size w wr)) (fun _ _ i _ => 256 - (intOf i).toNat)
 case atStart => exact ⟨0, by omega, rfl, rfl, rfl, heap_alloc_new w _, (Below.refl _ _).alloc (Nat.le_refl _) _⟩
 case round =>
  obtain ⟨c, hc, rfl, rfl, rfl, HBt, HB⟩ := hrel
  have hzt := bl_size (setXt f c)
  have htl := setXt_len f c
  have hcl := cntF_le f c
  by_cases hc2 : c < 256
  ·have hcI : (c : Int) < 256 := by omega
   have hcI0 : (0 : Int) ≤ (c : Int) := by omega
   have b0 := (unhide HBt).cell hc2
   have bl0 := (unhide HBt).lt
   have HW := hide (unhide HWr wr c)
   rw [sm_has, toNat_of hc2] at HW
   have hwr : IntKind.u8.wrap (c : Int) = c := by rw [IntKind.wrap_u8]; omega
   cases hfc : f c
   ·rw [hfc] at b0
    have HT2 : Hid (setXt f (c + 1) = setXt f c) := by unfold Hid; rw [setXt, if_neg (by simp [hfc]), List.append_nil]
    have HN2 : Hid (cntF f (c + 1) = cntF f c) := by unfold Hid; rw [cntF, if_neg (by simp [hfc])]; rfl
    clear hfc
    go_wp2_with fail
    go_roundw
    case rel => exact ⟨c + 1, by omega, by rw [unhide HT2], by rw [unhide HN2], by go_num, HBt, HB⟩
    case measure => simp [intOf]; omega
   ·rw [hfc] at b0
    have HN2 : Hid (cntF f (c + 1) = cntF f c + 1) := by unfold Hid; rw [cntF, if_pos hfc]
    by_cases hc0 : 0 < c
    ·have hcI1 : (0 : Int) < (c : Int) := by omega
     obtain ⟨p, hpe⟩ : ∃ p, c - 1 = p := ⟨_, rfl⟩
     have bp := (unhide HBt).cell (c := p) (by omega)
     have hs1 : ((c : Int) - 1) = (p : Int) := by omega
     have hpI : (p : Int) < 256 := by omega
     have hpI0 : (0 : Int) ≤ (p : Int) := by omega
     cases hpp : f p
     ·have hp1 : f (c - 1) = false := by rw [hpe]; exact hpp
      rw [hpp] at bp
      by_cases h255 : c < 255
      ·have h255I : (c : Int) < 255 := by omega
       have bn := (unhide HBt).cell (c := c + 1) (by omega)
       generalize f (c + 1) = fn at bn
       have HNI : ¬ ((decide (0 < c) && f (c - 1)) = true ∧ (decide (c < 255) && f (c + 1)) = true) := by
        simp [hp1]
       have HT2 : Hid (setXt f (c + 1) = (setXt f c) ++ chrC (UInt8.ofNat c) (isSM c)) := by
        unfold Hid
        rw [setXt, if_pos hfc, if_neg HNI]
        rw [if_neg (show ¬ ((decide (0 < c) && f (c - 1)) = true ∧ (decide (1 < c) && f (c - 2)) = true) by simp [hp1]), List.nil_append]
       have hzy := bl_size (chrC (UInt8.ofNat c) (isSM c))
       have hyl := chr4 (UInt8.ofNat c) (isSM c)
       generalize chrC (UInt8.ofNat c) (isSM c) = y at HW HT2 hzy hyl
       clear hfc HNI
       try clear hp1 hpe
       try clear hp2 hqe
       try clear hout
       go_wp2_with fail
       go_at_call 45
       refine (unhide HW).mono ?_
       rintro e1 w2 ⟨rfl, hb2⟩
       have HB2 := hide ((unhide HB).trans (hb2.mono (unhide HB).size))
       have HBt2 : Hid (BitB w2 w.heap.size f) := (hb2.block _ (unhide HBt).lt).trans (unhide HBt)
       clear hb2
       go_wp2_with fail
       go_roundw
       case rel => exact ⟨c + 1, by omega, by rw [unhide HT2, ← blApp], by rw [unhide HN2]; go_num, by go_num, HBt2, HB2⟩
       case measure => simp [intOf]; omega
      ·have h255I : ¬ (c : Int) < 255 := by omega
       have HNI : ¬ ((decide (0 < c) && f (c - 1)) = true ∧ (decide (c < 255) && f (c + 1)) = true) := by
        simp [hp1]
       have HT2 : Hid (setXt f (c + 1) = (setXt f c) ++ chrC (UInt8.ofNat c) (isSM c)) := by
        unfold Hid
        rw [setXt, if_pos hfc, if_neg HNI]
        rw [if_neg (show ¬ ((decide (0 < c) && f (c - 1)) = true ∧ (decide (1 < c) && f (c - 2)) = true) by simp [hp1]), List.nil_append]
       have hzy := bl_size (chrC (UInt8.ofNat c) (isSM c))
       have hyl := chr4 (UInt8.ofNat c) (isSM c)
       generalize chrC (UInt8.ofNat c) (isSM c) = y at HW HT2 hzy hyl
       clear hfc HNI
       try clear hp1 hpe
       try clear hp2 hqe
       try clear hout
       go_wp2_with fail
       go_at_call 45
       refine (unhide HW).mono ?_
       rintro e1 w2 ⟨rfl, hb2⟩
       have HB2 := hide ((unhide HB).trans (hb2.mono (unhide HB).size))
       have HBt2 : Hid (BitB w2 w.heap.size f) := (hb2.block _ (unhide HBt).lt).trans (unhide HBt)
       clear hb2
       go_wp2_with fail
       go_roundw
       case rel => exact ⟨c + 1, by omega, by rw [unhide HT2, ← blApp], by rw [unhide HN2]; go_num, by go_num, HBt2, HB2⟩
       case measure => simp [intOf]; omega
     ·have hp1 : f (c - 1) = true := by rw [hpe]; exact hpp
      rw [hpp] at bp
      have key : (decide (c < 255) && f (c + 1)) = true ∨ (decide (c < 255) && f (c + 1)) = false := by cases (decide (c < 255) && f (c + 1)) <;> simp
      rcases key with hin | hout
      ·have h255 : c < 255 := by simp at hin; exact hin.1
       have hn1 : f (c + 1) = true := by simp at hin; exact hin.2
       have h255I : (c : Int) < 255 := by omega
       have bn := (unhide HBt).cell (c := c + 1) (by omega)
       rw [hn1] at bn
       have HT2 : Hid (setXt f (c + 1) = setXt f c) := by unfold Hid; rw [setXt, if_pos hfc, if_pos ⟨by simp [hp1, hc0], hin⟩, List.append_nil]
       clear hfc hin hn1 hp1
       go_wp2_with fail
       go_roundw
       case rel => exact ⟨c + 1, by omega, by rw [unhide HT2], by rw [unhide HN2]; go_num, by go_num, HBt, HB⟩
       case measure => simp [intOf]; omega
      ·have hbh : (¬ (c : Int) < 255) ∨ ((c : Int) < 255 ∧ f (c + 1) = false) := by
        by_cases h255 : c < 255
        ·right
         refine ⟨by omega, ?_⟩
         simpa [h255] using hout
        ·left; omega
       rcases hbh with h255I | ⟨h255I, hn1⟩
       ·by_cases hc1 : 1 < c
        ·have hc1I : (1 : Int) < (c : Int) := by omega
         obtain ⟨q2, hqe⟩ : ∃ q, c - 2 = q := ⟨_, rfl⟩
         have bq := (unhide HBt).cell (c := q2) (by omega)
         have hs2 : ((c : Int) - 2) = (q2 : Int) := by omega
         have hqI : (q2 : Int) < 256 := by omega
         have hqI0 : (0 : Int) ≤ (q2 : Int) := by omega
         cases hqq : f q2
         ·have hp2 : f (c - 2) = false := by rw [hqe]; exact hqq
          rw [hqq] at bq
          have HNI : ¬ ((decide (0 < c) && f (c - 1)) = true ∧ (decide (c < 255) && f (c + 1)) = true) := by
           rintro ⟨_, h⟩; rw [hout] at h; cases h
          have HT2 : Hid (setXt f (c + 1) = (setXt f c) ++ chrC (UInt8.ofNat c) (isSM c)) := by
           unfold Hid
           rw [setXt, if_pos hfc, if_neg HNI]
           rw [if_neg (show ¬ ((decide (0 < c) && f (c - 1)) = true ∧ (decide (1 < c) && f (c - 2)) = true) by simp [hp2]), List.nil_append]
          have hzy := bl_size (chrC (UInt8.ofNat c) (isSM c))
          have hyl := chr4 (UInt8.ofNat c) (isSM c)
          generalize chrC (UInt8.ofNat c) (isSM c) = y at HW HT2 hzy hyl
          clear hfc HNI
          try clear hp1 hpe
          try clear hp2 hqe
          try clear hout
          go_wp2_with fail
          go_at_call 45
          refine (unhide HW).mono ?_
          rintro e1 w2 ⟨rfl, hb2⟩
          have HB2 := hide ((unhide HB).trans (hb2.mono (unhide HB).size))
          have HBt2 : Hid (BitB w2 w.heap.size f) := (hb2.block _ (unhide HBt).lt).trans (unhide HBt)
          clear hb2
          go_wp2_with fail
          go_roundw
          case rel => exact ⟨c + 1, by omega, by rw [unhide HT2, ← blApp], by rw [unhide HN2]; go_num, by go_num, HBt2, HB2⟩
          case measure => simp [intOf]; omega
         ·have hp2 : f (c - 2) = true := by rw [hqe]; exact hqq
          rw [hqq] at bq
          have HNI : ¬ ((decide (0 < c) && f (c - 1)) = true ∧ (decide (c < 255) && f (c + 1)) = true) := by
           rintro ⟨_, h⟩; rw [hout] at h; cases h
          have HT2 : Hid (setXt f (c + 1) = (setXt f c ++ [45]) ++ chrC (UInt8.ofNat c) (isSM c)) := by
           unfold Hid
           rw [setXt, if_pos hfc, if_neg HNI]
           rw [if_pos (show (decide (0 < c) && f (c - 1)) = true ∧ (decide (1 < c) && f (c - 2)) = true by simp [hp1, hp2, hc0, hc1]), List.append_assoc]
          have hzy := bl_size (chrC (UInt8.ofNat c) (isSM c))
          have hyl := chr4 (UInt8.ofNat c) (isSM c)
          generalize chrC (UInt8.ofNat c) (isSM c) = y at HW HT2 hzy hyl
          clear hfc HNI
          try clear hp1 hpe
          try clear hp2 hqe
          try clear hout
          go_wp2_with fail
          go_at_call 45
          refine (unhide HW).mono ?_
          rintro e1 w2 ⟨rfl, hb2⟩
          have HB2 := hide ((unhide HB).trans (hb2.mono (unhide HB).size))
          have HBt2 : Hid (BitB w2 w.heap.size f) := (hb2.block _ (unhide HBt).lt).trans (unhide HBt)
          clear hb2
          go_wp2_with fail
          go_roundw
          case rel => exact ⟨c + 1, by omega, by rw [unhide HT2, ← blApp, ← blApp]; rfl, by rw [unhide HN2]; go_num, by go_num, HBt2, HB2⟩
          case measure => simp [intOf]; omega
        ·omega
       ·have bn := (unhide HBt).cell (c := c + 1) (by omega)
        rw [hn1] at bn
        by_cases hc1 : 1 < c
        ·have hc1I : (1 : Int) < (c : Int) := by omega
         obtain ⟨q2, hqe⟩ : ∃ q, c - 2 = q := ⟨_, rfl⟩
         have bq := (unhide HBt).cell (c := q2) (by omega)
         have hs2 : ((c : Int) - 2) = (q2 : Int) := by omega
         have hqI : (q2 : Int) < 256 := by omega
         have hqI0 : (0 : Int) ≤ (q2 : Int) := by omega
         cases hqq : f q2
         ·have hp2 : f (c - 2) = false := by rw [hqe]; exact hqq
          rw [hqq] at bq
          have HNI : ¬ ((decide (0 < c) && f (c - 1)) = true ∧ (decide (c < 255) && f (c + 1)) = true) := by
           rintro ⟨_, h⟩; rw [hout] at h; cases h
          have HT2 : Hid (setXt f (c + 1) = (setXt f c) ++ chrC (UInt8.ofNat c) (isSM c)) := by
           unfold Hid
           rw [setXt, if_pos hfc, if_neg HNI]
           rw [if_neg (show ¬ ((decide (0 < c) && f (c - 1)) = true ∧ (decide (1 < c) && f (c - 2)) = true) by simp [hp2]), List.nil_append]
          have hzy := bl_size (chrC (UInt8.ofNat c) (isSM c))
          have hyl := chr4 (UInt8.ofNat c) (isSM c)
          generalize chrC (UInt8.ofNat c) (isSM c) = y at HW HT2 hzy hyl
          clear hfc HNI
          try clear hp1 hpe
          try clear hp2 hqe
          try clear hout
          go_wp2_with fail
          go_at_call 45
          refine (unhide HW).mono ?_
          rintro e1 w2 ⟨rfl, hb2⟩
          have HB2 := hide ((unhide HB).trans (hb2.mono (unhide HB).size))
          have HBt2 : Hid (BitB w2 w.heap.size f) := (hb2.block _ (unhide HBt).lt).trans (unhide HBt)
          clear hb2
          go_wp2_with fail
          go_roundw
          case rel => exact ⟨c + 1, by omega, by rw [unhide HT2, ← blApp], by rw [unhide HN2]; go_num, by go_num, HBt2, HB2⟩
          case measure => simp [intOf]; omega
         ·have hp2 : f (c - 2) = true := by rw [hqe]; exact hqq
          rw [hqq] at bq
          have HNI : ¬ ((decide (0 < c) && f (c - 1)) = true ∧ (decide (c < 255) && f (c + 1)) = true) := by
           rintro ⟨_, h⟩; rw [hout] at h; cases h
          have HT2 : Hid (setXt f (c + 1) = (setXt f c ++ [45]) ++ chrC (UInt8.ofNat c) (isSM c)) := by
           unfold Hid
           rw [setXt, if_pos hfc, if_neg HNI]
           rw [if_pos (show (decide (0 < c) && f (c - 1)) = true ∧ (decide (1 < c) && f (c - 2)) = true by simp [hp1, hp2, hc0, hc1]), List.append_assoc]
          have hzy := bl_size (chrC (UInt8.ofNat c) (isSM c))
          have hyl := chr4 (UInt8.ofNat c) (isSM c)
          generalize chrC (UInt8.ofNat c) (isSM c) = y at HW HT2 hzy hyl
          clear hfc HNI
          try clear hp1 hpe
          try clear hp2 hqe
          try clear hout
          go_wp2_with fail
          go_at_call 45
          refine (unhide HW).mono ?_
          rintro e1 w2 ⟨rfl, hb2⟩
          have HB2 := hide ((unhide HB).trans (hb2.mono (unhide HB).size))
          have HBt2 : Hid (BitB w2 w.heap.size f) := (hb2.block _ (unhide HBt).lt).trans (unhide HBt)
          clear hb2
          go_wp2_with fail
          go_roundw
          case rel => exact ⟨c + 1, by omega, by rw [unhide HT2, ← blApp, ← blApp]; rfl, by rw [unhide HN2]; go_num, by go_num, HBt2, HB2⟩
          case measure => simp [intOf]; omega
        ·have hc1I : ¬ (1 : Int) < (c : Int) := by omega
         have HNI : ¬ ((decide (0 < c) && f (c - 1)) = true ∧ (decide (c < 255) && f (c + 1)) = true) := by
          rintro ⟨_, h⟩; rw [hout] at h; cases h
         have HT2 : Hid (setXt f (c + 1) = (setXt f c) ++ chrC (UInt8.ofNat c) (isSM c)) := by
          unfold Hid
          rw [setXt, if_pos hfc, if_neg HNI]
          rw [if_neg (show ¬ ((decide (0 < c) && f (c - 1)) = true ∧ (decide (1 < c) && f (c - 2)) = true) by simp [hc1]), List.nil_append]
         have hzy := bl_size (chrC (UInt8.ofNat c) (isSM c))
         have hyl := chr4 (UInt8.ofNat c) (isSM c)
         generalize chrC (UInt8.ofNat c) (isSM c) = y at HW HT2 hzy hyl
         clear hfc HNI
         try clear hp1 hpe
         try clear hp2 hqe
         try clear hout
         go_wp2_with fail
         go_at_call 45
         refine (unhide HW).mono ?_
         rintro e1 w2 ⟨rfl, hb2⟩
         have HB2 := hide ((unhide HB).trans (hb2.mono (unhide HB).size))
         have HBt2 : Hid (BitB w2 w.heap.size f) := (hb2.block _ (unhide HBt).lt).trans (unhide HBt)
         clear hb2
         go_wp2_with fail
         go_roundw
         case rel => exact ⟨c + 1, by omega, by rw [unhide HT2, ← blApp], by rw [unhide HN2]; go_num, by go_num, HBt2, HB2⟩
         case measure => simp [intOf]; omega
    ·have hce : c = 0 := by omega
     subst hce
     have bn := (unhide HBt).cell (c := 1) (by omega)
     have HT2 : Hid (setXt f (0 + 1) = setXt f 0 ++ chrC (UInt8.ofNat 0) (isSM (0 : Nat))) := by
      unfold Hid
      rw [show setXt f (0 + 1) = setXt f 0 ++ (if f 0 = true then (if (decide (0 < 0) && f (0 - 1)) = true ∧ (decide (0 < 255) && f (0 + 1)) = true then [] else (if (decide (0 < 0) && f (0 - 1)) = true ∧ (decide (1 < 0) && f (0 - 2)) = true then [45] else []) ++ chrC (UInt8.ofNat 0) (isSM (0 : Nat))) else []) from rfl, if_pos hfc]
      simp
     generalize f 1 = fn at bn
     have hzy := bl_size (chrC (UInt8.ofNat 0) (isSM (0 : Nat)))
     have hyl := chr4 (UInt8.ofNat 0) (isSM (0 : Nat))
     generalize chrC (UInt8.ofNat 0) (isSM (0 : Nat)) = y at HW HT2 hzy hyl
     clear hfc hc0 hcI hcI0 hwr
     go_wp2_with fail
     go_at_call 45
     refine (unhide HW).mono ?_
     rintro e1 w2 ⟨rfl, hb2⟩
     have HB2 := hide ((unhide HB).trans (hb2.mono (unhide HB).size))
     have HBt2 : Hid (BitB w2 w.heap.size f) := (hb2.block _ (unhide HBt).lt).trans (unhide HBt)
     clear hb2
     go_wp2_with fail
     go_roundw
     case rel => exact ⟨0 + 1, by omega, by rw [unhide HT2, ← blApp], by rw [unhide HN2]; go_num, by go_num, HBt2, HB2⟩
     case measure => simp [intOf]
  ·have hcI : ¬ (c : Int) < 256 := by omega
   have hce : c = 256 := by omega
   obtain ⟨X, hX⟩ : ∃ X, setXt f c = X := ⟨_, rfl⟩
   obtain ⟨N, hN⟩ : ∃ N, cntF f c = N := ⟨_, rfl⟩
   have HR : Hid (setX f = if N = 0 then [91, 94, 92, 120, 48, 48, 45, 92, 120, 102, 102, 93] else if N = 256 then [46] else 91 :: X ++ [93]) := by
    unfold setX Hid
    rw [← hX, ← hN, hce]
   rw [hX] at hzt htl ⊢
   rw [hN] at hcl ⊢
   clear hce hX hN HWr hs256
   by_cases h0 : N = 0
   ·rw [if_pos h0] at HR
    have h0b : ((N : Int) == 0) = true := by simp; omega
    clear h0
    go_wp2
    go_ret
    exact ⟨by rw [unhide HR]; rfl, unhide HB⟩
   ·rw [if_neg h0] at HR
    have h0b : ((N : Int) == 0) = false := by simp; omega
    by_cases h1 : N = 256
    ·rw [if_pos h1] at HR
     have h1b : ((N : Int) == 256) = true := by simp; omega
     clear h0 h1
     go_wp2
     go_ret
     exact ⟨by rw [unhide HR]; rfl, unhide HB⟩
    ·rw [if_neg h1] at HR
     have h1b : ((N : Int) == 256) = false := by simp; omega
     clear h0 h1
     go_wp2
     go_ret
     refine ⟨?_, unhide HB⟩
     rw [unhide HR, List.cons_append, blCons, ← blApp]
     rfl
end Go.Proofs.YtbojcemamhiodaaGreatDoor
namespace Go.Proofs.YtbojcemamhiodaaGreatDoor
open Go.RowKit
theorem blSelf (s : ByteArray) : bl s.data.toList = s := by
 unfold bl
 apply ByteArray.ext
 simp
def accW (l : List UInt8) (k : Nat) : List UInt8 := (l.take k).flatMap fun c => chrC c (isWM c.toNat)
theorem accW_succ (l : List UInt8) (k : Nat) (h : k < l.length) : accW l (k + 1) = accW l k ++ chrC l[k] (isWM l[k].toNat) := by
 unfold accW
 rw [show l.take (k + 1) = l.take k ++ [l[k]] by rw [List.take_add_one, List.getElem?_eq_getElem h]; rfl, List.flatMap_append]
 simp
theorem accW_mono (l : List UInt8) (k : Nat) : (accW l k).length ≤ (accW l l.length).length := by
 unfold accW
 rw [List.take_length]
 conv => rhs; rw [← List.take_append_drop k l]
 rw [List.flatMap_append, List.length_append]
 omega
theorem accW_ge (l : List UInt8) (k : Nat) : (l.take k).length ≤ (accW l k).length := by
 unfold accW
 generalize l.take k = m
 induction m with
 | nil => simp
 | cons c m ih =>
  rw [List.flatMap_cons, List.length_append, List.length_cons]
  have : 1 ≤ (chrC c (isWM c.toNat)).length := by
   unfold chrC
   split
   ·simp
   ·split <;> simp
  omega
theorem wrap0 (k : Ex) (x : List UInt8) : wrapX (rankX k) 0 x = x := by
 unfold wrapX rankX
 rw [if_neg]
 repeat' split <;> omega
set_option maxRecDepth 4000 in
set_option maxHeartbeats 4000000 in
theorem text_choice (e : Ex) (hS : ∀ k ∈ e.kids, SaidTx k) (w : World) (ht : Tree w AnyB e) (ho : OkX e) (hl : (exB e).length ≤ 1099511627776) (hop : e.op = 6)  : Calls Tryz.prog 28 #[ptrX e] w (OutS w (exB e)) := by
 rw [Tree_iff] at ht
 obtain ⟨_, ⟨lv, hb, hrow⟩, hk⟩ := ht
 have ho' := (OkX_iff e).1 ho
 have hlt := hb.lt
 have HX := hide hb
 have HTr := hide hk
 have HOk := hide ho'.kids
 have HRw := hide hrow
 have HSd := hide hS
 have hEx := exB_def e
 have c0 : w.cell? ⟨e.b, 0, none⟩ = some (.string ⟨#[47]⟩) := by
  have h0 := hb.c0
  rw [hop] at h0
  exact h0
 have c1 := hb.c1
 have hE : exB e = joinB [32, 47, 32] (atsX e.kids 0) := by
  rw [hEx]
  unfold kindX
  rw [if_pos hop]
  rfl
 rw [hE] at hl ⊢
 have HJ := hide (refJoined_any e.kids hS [32, 47, 32] 0 w lv hrow hk ho'.kids hl)
 generalize joinB [32, 47, 32] (atsX e.kids 0) = x at HJ hl ⊢
 clear hb hrow hk hEx hE hop hS ho ho'
 unfold ptrX
 go_enter Tryz.func28, Tryz.ntmps28
 go_wp2_with fail
 go_at_call 43
 refine (unhide HJ).mono ?_
 rintro e1 w1 ⟨rfl, hb1⟩
 go_wp2
 go_ret
 exact ⟨rfl, hb1⟩
set_option maxRecDepth 4000 in
set_option maxHeartbeats 4000000 in
theorem text_row (e : Ex) (hS : ∀ k ∈ e.kids, SaidTx k) (w : World) (ht : Tree w AnyB e) (ho : OkX e) (hl : (exB e).length ≤ 1099511627776) (hop : e.op = 5) (hk0 : e.kids.length ≠ 0) : Calls Tryz.prog 28 #[ptrX e] w (OutS w (exB e)) := by
 rw [Tree_iff] at ht
 obtain ⟨_, ⟨lv, hb, hrow⟩, hk⟩ := ht
 have ho' := (OkX_iff e).1 ho
 have hlt := hb.lt
 have HX := hide hb
 have HTr := hide hk
 have HOk := hide ho'.kids
 have HRw := hide hrow
 have HSd := hide hS
 have hEx := exB_def e
 have c0 : w.cell? ⟨e.b, 0, none⟩ = some (.string ⟨#[114, 111, 119]⟩) := by
  have h0 := hb.c0
  rw [hop] at h0
  exact h0
 have c1 := hb.c1
 have hE : exB e = joinB [32] (atsX e.kids 1) := by
  rw [hEx]
  unfold kindX
  rw [if_neg (by omega), if_pos hop, if_neg hk0]
  rfl
 rw [hE] at hl ⊢
 have HJ := hide (refJoined_any e.kids hS [32] 1 w lv hrow hk ho'.kids hl)
 obtain ⟨ao, cp, rfl⟩ := hrow.shape
 have hkb : ((e.kids.length : Int) == 0) = false := by rw [beq_eq_false_iff_ne]; omega
 generalize joinB [32] (atsX e.kids 1) = x at HJ hl ⊢
 clear hb hrow hk hEx hE hop hS ho ho'
 unfold ptrX
 go_enter Tryz.func28, Tryz.ntmps28
 go_wp2_with fail
 go_at_call 43
 refine (unhide HJ).mono ?_
 rintro e1 w1 ⟨rfl, hb1⟩
 go_wp2
 go_ret
 exact ⟨rfl, hb1⟩
set_option maxRecDepth 4000 in
set_option maxHeartbeats 4000000 in
theorem text_empty (e : Ex) (hS : ∀ k ∈ e.kids, SaidTx k) (w : World) (ht : Tree w AnyB e) (ho : OkX e) (_hl : (exB e).length ≤ 1099511627776) (hop : e.op = 5) (hk0 : e.kids.length = 0) : Calls Tryz.prog 28 #[ptrX e] w (OutS w (exB e)) := by
 rw [Tree_iff] at ht
 obtain ⟨_, ⟨lv, hb, hrow⟩, hk⟩ := ht
 have ho' := (OkX_iff e).1 ho
 have hlt := hb.lt
 have HX := hide hb
 have HTr := hide hk
 have HOk := hide ho'.kids
 have HRw := hide hrow
 have HSd := hide hS
 have hEx := exB_def e
 have c0 : w.cell? ⟨e.b, 0, none⟩ = some (.string ⟨#[114, 111, 119]⟩) := by
  have h0 := hb.c0
  rw [hop] at h0
  exact h0
 have c1 := hb.c1
 obtain ⟨ao, cp, rfl⟩ := hrow.shape
 have hkb : ((e.kids.length : Int) == 0) = true := by rw [beq_iff_eq]; omega
 have HE : Hid (exB e = [39, 39]) := by
  unfold Hid
  rw [hEx]
  unfold kindX
  rw [if_neg (by omega), if_pos hop, if_pos hk0]
 clear hb hrow hk hEx hop hS ho ho' hk0
 unfold ptrX
 go_enter Tryz.func28, Tryz.ntmps28
 go_wp2
 go_ret
 exact ⟨by rw [unhide HE]; rfl, Below.refl _ _⟩
set_option maxRecDepth 4000 in
set_option maxHeartbeats 4000000 in
theorem text_sg7 (e : Ex) (hS : ∀ k ∈ e.kids, SaidTx k) (w : World) (ht : Tree w AnyB e) (ho : OkX e) (hl : (exB e).length ≤ 1099511627776) (hop : e.op = 7) : Calls Tryz.prog 28 #[ptrX e] w (OutS w (exB e)) := by
 rw [Tree_iff] at ht
 obtain ⟨_, ⟨lv, hb, hrow⟩, hk⟩ := ht
 have ho' := (OkX_iff e).1 ho
 have hlt := hb.lt
 have HX := hide hb
 have HTr := hide hk
 have HOk := hide ho'.kids
 have HRw := hide hrow
 have HSd := hide hS
 have hEx := exB_def e
 have c0 : w.cell? ⟨e.b, 0, none⟩ = some (.string ⟨#[38]⟩) := by
  have h0 := hb.c0
  rw [hop] at h0
  exact h0
 obtain ⟨z, hz⟩ : ∃ z, e.kids = [z] := List.length_eq_one_iff.1 (ho'.one (by omega))
 have hzm : z ∈ e.kids := by rw [hz]; simp
 rw [hz] at hrow
 obtain ⟨ao, cp, rfl⟩ := hrow.shape
 obtain ⟨ZB, cap, hv, _, zc, zf, _, _, _, zl⟩ := hrow.at (i := 0) (u := ptrX z) rfl
 injection hv with hv1 _ hv2
 subst hv1
 subst hv2
 have c1 := hb.c1
 have hE : exB e = 38 :: wrapX (rankX z) 2 (exB z) := by
  rw [hEx]
  unfold kindX
  rw [if_neg (by omega)]
  rw [if_neg (by omega)]
  rw [if_pos hop, hz]
  simp [joinB]
 rw [hE] at hl ⊢
 have hll : (wrapX (rankX z) 2 (exB z)).length + 1 ≤ 1099511627776 := by simpa using hl
 have HAt := hide (fun W (hW : Below w.heap.size w W) => refAt_any z (hS z hzm) 2 W ((hk z hzm).below hW) (ho'.kids z hzm) (by omega))
 have hbz := bl_size (wrapX (rankX z) 2 (exB z))
 generalize wrapX (rankX z) 2 (exB z) = x at HAt hl hll hbz ⊢
 have ad1 : ∀ W : World, (Op.stringOp .add ⟨#[38]⟩ (bl x)).run Tryz.prog W = .ok (.string (⟨#[38]⟩ ++ bl x)) W := fun W => run_string_add_sum W _ _ (by rw [show (⟨#[38]⟩ : ByteArray).size = 1 from rfl, hbz]; omega)
 obtain ⟨X, hX⟩ : ∃ X, 38 :: x = X := ⟨_, rfl⟩
 have HV : Hid (bl X = ⟨#[38]⟩ ++ bl x) := by
  unfold Hid
  rw [← hX, blCons]
  skip
 rw [hX]
 unfold ptrX at zc HAt ⊢
 clear hb hrow hk hEx hE hop hS ho ho' hz hzm hX hl
 go_enter Tryz.func28, Tryz.ntmps28
 go_wp2_with fail
 refine wp_region_held_drew (S := fun w' => w'.cell? ⟨e.b, 0, none⟩ = some (.string ⟨#[38]⟩) ∧ w'.cell? ⟨e.b, 1, none⟩ = some (.slice (some ⟨ZB, 0, none⟩) 1 cp) ∧ w'.cell? ⟨ZB, 0, none⟩ = some (.pointer (some ⟨z.b, 0, none⟩))) (by kernel_rfl) ⟨c0, c1, zc⟩ (fun hHeld => ?_)
 refine take_dst (i := 0) 32 (v := ?_) rfl rfl (by kernel_rfl) (by kernel_rfl) (by kernel_rfl) (fun _ _ _ h => h) (Or.inl ⟨by kernel_rfl, ?_⟩) (by assumption) ?_
 rotate_left
 ·intro w hSw
  obtain ⟨s0, s1, s2⟩ := hSw
  go_simp
  try with_reducible rfl
 try simp only [Act.put, zA, zB, zC]
 refine take_dst (i := 1) 33 (v := ?_) rfl rfl (by kernel_rfl) (by kernel_rfl) (by kernel_rfl) (fun _ _ _ h => h) (Or.inl ⟨by kernel_rfl, ?_⟩) (by assumption) ?_
 rotate_left
 ·intro w hSw
  obtain ⟨s0, s1, s2⟩ := hSw
  go_simp
  try with_reducible rfl
 try simp only [Act.put, zA, zB, zC]
 refine take_dst (i := 2) 34 (v := ?_) rfl rfl (by kernel_rfl) (by kernel_rfl) (by kernel_rfl) (fun _ _ _ h => h) (Or.inl ⟨by kernel_rfl, ?_⟩) (by assumption) ?_
 rotate_left
 ·intro w hSw
  obtain ⟨s0, s1, s2⟩ := hSw
  go_simp
  try with_reducible rfl
 try simp only [Act.put, zA, zB, zC]
 refine take_dst (i := 3) 35 (v := ?_) rfl rfl (by kernel_rfl) (by kernel_rfl) (by kernel_rfl) (fun _ _ _ h => h) (Or.inl ⟨by kernel_rfl, ?_⟩) (by assumption) ?_
 rotate_left
 ·intro w hSw
  obtain ⟨s0, s1, s2⟩ := hSw
  go_simp
  try with_reducible rfl
 try simp only [Act.put, zA, zB, zC]
 refine take_dst (i := 4) 36 (v := ?_) rfl rfl (by kernel_rfl) (by kernel_rfl) (by kernel_rfl) (fun _ _ _ h => h) (Or.inl ⟨by kernel_rfl, ?_⟩) (by assumption) ?_
 rotate_left
 ·intro w hSw
  obtain ⟨s0, s1, s2⟩ := hSw
  go_simp
  try with_reducible rfl
 try simp only [Act.put, zA, zB, zC]
 refine take_dst (i := 5) 37 (v := ?_) rfl rfl (by kernel_rfl) (by kernel_rfl) (by kernel_rfl) (fun _ _ _ h => h) (Or.inl ⟨by kernel_rfl, ?_⟩) (by assumption) ?_
 rotate_left
 ·intro w hSw
  obtain ⟨s0, s1, s2⟩ := hSw
  go_simp
  try with_reducible rfl
 try simp only [Act.put, zA, zB, zC]
 refine take_dst (i := 6) 38 (v := ?_) rfl rfl (by kernel_rfl) (by kernel_rfl) (by kernel_rfl) (fun _ _ _ h => h) (Or.inl ⟨by kernel_rfl, ?_⟩) (by assumption) ?_
 rotate_left
 ·intro w hSw
  obtain ⟨s0, s1, s2⟩ := hSw
  go_simp
  try with_reducible rfl
 try simp only [Act.put, zA, zB, zC]
 refine take_dst (i := 7) 39 (v := ?_) rfl rfl (by kernel_rfl) (by kernel_rfl) (by kernel_rfl) (fun _ _ _ h => h) (Or.inl ⟨by kernel_rfl, ?_⟩) (by assumption) ?_
 rotate_left
 ·intro w hSw
  obtain ⟨s0, s1, s2⟩ := hSw
  go_simp
  try with_reducible rfl
 try simp only [Act.put, zA, zB, zC]
 refine take_dst (i := 8) 40 (v := ?_) rfl rfl (by kernel_rfl) (by kernel_rfl) (by kernel_rfl) (fun _ _ _ h => h) (Or.inl ⟨by kernel_rfl, ?_⟩) (by assumption) ?_
 rotate_left
 ·intro w hSw
  obtain ⟨s0, s1, s2⟩ := hSw
  go_simp
  try with_reducible rfl
 try simp only [Act.put, zA, zB, zC]
 refine take_dst (i := 9) 41 (v := ?_) rfl rfl (by kernel_rfl) (by kernel_rfl) (by kernel_rfl) (fun _ _ _ h => h) (Or.inl ⟨by kernel_rfl, ?_⟩) (by assumption) ?_
 rotate_left
 ·intro w hSw
  obtain ⟨s0, s1, s2⟩ := hSw
  go_simp
  try with_reducible rfl
 try simp only [Act.put, zA, zB, zC]
 refine wpAnyH_ready (rs := [10]) (by kernel_rfl) (by simp) ?_
 refine AllReadyH.cons rfl (fun K hK => ?_) AllReadyH.nil
 refine step_wp (by rfl) ?_
 go_simp
 go_at_call 44
 refine (unhide HAt _ (Below.refl _ _).drew).mono ?_
 rintro e1 w2 ⟨rfl, hb2⟩
 have hb3 : Below w.heap.size w w2 := (Below.refl w.heap.size w).drew.trans hb2
 have z0 := (hb3.cell (p := ⟨e.b, 0, none⟩) hlt).trans c0
 have z1 := (hb3.cell (p := ⟨e.b, 1, none⟩) hlt).trans c1
 have z2 := (hb3.cell (p := ⟨ZB, 0, none⟩) zl).trans zc
 have HB3 := hide hb3
 clear hb2 hb3
 refine hK.out _ _ ⟨z0, z1, z2⟩ (fun hHeld2 => ?_)
 clear hK K hHeld
 try simp only [Act.put, zA, zB, zC]
 refine take_dst (i := 11) 43 (v := ?_) rfl rfl (by kernel_rfl) (by kernel_rfl) (by kernel_rfl) (fun _ _ _ h => h) (Or.inl ⟨by kernel_rfl, ?_⟩) (by assumption) ?_
 rotate_left
 ·intro w hSw
  obtain ⟨s0, s1, s2⟩ := hSw
  go_simp
  try with_reducible rfl
 try simp only [Act.put, zA, zB, zC]
 refine take_dst (i := 12) 2 (v := ?_) rfl rfl (by kernel_rfl) (by kernel_rfl) (by kernel_rfl) (fun _ _ _ h => h) (Or.inl ⟨by kernel_rfl, ?_⟩) (by assumption) ?_
 rotate_left
 ·intro w hSw
  obtain ⟨s0, s1, s2⟩ := hSw
  go_simp
  try with_reducible rfl
 try simp only [Act.put, zA, zB, zC]
 refine wpAnyH_done (by kernel_rfl) ?_ _
 try simp only [Act.put, zA, zB, zC]
 go_wp2
 go_ret
 exact ⟨by rw [unhide HV]; rfl, unhide HB3⟩
set_option maxRecDepth 4000 in
set_option maxHeartbeats 4000000 in
theorem text_sg8 (e : Ex) (hS : ∀ k ∈ e.kids, SaidTx k) (w : World) (ht : Tree w AnyB e) (ho : OkX e) (hl : (exB e).length ≤ 1099511627776) (hop : e.op = 8) : Calls Tryz.prog 28 #[ptrX e] w (OutS w (exB e)) := by
 rw [Tree_iff] at ht
 obtain ⟨_, ⟨lv, hb, hrow⟩, hk⟩ := ht
 have ho' := (OkX_iff e).1 ho
 have hlt := hb.lt
 have HX := hide hb
 have HTr := hide hk
 have HOk := hide ho'.kids
 have HRw := hide hrow
 have HSd := hide hS
 have hEx := exB_def e
 have c0 : w.cell? ⟨e.b, 0, none⟩ = some (.string ⟨#[33]⟩) := by
  have h0 := hb.c0
  rw [hop] at h0
  exact h0
 obtain ⟨z, hz⟩ : ∃ z, e.kids = [z] := List.length_eq_one_iff.1 (ho'.one (by omega))
 have hzm : z ∈ e.kids := by rw [hz]; simp
 rw [hz] at hrow
 obtain ⟨ao, cp, rfl⟩ := hrow.shape
 obtain ⟨ZB, cap, hv, _, zc, zf, _, _, _, zl⟩ := hrow.at (i := 0) (u := ptrX z) rfl
 injection hv with hv1 _ hv2
 subst hv1
 subst hv2
 have c1 := hb.c1
 have hE : exB e = 33 :: wrapX (rankX z) 2 (exB z) := by
  rw [hEx]
  unfold kindX
  rw [if_neg (by omega)]
  rw [if_neg (by omega)]
  rw [if_neg (by omega)]
  rw [if_pos hop, hz]
  simp [joinB]
 rw [hE] at hl ⊢
 have hll : (wrapX (rankX z) 2 (exB z)).length + 1 ≤ 1099511627776 := by simpa using hl
 have HAt := hide (fun W (hW : Below w.heap.size w W) => refAt_any z (hS z hzm) 2 W ((hk z hzm).below hW) (ho'.kids z hzm) (by omega))
 have hbz := bl_size (wrapX (rankX z) 2 (exB z))
 generalize wrapX (rankX z) 2 (exB z) = x at HAt hl hll hbz ⊢
 have ad1 : ∀ W : World, (Op.stringOp .add ⟨#[33]⟩ (bl x)).run Tryz.prog W = .ok (.string (⟨#[33]⟩ ++ bl x)) W := fun W => run_string_add_sum W _ _ (by rw [show (⟨#[33]⟩ : ByteArray).size = 1 from rfl, hbz]; omega)
 obtain ⟨X, hX⟩ : ∃ X, 33 :: x = X := ⟨_, rfl⟩
 have HV : Hid (bl X = ⟨#[33]⟩ ++ bl x) := by
  unfold Hid
  rw [← hX, blCons]
  skip
 rw [hX]
 unfold ptrX at zc HAt ⊢
 clear hb hrow hk hEx hE hop hS ho ho' hz hzm hX hl
 go_enter Tryz.func28, Tryz.ntmps28
 go_wp2_with fail
 refine wp_region_held_drew (S := fun w' => w'.cell? ⟨e.b, 0, none⟩ = some (.string ⟨#[33]⟩) ∧ w'.cell? ⟨e.b, 1, none⟩ = some (.slice (some ⟨ZB, 0, none⟩) 1 cp) ∧ w'.cell? ⟨ZB, 0, none⟩ = some (.pointer (some ⟨z.b, 0, none⟩))) (by kernel_rfl) ⟨c0, c1, zc⟩ (fun hHeld => ?_)
 refine take_dst (i := 0) 32 (v := ?_) rfl rfl (by kernel_rfl) (by kernel_rfl) (by kernel_rfl) (fun _ _ _ h => h) (Or.inl ⟨by kernel_rfl, ?_⟩) (by assumption) ?_
 rotate_left
 ·intro w hSw
  obtain ⟨s0, s1, s2⟩ := hSw
  go_simp
  try with_reducible rfl
 try simp only [Act.put, zA, zB, zC]
 refine take_dst (i := 1) 33 (v := ?_) rfl rfl (by kernel_rfl) (by kernel_rfl) (by kernel_rfl) (fun _ _ _ h => h) (Or.inl ⟨by kernel_rfl, ?_⟩) (by assumption) ?_
 rotate_left
 ·intro w hSw
  obtain ⟨s0, s1, s2⟩ := hSw
  go_simp
  try with_reducible rfl
 try simp only [Act.put, zA, zB, zC]
 refine take_dst (i := 2) 34 (v := ?_) rfl rfl (by kernel_rfl) (by kernel_rfl) (by kernel_rfl) (fun _ _ _ h => h) (Or.inl ⟨by kernel_rfl, ?_⟩) (by assumption) ?_
 rotate_left
 ·intro w hSw
  obtain ⟨s0, s1, s2⟩ := hSw
  go_simp
  try with_reducible rfl
 try simp only [Act.put, zA, zB, zC]
 refine take_dst (i := 3) 35 (v := ?_) rfl rfl (by kernel_rfl) (by kernel_rfl) (by kernel_rfl) (fun _ _ _ h => h) (Or.inl ⟨by kernel_rfl, ?_⟩) (by assumption) ?_
 rotate_left
 ·intro w hSw
  obtain ⟨s0, s1, s2⟩ := hSw
  go_simp
  try with_reducible rfl
 try simp only [Act.put, zA, zB, zC]
 refine take_dst (i := 4) 36 (v := ?_) rfl rfl (by kernel_rfl) (by kernel_rfl) (by kernel_rfl) (fun _ _ _ h => h) (Or.inl ⟨by kernel_rfl, ?_⟩) (by assumption) ?_
 rotate_left
 ·intro w hSw
  obtain ⟨s0, s1, s2⟩ := hSw
  go_simp
  try with_reducible rfl
 try simp only [Act.put, zA, zB, zC]
 refine take_dst (i := 5) 37 (v := ?_) rfl rfl (by kernel_rfl) (by kernel_rfl) (by kernel_rfl) (fun _ _ _ h => h) (Or.inl ⟨by kernel_rfl, ?_⟩) (by assumption) ?_
 rotate_left
 ·intro w hSw
  obtain ⟨s0, s1, s2⟩ := hSw
  go_simp
  try with_reducible rfl
 try simp only [Act.put, zA, zB, zC]
 refine take_dst (i := 6) 38 (v := ?_) rfl rfl (by kernel_rfl) (by kernel_rfl) (by kernel_rfl) (fun _ _ _ h => h) (Or.inl ⟨by kernel_rfl, ?_⟩) (by assumption) ?_
 rotate_left
 ·intro w hSw
  obtain ⟨s0, s1, s2⟩ := hSw
  go_simp
  try with_reducible rfl
 try simp only [Act.put, zA, zB, zC]
 refine take_dst (i := 7) 39 (v := ?_) rfl rfl (by kernel_rfl) (by kernel_rfl) (by kernel_rfl) (fun _ _ _ h => h) (Or.inl ⟨by kernel_rfl, ?_⟩) (by assumption) ?_
 rotate_left
 ·intro w hSw
  obtain ⟨s0, s1, s2⟩ := hSw
  go_simp
  try with_reducible rfl
 try simp only [Act.put, zA, zB, zC]
 refine take_dst (i := 8) 40 (v := ?_) rfl rfl (by kernel_rfl) (by kernel_rfl) (by kernel_rfl) (fun _ _ _ h => h) (Or.inl ⟨by kernel_rfl, ?_⟩) (by assumption) ?_
 rotate_left
 ·intro w hSw
  obtain ⟨s0, s1, s2⟩ := hSw
  go_simp
  try with_reducible rfl
 try simp only [Act.put, zA, zB, zC]
 refine take_dst (i := 9) 41 (v := ?_) rfl rfl (by kernel_rfl) (by kernel_rfl) (by kernel_rfl) (fun _ _ _ h => h) (Or.inl ⟨by kernel_rfl, ?_⟩) (by assumption) ?_
 rotate_left
 ·intro w hSw
  obtain ⟨s0, s1, s2⟩ := hSw
  go_simp
  try with_reducible rfl
 try simp only [Act.put, zA, zB, zC]
 refine wpAnyH_ready (rs := [10]) (by kernel_rfl) (by simp) ?_
 refine AllReadyH.cons rfl (fun K hK => ?_) AllReadyH.nil
 refine step_wp (by rfl) ?_
 go_simp
 go_at_call 44
 refine (unhide HAt _ (Below.refl _ _).drew).mono ?_
 rintro e1 w2 ⟨rfl, hb2⟩
 have hb3 : Below w.heap.size w w2 := (Below.refl w.heap.size w).drew.trans hb2
 have z0 := (hb3.cell (p := ⟨e.b, 0, none⟩) hlt).trans c0
 have z1 := (hb3.cell (p := ⟨e.b, 1, none⟩) hlt).trans c1
 have z2 := (hb3.cell (p := ⟨ZB, 0, none⟩) zl).trans zc
 have HB3 := hide hb3
 clear hb2 hb3
 refine hK.out _ _ ⟨z0, z1, z2⟩ (fun hHeld2 => ?_)
 clear hK K hHeld
 try simp only [Act.put, zA, zB, zC]
 refine take_dst (i := 11) 43 (v := ?_) rfl rfl (by kernel_rfl) (by kernel_rfl) (by kernel_rfl) (fun _ _ _ h => h) (Or.inl ⟨by kernel_rfl, ?_⟩) (by assumption) ?_
 rotate_left
 ·intro w hSw
  obtain ⟨s0, s1, s2⟩ := hSw
  go_simp
  try with_reducible rfl
 try simp only [Act.put, zA, zB, zC]
 refine take_dst (i := 12) 2 (v := ?_) rfl rfl (by kernel_rfl) (by kernel_rfl) (by kernel_rfl) (fun _ _ _ h => h) (Or.inl ⟨by kernel_rfl, ?_⟩) (by assumption) ?_
 rotate_left
 ·intro w hSw
  obtain ⟨s0, s1, s2⟩ := hSw
  go_simp
  try with_reducible rfl
 try simp only [Act.put, zA, zB, zC]
 refine wpAnyH_done (by kernel_rfl) ?_ _
 try simp only [Act.put, zA, zB, zC]
 go_wp2
 go_ret
 exact ⟨by rw [unhide HV]; rfl, unhide HB3⟩
set_option maxRecDepth 4000 in
set_option maxHeartbeats 4000000 in
theorem text_sg9 (e : Ex) (hS : ∀ k ∈ e.kids, SaidTx k) (w : World) (ht : Tree w AnyB e) (ho : OkX e) (hl : (exB e).length ≤ 1099511627776) (hop : e.op = 9) : Calls Tryz.prog 28 #[ptrX e] w (OutS w (exB e)) := by
 rw [Tree_iff] at ht
 obtain ⟨_, ⟨lv, hb, hrow⟩, hk⟩ := ht
 have ho' := (OkX_iff e).1 ho
 have hlt := hb.lt
 have HX := hide hb
 have HTr := hide hk
 have HOk := hide ho'.kids
 have HRw := hide hrow
 have HSd := hide hS
 have hEx := exB_def e
 have c0 : w.cell? ⟨e.b, 0, none⟩ = some (.string ⟨#[42]⟩) := by
  have h0 := hb.c0
  rw [hop] at h0
  exact h0
 obtain ⟨z, hz⟩ : ∃ z, e.kids = [z] := List.length_eq_one_iff.1 (ho'.one (by omega))
 have hzm : z ∈ e.kids := by rw [hz]; simp
 rw [hz] at hrow
 obtain ⟨ao, cp, rfl⟩ := hrow.shape
 obtain ⟨ZB, cap, hv, _, zc, zf, _, _, _, zl⟩ := hrow.at (i := 0) (u := ptrX z) rfl
 injection hv with hv1 _ hv2
 subst hv1
 subst hv2
 have c1 := hb.c1
 have hE : exB e = wrapX (rankX z) 3 (exB z) ++ [42] := by
  rw [hEx]
  unfold kindX
  rw [if_neg (by omega)]
  rw [if_neg (by omega)]
  rw [if_neg (by omega)]
  rw [if_neg (by omega)]
  rw [if_pos hop, hz]
  simp [joinB]
 rw [hE] at hl ⊢
 have hll : (wrapX (rankX z) 3 (exB z)).length + 1 ≤ 1099511627776 := by simpa using hl
 have HAt := hide (fun W (hW : Below w.heap.size w W) => refAt_any z (hS z hzm) 3 W ((hk z hzm).below hW) (ho'.kids z hzm) (by omega))
 have hbz := bl_size (wrapX (rankX z) 3 (exB z))
 generalize wrapX (rankX z) 3 (exB z) = x at HAt hl hll hbz ⊢
 have ad1 : ∀ W : World, (Op.stringOp .add (bl x) ⟨#[42]⟩).run Tryz.prog W = .ok (.string (bl x ++ ⟨#[42]⟩)) W := fun W => run_string_add_sum W _ _ (by rw [show (⟨#[42]⟩ : ByteArray).size = 1 from rfl, hbz]; omega)
 obtain ⟨X, hX⟩ : ∃ X, x ++ [42] = X := ⟨_, rfl⟩
 have HV : Hid (bl X = bl x ++ ⟨#[42]⟩) := by
  unfold Hid
  rw [← hX, ← blApp]
  rfl
 rw [hX]
 unfold ptrX at zc HAt ⊢
 clear hb hrow hk hEx hE hop hS ho ho' hz hzm hX hl
 go_enter Tryz.func28, Tryz.ntmps28
 go_wp2_with fail
 refine wp_region_held_drew (S := fun w' => w'.cell? ⟨e.b, 0, none⟩ = some (.string ⟨#[42]⟩) ∧ w'.cell? ⟨e.b, 1, none⟩ = some (.slice (some ⟨ZB, 0, none⟩) 1 cp) ∧ w'.cell? ⟨ZB, 0, none⟩ = some (.pointer (some ⟨z.b, 0, none⟩))) (by kernel_rfl) ⟨c0, c1, zc⟩ (fun hHeld => ?_)
 refine take_dst (i := 0) 48 (v := ?_) rfl rfl (by kernel_rfl) (by kernel_rfl) (by kernel_rfl) (fun _ _ _ h => h) (Or.inl ⟨by kernel_rfl, ?_⟩) (by assumption) ?_
 rotate_left
 ·intro w hSw
  obtain ⟨s0, s1, s2⟩ := hSw
  go_simp
  try with_reducible rfl
 try simp only [Act.put, zA, zB, zC]
 refine take_dst (i := 1) 49 (v := ?_) rfl rfl (by kernel_rfl) (by kernel_rfl) (by kernel_rfl) (fun _ _ _ h => h) (Or.inl ⟨by kernel_rfl, ?_⟩) (by assumption) ?_
 rotate_left
 ·intro w hSw
  obtain ⟨s0, s1, s2⟩ := hSw
  go_simp
  try with_reducible rfl
 try simp only [Act.put, zA, zB, zC]
 refine take_dst (i := 2) 50 (v := ?_) rfl rfl (by kernel_rfl) (by kernel_rfl) (by kernel_rfl) (fun _ _ _ h => h) (Or.inl ⟨by kernel_rfl, ?_⟩) (by assumption) ?_
 rotate_left
 ·intro w hSw
  obtain ⟨s0, s1, s2⟩ := hSw
  go_simp
  try with_reducible rfl
 try simp only [Act.put, zA, zB, zC]
 refine take_dst (i := 3) 51 (v := ?_) rfl rfl (by kernel_rfl) (by kernel_rfl) (by kernel_rfl) (fun _ _ _ h => h) (Or.inl ⟨by kernel_rfl, ?_⟩) (by assumption) ?_
 rotate_left
 ·intro w hSw
  obtain ⟨s0, s1, s2⟩ := hSw
  go_simp
  try with_reducible rfl
 try simp only [Act.put, zA, zB, zC]
 refine take_dst (i := 4) 52 (v := ?_) rfl rfl (by kernel_rfl) (by kernel_rfl) (by kernel_rfl) (fun _ _ _ h => h) (Or.inl ⟨by kernel_rfl, ?_⟩) (by assumption) ?_
 rotate_left
 ·intro w hSw
  obtain ⟨s0, s1, s2⟩ := hSw
  go_simp
  try with_reducible rfl
 try simp only [Act.put, zA, zB, zC]
 refine take_dst (i := 5) 53 (v := ?_) rfl rfl (by kernel_rfl) (by kernel_rfl) (by kernel_rfl) (fun _ _ _ h => h) (Or.inl ⟨by kernel_rfl, ?_⟩) (by assumption) ?_
 rotate_left
 ·intro w hSw
  obtain ⟨s0, s1, s2⟩ := hSw
  go_simp
  try with_reducible rfl
 try simp only [Act.put, zA, zB, zC]
 refine take_dst (i := 7) 55 (v := ?_) rfl rfl (by kernel_rfl) (by kernel_rfl) (by kernel_rfl) (fun _ _ _ h => h) (Or.inl ⟨by kernel_rfl, ?_⟩) (by assumption) ?_
 rotate_left
 ·intro w hSw
  obtain ⟨s0, s1, s2⟩ := hSw
  go_simp
  try with_reducible rfl
 try simp only [Act.put, zA, zB, zC]
 refine take_dst (i := 8) 56 (v := ?_) rfl rfl (by kernel_rfl) (by kernel_rfl) (by kernel_rfl) (fun _ _ _ h => h) (Or.inl ⟨by kernel_rfl, ?_⟩) (by assumption) ?_
 rotate_left
 ·intro w hSw
  obtain ⟨s0, s1, s2⟩ := hSw
  go_simp
  try with_reducible rfl
 try simp only [Act.put, zA, zB, zC]
 refine take_dst (i := 9) 57 (v := ?_) rfl rfl (by kernel_rfl) (by kernel_rfl) (by kernel_rfl) (fun _ _ _ h => h) (Or.inl ⟨by kernel_rfl, ?_⟩) (by assumption) ?_
 rotate_left
 ·intro w hSw
  obtain ⟨s0, s1, s2⟩ := hSw
  go_simp
  try with_reducible rfl
 try simp only [Act.put, zA, zB, zC]
 refine take_dst (i := 10) 58 (v := ?_) rfl rfl (by kernel_rfl) (by kernel_rfl) (by kernel_rfl) (fun _ _ _ h => h) (Or.inl ⟨by kernel_rfl, ?_⟩) (by assumption) ?_
 rotate_left
 ·intro w hSw
  obtain ⟨s0, s1, s2⟩ := hSw
  go_simp
  try with_reducible rfl
 try simp only [Act.put, zA, zB, zC]
 refine wpAnyH_ready (rs := [6]) (by kernel_rfl) (by simp) ?_
 refine AllReadyH.cons rfl (fun K hK => ?_) AllReadyH.nil
 refine step_wp (by rfl) ?_
 go_simp
 go_at_call 44
 refine (unhide HAt _ (Below.refl _ _).drew).mono ?_
 rintro e1 w2 ⟨rfl, hb2⟩
 have hb3 : Below w.heap.size w w2 := (Below.refl w.heap.size w).drew.trans hb2
 have z0 := (hb3.cell (p := ⟨e.b, 0, none⟩) hlt).trans c0
 have z1 := (hb3.cell (p := ⟨e.b, 1, none⟩) hlt).trans c1
 have z2 := (hb3.cell (p := ⟨ZB, 0, none⟩) zl).trans zc
 have HB3 := hide hb3
 clear hb2 hb3
 refine hK.out _ _ ⟨z0, z1, z2⟩ (fun hHeld2 => ?_)
 clear hK K hHeld
 try simp only [Act.put, zA, zB, zC]
 refine take_dst (i := 11) 59 (v := ?_) rfl rfl (by kernel_rfl) (by kernel_rfl) (by kernel_rfl) (fun _ _ _ h => h) (Or.inl ⟨by kernel_rfl, ?_⟩) (by assumption) ?_
 rotate_left
 ·intro w hSw
  obtain ⟨s0, s1, s2⟩ := hSw
  go_simp
  try with_reducible rfl
 try simp only [Act.put, zA, zB, zC]
 refine take_dst (i := 12) 2 (v := ?_) rfl rfl (by kernel_rfl) (by kernel_rfl) (by kernel_rfl) (fun _ _ _ h => h) (Or.inl ⟨by kernel_rfl, ?_⟩) (by assumption) ?_
 rotate_left
 ·intro w hSw
  obtain ⟨s0, s1, s2⟩ := hSw
  go_simp
  try with_reducible rfl
 try simp only [Act.put, zA, zB, zC]
 refine wpAnyH_done (by kernel_rfl) ?_ _
 try simp only [Act.put, zA, zB, zC]
 go_wp2
 go_ret
 exact ⟨by rw [unhide HV]; rfl, unhide HB3⟩
set_option maxRecDepth 4000 in
set_option maxHeartbeats 4000000 in
theorem text_sg10 (e : Ex) (hS : ∀ k ∈ e.kids, SaidTx k) (w : World) (ht : Tree w AnyB e) (ho : OkX e) (hl : (exB e).length ≤ 1099511627776) (hop : e.op = 10) : Calls Tryz.prog 28 #[ptrX e] w (OutS w (exB e)) := by
 rw [Tree_iff] at ht
 obtain ⟨_, ⟨lv, hb, hrow⟩, hk⟩ := ht
 have ho' := (OkX_iff e).1 ho
 have hlt := hb.lt
 have HX := hide hb
 have HTr := hide hk
 have HOk := hide ho'.kids
 have HRw := hide hrow
 have HSd := hide hS
 have hEx := exB_def e
 have c0 : w.cell? ⟨e.b, 0, none⟩ = some (.string ⟨#[43]⟩) := by
  have h0 := hb.c0
  rw [hop] at h0
  exact h0
 obtain ⟨z, hz⟩ : ∃ z, e.kids = [z] := List.length_eq_one_iff.1 (ho'.one (by omega))
 have hzm : z ∈ e.kids := by rw [hz]; simp
 rw [hz] at hrow
 obtain ⟨ao, cp, rfl⟩ := hrow.shape
 obtain ⟨ZB, cap, hv, _, zc, zf, _, _, _, zl⟩ := hrow.at (i := 0) (u := ptrX z) rfl
 injection hv with hv1 _ hv2
 subst hv1
 subst hv2
 have c1 := hb.c1
 have hE : exB e = wrapX (rankX z) 3 (exB z) ++ [43] := by
  rw [hEx]
  unfold kindX
  rw [if_neg (by omega)]
  rw [if_neg (by omega)]
  rw [if_neg (by omega)]
  rw [if_neg (by omega)]
  rw [if_neg (by omega)]
  rw [if_pos hop, hz]
  simp [joinB]
 rw [hE] at hl ⊢
 have hll : (wrapX (rankX z) 3 (exB z)).length + 1 ≤ 1099511627776 := by simpa using hl
 have HAt := hide (fun W (hW : Below w.heap.size w W) => refAt_any z (hS z hzm) 3 W ((hk z hzm).below hW) (ho'.kids z hzm) (by omega))
 have hbz := bl_size (wrapX (rankX z) 3 (exB z))
 generalize wrapX (rankX z) 3 (exB z) = x at HAt hl hll hbz ⊢
 have ad1 : ∀ W : World, (Op.stringOp .add (bl x) ⟨#[43]⟩).run Tryz.prog W = .ok (.string (bl x ++ ⟨#[43]⟩)) W := fun W => run_string_add_sum W _ _ (by rw [show (⟨#[43]⟩ : ByteArray).size = 1 from rfl, hbz]; omega)
 obtain ⟨X, hX⟩ : ∃ X, x ++ [43] = X := ⟨_, rfl⟩
 have HV : Hid (bl X = bl x ++ ⟨#[43]⟩) := by
  unfold Hid
  rw [← hX, ← blApp]
  rfl
 rw [hX]
 unfold ptrX at zc HAt ⊢
 clear hb hrow hk hEx hE hop hS ho ho' hz hzm hX hl
 go_enter Tryz.func28, Tryz.ntmps28
 go_wp2_with fail
 refine wp_region_held_drew (S := fun w' => w'.cell? ⟨e.b, 0, none⟩ = some (.string ⟨#[43]⟩) ∧ w'.cell? ⟨e.b, 1, none⟩ = some (.slice (some ⟨ZB, 0, none⟩) 1 cp) ∧ w'.cell? ⟨ZB, 0, none⟩ = some (.pointer (some ⟨z.b, 0, none⟩))) (by kernel_rfl) ⟨c0, c1, zc⟩ (fun hHeld => ?_)
 refine take_dst (i := 0) 48 (v := ?_) rfl rfl (by kernel_rfl) (by kernel_rfl) (by kernel_rfl) (fun _ _ _ h => h) (Or.inl ⟨by kernel_rfl, ?_⟩) (by assumption) ?_
 rotate_left
 ·intro w hSw
  obtain ⟨s0, s1, s2⟩ := hSw
  go_simp
  try with_reducible rfl
 try simp only [Act.put, zA, zB, zC]
 refine take_dst (i := 1) 49 (v := ?_) rfl rfl (by kernel_rfl) (by kernel_rfl) (by kernel_rfl) (fun _ _ _ h => h) (Or.inl ⟨by kernel_rfl, ?_⟩) (by assumption) ?_
 rotate_left
 ·intro w hSw
  obtain ⟨s0, s1, s2⟩ := hSw
  go_simp
  try with_reducible rfl
 try simp only [Act.put, zA, zB, zC]
 refine take_dst (i := 2) 50 (v := ?_) rfl rfl (by kernel_rfl) (by kernel_rfl) (by kernel_rfl) (fun _ _ _ h => h) (Or.inl ⟨by kernel_rfl, ?_⟩) (by assumption) ?_
 rotate_left
 ·intro w hSw
  obtain ⟨s0, s1, s2⟩ := hSw
  go_simp
  try with_reducible rfl
 try simp only [Act.put, zA, zB, zC]
 refine take_dst (i := 3) 51 (v := ?_) rfl rfl (by kernel_rfl) (by kernel_rfl) (by kernel_rfl) (fun _ _ _ h => h) (Or.inl ⟨by kernel_rfl, ?_⟩) (by assumption) ?_
 rotate_left
 ·intro w hSw
  obtain ⟨s0, s1, s2⟩ := hSw
  go_simp
  try with_reducible rfl
 try simp only [Act.put, zA, zB, zC]
 refine take_dst (i := 4) 52 (v := ?_) rfl rfl (by kernel_rfl) (by kernel_rfl) (by kernel_rfl) (fun _ _ _ h => h) (Or.inl ⟨by kernel_rfl, ?_⟩) (by assumption) ?_
 rotate_left
 ·intro w hSw
  obtain ⟨s0, s1, s2⟩ := hSw
  go_simp
  try with_reducible rfl
 try simp only [Act.put, zA, zB, zC]
 refine take_dst (i := 5) 53 (v := ?_) rfl rfl (by kernel_rfl) (by kernel_rfl) (by kernel_rfl) (fun _ _ _ h => h) (Or.inl ⟨by kernel_rfl, ?_⟩) (by assumption) ?_
 rotate_left
 ·intro w hSw
  obtain ⟨s0, s1, s2⟩ := hSw
  go_simp
  try with_reducible rfl
 try simp only [Act.put, zA, zB, zC]
 refine take_dst (i := 7) 55 (v := ?_) rfl rfl (by kernel_rfl) (by kernel_rfl) (by kernel_rfl) (fun _ _ _ h => h) (Or.inl ⟨by kernel_rfl, ?_⟩) (by assumption) ?_
 rotate_left
 ·intro w hSw
  obtain ⟨s0, s1, s2⟩ := hSw
  go_simp
  try with_reducible rfl
 try simp only [Act.put, zA, zB, zC]
 refine take_dst (i := 8) 56 (v := ?_) rfl rfl (by kernel_rfl) (by kernel_rfl) (by kernel_rfl) (fun _ _ _ h => h) (Or.inl ⟨by kernel_rfl, ?_⟩) (by assumption) ?_
 rotate_left
 ·intro w hSw
  obtain ⟨s0, s1, s2⟩ := hSw
  go_simp
  try with_reducible rfl
 try simp only [Act.put, zA, zB, zC]
 refine take_dst (i := 9) 57 (v := ?_) rfl rfl (by kernel_rfl) (by kernel_rfl) (by kernel_rfl) (fun _ _ _ h => h) (Or.inl ⟨by kernel_rfl, ?_⟩) (by assumption) ?_
 rotate_left
 ·intro w hSw
  obtain ⟨s0, s1, s2⟩ := hSw
  go_simp
  try with_reducible rfl
 try simp only [Act.put, zA, zB, zC]
 refine take_dst (i := 10) 58 (v := ?_) rfl rfl (by kernel_rfl) (by kernel_rfl) (by kernel_rfl) (fun _ _ _ h => h) (Or.inl ⟨by kernel_rfl, ?_⟩) (by assumption) ?_
 rotate_left
 ·intro w hSw
  obtain ⟨s0, s1, s2⟩ := hSw
  go_simp
  try with_reducible rfl
 try simp only [Act.put, zA, zB, zC]
 refine wpAnyH_ready (rs := [6]) (by kernel_rfl) (by simp) ?_
 refine AllReadyH.cons rfl (fun K hK => ?_) AllReadyH.nil
 refine step_wp (by rfl) ?_
 go_simp
 go_at_call 44
 refine (unhide HAt _ (Below.refl _ _).drew).mono ?_
 rintro e1 w2 ⟨rfl, hb2⟩
 have hb3 : Below w.heap.size w w2 := (Below.refl w.heap.size w).drew.trans hb2
 have z0 := (hb3.cell (p := ⟨e.b, 0, none⟩) hlt).trans c0
 have z1 := (hb3.cell (p := ⟨e.b, 1, none⟩) hlt).trans c1
 have z2 := (hb3.cell (p := ⟨ZB, 0, none⟩) zl).trans zc
 have HB3 := hide hb3
 clear hb2 hb3
 refine hK.out _ _ ⟨z0, z1, z2⟩ (fun hHeld2 => ?_)
 clear hK K hHeld
 try simp only [Act.put, zA, zB, zC]
 refine take_dst (i := 11) 59 (v := ?_) rfl rfl (by kernel_rfl) (by kernel_rfl) (by kernel_rfl) (fun _ _ _ h => h) (Or.inl ⟨by kernel_rfl, ?_⟩) (by assumption) ?_
 rotate_left
 ·intro w hSw
  obtain ⟨s0, s1, s2⟩ := hSw
  go_simp
  try with_reducible rfl
 try simp only [Act.put, zA, zB, zC]
 refine take_dst (i := 12) 2 (v := ?_) rfl rfl (by kernel_rfl) (by kernel_rfl) (by kernel_rfl) (fun _ _ _ h => h) (Or.inl ⟨by kernel_rfl, ?_⟩) (by assumption) ?_
 rotate_left
 ·intro w hSw
  obtain ⟨s0, s1, s2⟩ := hSw
  go_simp
  try with_reducible rfl
 try simp only [Act.put, zA, zB, zC]
 refine wpAnyH_done (by kernel_rfl) ?_ _
 try simp only [Act.put, zA, zB, zC]
 go_wp2
 go_ret
 exact ⟨by rw [unhide HV]; rfl, unhide HB3⟩
set_option maxRecDepth 4000 in
set_option maxHeartbeats 4000000 in
theorem text_sg11 (e : Ex) (hS : ∀ k ∈ e.kids, SaidTx k) (w : World) (ht : Tree w AnyB e) (ho : OkX e) (hl : (exB e).length ≤ 1099511627776) (hop : e.op = 11) : Calls Tryz.prog 28 #[ptrX e] w (OutS w (exB e)) := by
 rw [Tree_iff] at ht
 obtain ⟨_, ⟨lv, hb, hrow⟩, hk⟩ := ht
 have ho' := (OkX_iff e).1 ho
 have hlt := hb.lt
 have HX := hide hb
 have HTr := hide hk
 have HOk := hide ho'.kids
 have HRw := hide hrow
 have HSd := hide hS
 have hEx := exB_def e
 have c0 : w.cell? ⟨e.b, 0, none⟩ = some (.string ⟨#[63]⟩) := by
  have h0 := hb.c0
  rw [hop] at h0
  exact h0
 obtain ⟨z, hz⟩ : ∃ z, e.kids = [z] := List.length_eq_one_iff.1 (ho'.one (by omega))
 have hzm : z ∈ e.kids := by rw [hz]; simp
 rw [hz] at hrow
 obtain ⟨ao, cp, rfl⟩ := hrow.shape
 obtain ⟨ZB, cap, hv, _, zc, zf, _, _, _, zl⟩ := hrow.at (i := 0) (u := ptrX z) rfl
 injection hv with hv1 _ hv2
 subst hv1
 subst hv2
 have c1 := hb.c1
 have hE : exB e = wrapX (rankX z) 3 (exB z) ++ [63] := by
  rw [hEx]
  unfold kindX
  rw [if_neg (by omega)]
  rw [if_neg (by omega)]
  rw [if_neg (by omega)]
  rw [if_neg (by omega)]
  rw [if_neg (by omega)]
  rw [if_neg (by omega)]
  rw [if_pos hop, hz]
  simp [joinB]
 rw [hE] at hl ⊢
 have hll : (wrapX (rankX z) 3 (exB z)).length + 1 ≤ 1099511627776 := by simpa using hl
 have HAt := hide (fun W (hW : Below w.heap.size w W) => refAt_any z (hS z hzm) 3 W ((hk z hzm).below hW) (ho'.kids z hzm) (by omega))
 have hbz := bl_size (wrapX (rankX z) 3 (exB z))
 generalize wrapX (rankX z) 3 (exB z) = x at HAt hl hll hbz ⊢
 have ad1 : ∀ W : World, (Op.stringOp .add (bl x) ⟨#[63]⟩).run Tryz.prog W = .ok (.string (bl x ++ ⟨#[63]⟩)) W := fun W => run_string_add_sum W _ _ (by rw [show (⟨#[63]⟩ : ByteArray).size = 1 from rfl, hbz]; omega)
 obtain ⟨X, hX⟩ : ∃ X, x ++ [63] = X := ⟨_, rfl⟩
 have HV : Hid (bl X = bl x ++ ⟨#[63]⟩) := by
  unfold Hid
  rw [← hX, ← blApp]
  rfl
 rw [hX]
 unfold ptrX at zc HAt ⊢
 clear hb hrow hk hEx hE hop hS ho ho' hz hzm hX hl
 go_enter Tryz.func28, Tryz.ntmps28
 go_wp2_with fail
 refine wp_region_held_drew (S := fun w' => w'.cell? ⟨e.b, 0, none⟩ = some (.string ⟨#[63]⟩) ∧ w'.cell? ⟨e.b, 1, none⟩ = some (.slice (some ⟨ZB, 0, none⟩) 1 cp) ∧ w'.cell? ⟨ZB, 0, none⟩ = some (.pointer (some ⟨z.b, 0, none⟩))) (by kernel_rfl) ⟨c0, c1, zc⟩ (fun hHeld => ?_)
 refine take_dst (i := 0) 48 (v := ?_) rfl rfl (by kernel_rfl) (by kernel_rfl) (by kernel_rfl) (fun _ _ _ h => h) (Or.inl ⟨by kernel_rfl, ?_⟩) (by assumption) ?_
 rotate_left
 ·intro w hSw
  obtain ⟨s0, s1, s2⟩ := hSw
  go_simp
  try with_reducible rfl
 try simp only [Act.put, zA, zB, zC]
 refine take_dst (i := 1) 49 (v := ?_) rfl rfl (by kernel_rfl) (by kernel_rfl) (by kernel_rfl) (fun _ _ _ h => h) (Or.inl ⟨by kernel_rfl, ?_⟩) (by assumption) ?_
 rotate_left
 ·intro w hSw
  obtain ⟨s0, s1, s2⟩ := hSw
  go_simp
  try with_reducible rfl
 try simp only [Act.put, zA, zB, zC]
 refine take_dst (i := 2) 50 (v := ?_) rfl rfl (by kernel_rfl) (by kernel_rfl) (by kernel_rfl) (fun _ _ _ h => h) (Or.inl ⟨by kernel_rfl, ?_⟩) (by assumption) ?_
 rotate_left
 ·intro w hSw
  obtain ⟨s0, s1, s2⟩ := hSw
  go_simp
  try with_reducible rfl
 try simp only [Act.put, zA, zB, zC]
 refine take_dst (i := 3) 51 (v := ?_) rfl rfl (by kernel_rfl) (by kernel_rfl) (by kernel_rfl) (fun _ _ _ h => h) (Or.inl ⟨by kernel_rfl, ?_⟩) (by assumption) ?_
 rotate_left
 ·intro w hSw
  obtain ⟨s0, s1, s2⟩ := hSw
  go_simp
  try with_reducible rfl
 try simp only [Act.put, zA, zB, zC]
 refine take_dst (i := 4) 52 (v := ?_) rfl rfl (by kernel_rfl) (by kernel_rfl) (by kernel_rfl) (fun _ _ _ h => h) (Or.inl ⟨by kernel_rfl, ?_⟩) (by assumption) ?_
 rotate_left
 ·intro w hSw
  obtain ⟨s0, s1, s2⟩ := hSw
  go_simp
  try with_reducible rfl
 try simp only [Act.put, zA, zB, zC]
 refine take_dst (i := 5) 53 (v := ?_) rfl rfl (by kernel_rfl) (by kernel_rfl) (by kernel_rfl) (fun _ _ _ h => h) (Or.inl ⟨by kernel_rfl, ?_⟩) (by assumption) ?_
 rotate_left
 ·intro w hSw
  obtain ⟨s0, s1, s2⟩ := hSw
  go_simp
  try with_reducible rfl
 try simp only [Act.put, zA, zB, zC]
 refine take_dst (i := 7) 55 (v := ?_) rfl rfl (by kernel_rfl) (by kernel_rfl) (by kernel_rfl) (fun _ _ _ h => h) (Or.inl ⟨by kernel_rfl, ?_⟩) (by assumption) ?_
 rotate_left
 ·intro w hSw
  obtain ⟨s0, s1, s2⟩ := hSw
  go_simp
  try with_reducible rfl
 try simp only [Act.put, zA, zB, zC]
 refine take_dst (i := 8) 56 (v := ?_) rfl rfl (by kernel_rfl) (by kernel_rfl) (by kernel_rfl) (fun _ _ _ h => h) (Or.inl ⟨by kernel_rfl, ?_⟩) (by assumption) ?_
 rotate_left
 ·intro w hSw
  obtain ⟨s0, s1, s2⟩ := hSw
  go_simp
  try with_reducible rfl
 try simp only [Act.put, zA, zB, zC]
 refine take_dst (i := 9) 57 (v := ?_) rfl rfl (by kernel_rfl) (by kernel_rfl) (by kernel_rfl) (fun _ _ _ h => h) (Or.inl ⟨by kernel_rfl, ?_⟩) (by assumption) ?_
 rotate_left
 ·intro w hSw
  obtain ⟨s0, s1, s2⟩ := hSw
  go_simp
  try with_reducible rfl
 try simp only [Act.put, zA, zB, zC]
 refine take_dst (i := 10) 58 (v := ?_) rfl rfl (by kernel_rfl) (by kernel_rfl) (by kernel_rfl) (fun _ _ _ h => h) (Or.inl ⟨by kernel_rfl, ?_⟩) (by assumption) ?_
 rotate_left
 ·intro w hSw
  obtain ⟨s0, s1, s2⟩ := hSw
  go_simp
  try with_reducible rfl
 try simp only [Act.put, zA, zB, zC]
 refine wpAnyH_ready (rs := [6]) (by kernel_rfl) (by simp) ?_
 refine AllReadyH.cons rfl (fun K hK => ?_) AllReadyH.nil
 refine step_wp (by rfl) ?_
 go_simp
 go_at_call 44
 refine (unhide HAt _ (Below.refl _ _).drew).mono ?_
 rintro e1 w2 ⟨rfl, hb2⟩
 have hb3 : Below w.heap.size w w2 := (Below.refl w.heap.size w).drew.trans hb2
 have z0 := (hb3.cell (p := ⟨e.b, 0, none⟩) hlt).trans c0
 have z1 := (hb3.cell (p := ⟨e.b, 1, none⟩) hlt).trans c1
 have z2 := (hb3.cell (p := ⟨ZB, 0, none⟩) zl).trans zc
 have HB3 := hide hb3
 clear hb2 hb3
 refine hK.out _ _ ⟨z0, z1, z2⟩ (fun hHeld2 => ?_)
 clear hK K hHeld
 try simp only [Act.put, zA, zB, zC]
 refine take_dst (i := 11) 59 (v := ?_) rfl rfl (by kernel_rfl) (by kernel_rfl) (by kernel_rfl) (fun _ _ _ h => h) (Or.inl ⟨by kernel_rfl, ?_⟩) (by assumption) ?_
 rotate_left
 ·intro w hSw
  obtain ⟨s0, s1, s2⟩ := hSw
  go_simp
  try with_reducible rfl
 try simp only [Act.put, zA, zB, zC]
 refine take_dst (i := 12) 2 (v := ?_) rfl rfl (by kernel_rfl) (by kernel_rfl) (by kernel_rfl) (fun _ _ _ h => h) (Or.inl ⟨by kernel_rfl, ?_⟩) (by assumption) ?_
 rotate_left
 ·intro w hSw
  obtain ⟨s0, s1, s2⟩ := hSw
  go_simp
  try with_reducible rfl
 try simp only [Act.put, zA, zB, zC]
 refine wpAnyH_done (by kernel_rfl) ?_ _
 try simp only [Act.put, zA, zB, zC]
 go_wp2
 go_ret
 exact ⟨by rw [unhide HV]; rfl, unhide HB3⟩
set_option maxRecDepth 4000 in
set_option maxHeartbeats 4000000 in
theorem text_name (e : Ex) (hS : ∀ k ∈ e.kids, SaidTx k) (w : World) (ht : Tree w AnyB e) (ho : OkX e) (_hl : (exB e).length ≤ 1099511627776) (hop : e.op = 2) : Calls Tryz.prog 28 #[ptrX e] w (OutS w (exB e)) := by
 rw [Tree_iff] at ht
 obtain ⟨_, ⟨lv, hb, hrow⟩, hk⟩ := ht
 have ho' := (OkX_iff e).1 ho
 have hlt := hb.lt
 have HX := hide hb
 have HTr := hide hk
 have HOk := hide ho'.kids
 have HRw := hide hrow
 have HSd := hide hS
 have hEx := exB_def e
 have c0 : w.cell? ⟨e.b, 0, none⟩ = some (.string ⟨#[114, 117, 108, 101]⟩) := by
  have h0 := hb.c0
  rw [hop] at h0
  exact h0
 have c2 := hb.c2
 have HE : Hid (bl (exB e) = e.str) := by
  unfold Hid
  rw [hEx]
  unfold kindX
  rw [if_neg (by omega)]
  rw [if_neg (by omega)]
  rw [if_neg (by omega)]
  rw [if_neg (by omega)]
  rw [if_neg (by omega)]
  rw [if_neg (by omega)]
  rw [if_neg (by omega)]
  rw [if_pos hop, blSelf]
 clear hb hrow hk hEx hop hS ho ho'
 unfold ptrX
 go_enter Tryz.func28, Tryz.ntmps28
 go_wp2
 go_ret
 exact ⟨by rw [unhide HE]; rfl, Below.refl _ _⟩
set_option maxRecDepth 4000 in
set_option maxHeartbeats 4000000 in
theorem text_place (e : Ex) (hS : ∀ k ∈ e.kids, SaidTx k) (w : World) (ht : Tree w AnyB e) (ho : OkX e) (_hl : (exB e).length ≤ 1099511627776) (hop : e.op = 3) : Calls Tryz.prog 28 #[ptrX e] w (OutS w (exB e)) := by
 rw [Tree_iff] at ht
 obtain ⟨_, ⟨lv, hb, hrow⟩, hk⟩ := ht
 have ho' := (OkX_iff e).1 ho
 have hlt := hb.lt
 have HX := hide hb
 have HTr := hide hk
 have HOk := hide ho'.kids
 have HRw := hide hrow
 have HSd := hide hS
 have hEx := exB_def e
 have c0 : w.cell? ⟨e.b, 0, none⟩ = some (.string ⟨#[112, 108, 97, 99, 101]⟩) := by
  have h0 := hb.c0
  rw [hop] at h0
  exact h0
 have HE : Hid (exB e = [123, 125]) := by
  unfold Hid
  rw [hEx]
  unfold kindX
  rw [if_neg (by omega)]
  rw [if_neg (by omega)]
  rw [if_neg (by omega)]
  rw [if_neg (by omega)]
  rw [if_neg (by omega)]
  rw [if_neg (by omega)]
  rw [if_neg (by omega)]
  rw [if_neg (by omega)]
  rw [if_pos hop]
 clear hb hrow hk hEx hop hS ho ho'
 unfold ptrX
 go_enter Tryz.func28, Tryz.ntmps28
 go_wp2
 go_ret
 exact ⟨by rw [unhide HE]; rfl, Below.refl _ _⟩
set_option maxRecDepth 4000 in
set_option maxHeartbeats 4000000 in
theorem text_set (e : Ex) (hS : ∀ k ∈ e.kids, SaidTx k) (w : World) (ht : Tree w AnyB e) (ho : OkX e) (_hl : (exB e).length ≤ 1099511627776) (hop : e.op = 1) : Calls Tryz.prog 28 #[ptrX e] w (OutS w (exB e)) := by
 rw [Tree_iff] at ht
 obtain ⟨_, ⟨lv, hb, hrow⟩, hk⟩ := ht
 have ho' := (OkX_iff e).1 ho
 have hlt := hb.lt
 have HX := hide hb
 have HTr := hide hk
 have HOk := hide ho'.kids
 have HRw := hide hrow
 have HSd := hide hS
 have hEx := exB_def e
 have c0 : w.cell? ⟨e.b, 0, none⟩ = some (.string ⟨#[115, 101, 116]⟩) := by
  have h0 := hb.c0
  rw [hop] at h0
  exact h0
 have HE : Hid (exB e = setX e.set) := by
  unfold Hid
  rw [hEx]
  unfold kindX
  rw [if_neg (by omega)]
  rw [if_neg (by omega)]
  rw [if_neg (by omega)]
  rw [if_neg (by omega)]
  rw [if_neg (by omega)]
  rw [if_neg (by omega)]
  rw [if_neg (by omega)]
  rw [if_neg (by omega)]
  rw [if_neg (by omega)]
  rw [if_neg (by omega)]
  rw [if_pos hop]
 have HBy := hide (refBytes_any w e.set)
 clear hb hrow hk hEx hop hS ho ho'
 unfold ptrX
 go_enter Tryz.func28, Tryz.ntmps28
 go_wp2_with fail
 refine wp_load rfl (unhide HX).loadSet ?_
 go_wp2_with fail
 go_at_call 46
 refine (unhide HBy).mono ?_
 rintro e1 w1 ⟨rfl, hb1⟩
 go_wp2
 go_ret
 exact ⟨by rw [unhide HE]; rfl, hb1⟩
set_option maxRecDepth 4000 in
set_option maxHeartbeats 4000000 in
theorem text_part0 (e : Ex) (hS : ∀ k ∈ e.kids, SaidTx k) (w : World) (ht : Tree w AnyB e) (ho : OkX e) (hl : (exB e).length ≤ 1099511627776) (hop : e.op = 4) (hs0 : e.str.data.toList = []) : Calls Tryz.prog 28 #[ptrX e] w (OutS w (exB e)) := by
 rw [Tree_iff] at ht
 obtain ⟨_, ⟨lv, hb, hrow⟩, hk⟩ := ht
 have ho' := (OkX_iff e).1 ho
 have hlt := hb.lt
 have HX := hide hb
 have HTr := hide hk
 have HOk := hide ho'.kids
 have HRw := hide hrow
 have HSd := hide hS
 have hEx := exB_def e
 have c0 : w.cell? ⟨e.b, 0, none⟩ = some (.string ⟨#[99, 97, 116, 99, 104]⟩) := by
  have h0 := hb.c0
  rw [hop] at h0
  exact h0
 obtain ⟨z, hz⟩ : ∃ z, e.kids = [z] := List.length_eq_one_iff.1 (ho'.one (by omega))
 have hzm : z ∈ e.kids := by rw [hz]; simp
 rw [hz] at hrow
 obtain ⟨ao, cp, rfl⟩ := hrow.shape
 obtain ⟨ZB, cap, hv, _, zc, zf, _, _, _, zl⟩ := hrow.at (i := 0) (u := ptrX z) rfl
 injection hv with hv1 _ hv2
 subst hv1
 subst hv2
 have c1 := hb.c1
 have c2 := hb.c2
 have hse : (e.str.toList == []) = true := by
  rw [ByteArray.toList_eq, hs0]
  rfl
 have hE : exB e = 123 :: exB z ++ [125] := by
  rw [hEx]
  unfold kindX
  rw [if_neg (by omega)]
  rw [if_neg (by omega)]
  rw [if_neg (by omega)]
  rw [if_neg (by omega)]
  rw [if_neg (by omega)]
  rw [if_neg (by omega)]
  rw [if_neg (by omega)]
  rw [if_neg (by omega)]
  rw [if_neg (by omega)]
  rw [if_neg (by omega)]
  rw [if_neg (by omega)]
  rw [if_pos hs0, hz]
  simp [joinB, wrap0]
 rw [hE] at hl ⊢
 have hll : (exB z).length + 2 ≤ 1099511627776 := by simpa using hl
 have HTx := hide (fun W (hW : Below w.heap.size w W) => hS z hzm W ((hk z hzm).below hW) (ho'.kids z hzm) (by omega))
 have hbz := bl_size (exB z)
 generalize exB z = x at HTx hl hll hbz ⊢
 obtain ⟨X, hX⟩ : ∃ X, 123 :: x ++ [125] = X := ⟨_, rfl⟩
 have HV : Hid (bl X = ⟨#[123]⟩ ++ bl x ++ ⟨#[125]⟩) := by
  unfold Hid
  rw [← hX, ← blApp, blCons]
  rfl
 rw [hX]
 unfold ptrX at zc HTx ⊢
 clear hb hrow hk hEx hE hop hS ho ho' hz hzm hs0 hX hl
 go_enter Tryz.func28, Tryz.ntmps28
 go_wp2_with fail
 go_at_call 28
 refine (unhide HTx _ (Below.refl _ _)).mono ?_
 rintro e1 w1 ⟨rfl, hb1⟩
 go_wp2
 go_ret
 exact ⟨by rw [unhide HV]; rfl, hb1⟩
set_option maxRecDepth 4000 in
set_option maxHeartbeats 4000000 in
theorem text_part1 (e : Ex) (hS : ∀ k ∈ e.kids, SaidTx k) (w : World) (ht : Tree w AnyB e) (ho : OkX e) (hl : (exB e).length ≤ 1099511627776) (hop : e.op = 4) (hs0 : e.str.data.toList ≠ []) : Calls Tryz.prog 28 #[ptrX e] w (OutS w (exB e)) := by
 rw [Tree_iff] at ht
 obtain ⟨_, ⟨lv, hb, hrow⟩, hk⟩ := ht
 have ho' := (OkX_iff e).1 ho
 have hlt := hb.lt
 have HX := hide hb
 have HTr := hide hk
 have HOk := hide ho'.kids
 have HRw := hide hrow
 have HSd := hide hS
 have hEx := exB_def e
 have c0 : w.cell? ⟨e.b, 0, none⟩ = some (.string ⟨#[99, 97, 116, 99, 104]⟩) := by
  have h0 := hb.c0
  rw [hop] at h0
  exact h0
 obtain ⟨z, hz⟩ : ∃ z, e.kids = [z] := List.length_eq_one_iff.1 (ho'.one (by omega))
 have hzm : z ∈ e.kids := by rw [hz]; simp
 rw [hz] at hrow
 obtain ⟨ao, cp, rfl⟩ := hrow.shape
 obtain ⟨ZB, cap, hv, _, zc, zf, _, _, _, zl⟩ := hrow.at (i := 0) (u := ptrX z) rfl
 injection hv with hv1 _ hv2
 subst hv1
 subst hv2
 have c1 := hb.c1
 have c2 := hb.c2
 have hse : (e.str.toList == []) = false := by
  rw [ByteArray.toList_eq]
  simpa using hs0
 have hE : exB e = 123 :: e.str.data.toList ++ [58, 32] ++ exB z ++ [125] := by
  rw [hEx]
  unfold kindX
  rw [if_neg (by omega)]
  rw [if_neg (by omega)]
  rw [if_neg (by omega)]
  rw [if_neg (by omega)]
  rw [if_neg (by omega)]
  rw [if_neg (by omega)]
  rw [if_neg (by omega)]
  rw [if_neg (by omega)]
  rw [if_neg (by omega)]
  rw [if_neg (by omega)]
  rw [if_neg (by omega)]
  rw [if_neg hs0, hz]
  simp [joinB, wrap0]
 rw [hE] at hl ⊢
 have hll : e.str.data.toList.length + (exB z).length + 4 ≤ 1099511627776 := by simp at hl; simp; omega
 have hsz : e.str.size = e.str.data.toList.length := by simp
 have hs2 : e.str.size + (exB z).length + 4 ≤ 1099511627776 := by omega
 have HTx := hide (fun W (hW : Below w.heap.size w W) => hS z hzm W ((hk z hzm).below hW) (ho'.kids z hzm) (by omega))
 have hbz := bl_size (exB z)
 generalize exB z = x at HTx hl hll hs2 hbz ⊢
 have ad1 : ∀ W : World, (Op.stringOp .add ⟨#[123]⟩ e.str).run Tryz.prog W = .ok (.string (⟨#[123]⟩ ++ e.str)) W := fun W => run_string_add_sum W _ _ (by rw [show (⟨#[123]⟩ : ByteArray).size = 1 from rfl]; omega)
 have ad2 : ∀ W : World, (Op.stringOp .add (⟨#[123]⟩ ++ e.str) ⟨#[58, 32]⟩).run Tryz.prog W = .ok (.string (⟨#[123]⟩ ++ e.str ++ ⟨#[58, 32]⟩)) W := fun W => run_string_add_sum W _ _ (by rw [ByteArray.size_append, show (⟨#[123]⟩ : ByteArray).size = 1 from rfl, show (⟨#[58, 32]⟩ : ByteArray).size = 2 from rfl]; omega)
 have ad3 : ∀ W : World, (Op.stringOp .add (⟨#[123]⟩ ++ e.str ++ ⟨#[58, 32]⟩) (bl x)).run Tryz.prog W = .ok (.string (⟨#[123]⟩ ++ e.str ++ ⟨#[58, 32]⟩ ++ bl x)) W := fun W => run_string_add_sum W _ _ (by rw [ByteArray.size_append, ByteArray.size_append, show (⟨#[123]⟩ : ByteArray).size = 1 from rfl, show (⟨#[58, 32]⟩ : ByteArray).size = 2 from rfl, hbz]; omega)
 have ad4 : ∀ W : World, (Op.stringOp .add (⟨#[123]⟩ ++ e.str ++ ⟨#[58, 32]⟩ ++ bl x) ⟨#[125]⟩).run Tryz.prog W = .ok (.string (⟨#[123]⟩ ++ e.str ++ ⟨#[58, 32]⟩ ++ bl x ++ ⟨#[125]⟩)) W := fun W => run_string_add_sum W _ _ (by rw [ByteArray.size_append, ByteArray.size_append, ByteArray.size_append, show (⟨#[123]⟩ : ByteArray).size = 1 from rfl, show (⟨#[58, 32]⟩ : ByteArray).size = 2 from rfl, show (⟨#[125]⟩ : ByteArray).size = 1 from rfl, hbz]; omega)
 obtain ⟨X, hX⟩ : ∃ X, 123 :: e.str.data.toList ++ [58, 32] ++ x ++ [125] = X := ⟨_, rfl⟩
 have HV : Hid (bl X = ⟨#[123]⟩ ++ e.str ++ ⟨#[58, 32]⟩ ++ bl x ++ ⟨#[125]⟩) := by
  unfold Hid
  rw [← hX, ← blApp, ← blApp, ← blApp, blCons, blSelf]
  rfl
 rw [hX]
 unfold ptrX at zc HTx ⊢
 clear hb hrow hk hEx hE hop hS ho ho' hz hzm hs0 hll hsz hl hX
 go_enter Tryz.func28, Tryz.ntmps28
 go_wp2_with fail
 refine wp_region_held_drew (S := fun w' => w'.cell? ⟨e.b, 2, none⟩ = some (.string e.str) ∧ w'.cell? ⟨e.b, 1, none⟩ = some (.slice (some ⟨ZB, 0, none⟩) 1 cp) ∧ w'.cell? ⟨ZB, 0, none⟩ = some (.pointer (some ⟨z.b, 0, none⟩))) (by kernel_rfl) ⟨c2, c1, zc⟩ (fun hHeld => ?_)
 refine take_dst (i := 0) 112 (v := ?_) rfl rfl (by kernel_rfl) (by kernel_rfl) (by kernel_rfl) (fun _ _ _ h => h) (Or.inl ⟨by kernel_rfl, ?_⟩) (by assumption) ?_
 rotate_left
 ·intro w hSw
  obtain ⟨s0, s1, s2⟩ := hSw
  go_simp
  try with_reducible rfl
 try simp only [Act.put, zA, zB, zC]
 refine take_dst (i := 1) 113 (v := ?_) rfl rfl (by kernel_rfl) (by kernel_rfl) (by kernel_rfl) (fun _ _ _ h => h) (Or.inl ⟨by kernel_rfl, ?_⟩) (by assumption) ?_
 rotate_left
 ·intro w hSw
  obtain ⟨s0, s1, s2⟩ := hSw
  go_simp
  try with_reducible rfl
 try simp only [Act.put, zA, zB, zC]
 refine take_dst (i := 2) 114 (v := ?_) rfl rfl (by kernel_rfl) (by kernel_rfl) (by kernel_rfl) (fun _ _ _ h => h) (Or.inl ⟨by kernel_rfl, ?_⟩) (by assumption) ?_
 rotate_left
 ·intro w hSw
  obtain ⟨s0, s1, s2⟩ := hSw
  go_simp
  try with_reducible rfl
 try simp only [Act.put, zA, zB, zC]
 refine take_dst (i := 3) 115 (v := ?_) rfl rfl (by kernel_rfl) (by kernel_rfl) (by kernel_rfl) (fun _ _ _ h => h) (Or.inl ⟨by kernel_rfl, ?_⟩) (by assumption) ?_
 rotate_left
 ·intro w hSw
  obtain ⟨s0, s1, s2⟩ := hSw
  go_simp
  try with_reducible rfl
 try simp only [Act.put, zA, zB, zC]
 refine take_dst (i := 4) 116 (v := ?_) rfl rfl (by kernel_rfl) (by kernel_rfl) (by kernel_rfl) (fun _ _ _ h => h) (Or.inl ⟨by kernel_rfl, ?_⟩) (by assumption) ?_
 rotate_left
 ·intro w hSw
  obtain ⟨s0, s1, s2⟩ := hSw
  go_simp
  try with_reducible rfl
 try simp only [Act.put, zA, zB, zC]
 refine take_dst (i := 5) 117 (v := ?_) rfl rfl (by kernel_rfl) (by kernel_rfl) (by kernel_rfl) (fun _ _ _ h => h) (Or.inl ⟨by kernel_rfl, ?_⟩) (by assumption) ?_
 rotate_left
 ·intro w hSw
  obtain ⟨s0, s1, s2⟩ := hSw
  go_simp
  try with_reducible rfl
 try simp only [Act.put, zA, zB, zC]
 refine take_dst (i := 6) 118 (v := ?_) rfl rfl (by kernel_rfl) (by kernel_rfl) (by kernel_rfl) (fun _ _ _ h => h) (Or.inl ⟨by kernel_rfl, ?_⟩) (by assumption) ?_
 rotate_left
 ·intro w hSw
  obtain ⟨s0, s1, s2⟩ := hSw
  go_simp
  try with_reducible rfl
 try simp only [Act.put, zA, zB, zC]
 refine take_dst (i := 7) 119 (v := ?_) rfl rfl (by kernel_rfl) (by kernel_rfl) (by kernel_rfl) (fun _ _ _ h => h) (Or.inl ⟨by kernel_rfl, ?_⟩) (by assumption) ?_
 rotate_left
 ·intro w hSw
  obtain ⟨s0, s1, s2⟩ := hSw
  go_simp
  try with_reducible rfl
 try simp only [Act.put, zA, zB, zC]
 refine take_dst (i := 8) 120 (v := ?_) rfl rfl (by kernel_rfl) (by kernel_rfl) (by kernel_rfl) (fun _ _ _ h => h) (Or.inl ⟨by kernel_rfl, ?_⟩) (by assumption) ?_
 rotate_left
 ·intro w hSw
  obtain ⟨s0, s1, s2⟩ := hSw
  go_simp
  try with_reducible rfl
 try simp only [Act.put, zA, zB, zC]
 refine take_dst (i := 9) 121 (v := ?_) rfl rfl (by kernel_rfl) (by kernel_rfl) (by kernel_rfl) (fun _ _ _ h => h) (Or.inl ⟨by kernel_rfl, ?_⟩) (by assumption) ?_
 rotate_left
 ·intro w hSw
  obtain ⟨s0, s1, s2⟩ := hSw
  go_simp
  try with_reducible rfl
 try simp only [Act.put, zA, zB, zC]
 refine take_dst (i := 10) 122 (v := ?_) rfl rfl (by kernel_rfl) (by kernel_rfl) (by kernel_rfl) (fun _ _ _ h => h) (Or.inl ⟨by kernel_rfl, ?_⟩) (by assumption) ?_
 rotate_left
 ·intro w hSw
  obtain ⟨s0, s1, s2⟩ := hSw
  go_simp
  try with_reducible rfl
 try simp only [Act.put, zA, zB, zC]
 refine take_dst (i := 11) 123 (v := ?_) rfl rfl (by kernel_rfl) (by kernel_rfl) (by kernel_rfl) (fun _ _ _ h => h) (Or.inl ⟨by kernel_rfl, ?_⟩) (by assumption) ?_
 rotate_left
 ·intro w hSw
  obtain ⟨s0, s1, s2⟩ := hSw
  go_simp
  try with_reducible rfl
 try simp only [Act.put, zA, zB, zC]
 refine wpAnyH_ready (rs := [12]) (by kernel_rfl) (by simp) ?_
 refine AllReadyH.cons rfl (fun K hK => ?_) AllReadyH.nil
 refine step_wp (by rfl) ?_
 go_simp
 go_at_call 28
 refine (unhide HTx _ (Below.refl _ _).drew).mono ?_
 rintro e1 w2 ⟨rfl, hb2⟩
 have hb3 : Below w.heap.size w w2 := (Below.refl w.heap.size w).drew.trans hb2
 have z0 := (hb3.cell (p := ⟨e.b, 2, none⟩) hlt).trans c2
 have z1 := (hb3.cell (p := ⟨e.b, 1, none⟩) hlt).trans c1
 have z2 := (hb3.cell (p := ⟨ZB, 0, none⟩) zl).trans zc
 have HB3 := hide hb3
 clear hb2 hb3
 refine hK.out _ _ ⟨z0, z1, z2⟩ (fun hHeld2 => ?_)
 clear hK K hHeld
 try simp only [Act.put, zA, zB, zC]
 refine take_dst (i := 13) 125 (v := ?_) rfl rfl (by kernel_rfl) (by kernel_rfl) (by kernel_rfl) (fun _ _ _ h => h) (Or.inl ⟨by kernel_rfl, ?_⟩) (by assumption) ?_
 rotate_left
 ·intro w hSw
  obtain ⟨s0, s1, s2⟩ := hSw
  go_simp
  try with_reducible rfl
 try simp only [Act.put, zA, zB, zC]
 refine take_dst (i := 14) 126 (v := ?_) rfl rfl (by kernel_rfl) (by kernel_rfl) (by kernel_rfl) (fun _ _ _ h => h) (Or.inl ⟨by kernel_rfl, ?_⟩) (by assumption) ?_
 rotate_left
 ·intro w hSw
  obtain ⟨s0, s1, s2⟩ := hSw
  go_simp
  try with_reducible rfl
 try simp only [Act.put, zA, zB, zC]
 refine take_dst (i := 15) 2 (v := ?_) rfl rfl (by kernel_rfl) (by kernel_rfl) (by kernel_rfl) (fun _ _ _ h => h) (Or.inl ⟨by kernel_rfl, ?_⟩) (by assumption) ?_
 rotate_left
 ·intro w hSw
  obtain ⟨s0, s1, s2⟩ := hSw
  go_simp
  try with_reducible rfl
 try simp only [Act.put, zA, zB, zC]
 refine wpAnyH_done (by kernel_rfl) ?_ _
 try simp only [Act.put, zA, zB, zC]
 go_wp2
 go_ret
 exact ⟨by rw [unhide HV]; rfl, unhide HB3⟩
set_option maxRecDepth 4000 in
set_option maxHeartbeats 4000000 in
theorem text_word (e : Ex) (hS : ∀ k ∈ e.kids, SaidTx k) (w : World) (ht : Tree w AnyB e) (ho : OkX e) (hl : (exB e).length ≤ 1099511627776) (hop : e.op = 0) : Calls Tryz.prog 28 #[ptrX e] w (OutS w (exB e)) := by
 rw [Tree_iff] at ht
 obtain ⟨_, ⟨lv, hb, hrow⟩, hk⟩ := ht
 have ho' := (OkX_iff e).1 ho
 have hlt := hb.lt
 have HX := hide hb
 have HTr := hide hk
 have HOk := hide ho'.kids
 have HRw := hide hrow
 have HSd := hide hS
 have hEx := exB_def e
 have c0 : w.cell? ⟨e.b, 0, none⟩ = some (.string ⟨#[119, 111, 114, 100]⟩) := by
  have h0 := hb.c0
  rw [hop] at h0
  exact h0
 have c2 := hb.c2
 have hE : exB e = wordT e.str.data.toList := by
  rw [hEx]
  unfold kindX
  rw [if_neg (by omega)]
  rw [if_neg (by omega)]
  rw [if_neg (by omega)]
  rw [if_neg (by omega)]
  rw [if_neg (by omega)]
  rw [if_neg (by omega)]
  rw [if_neg (by omega)]
  rw [if_neg (by omega)]
  rw [if_neg (by omega)]
  rw [if_pos hop]
 obtain ⟨l, hlE⟩ : ∃ l, e.str.data.toList = l := ⟨_, rfl⟩
 have hse : e.str = bl l := by rw [← hlE, blSelf]
 rw [hE, hlE] at hl ⊢
 rw [hse] at c2
 have hW : wordT l = 39 :: accW l l.length ++ [39] := by
  unfold wordT accW
  rw [List.take_length]
 rw [hW] at hl ⊢
 obtain ⟨X, hX⟩ : ∃ X, 39 :: accW l l.length ++ [39] = X := ⟨_, rfl⟩
 have HV : Hid (bl X = ⟨#[39]⟩ ++ bl (accW l l.length) ++ ⟨#[39]⟩) := by
  unfold Hid
  rw [← hX, ← blApp, blCons]
  rfl
 have hal : (accW l l.length).length + 2 ≤ 1099511627776 := by simpa using hl
 have hzl := bl_size l
 have HC2 := hide c2
 have HWr := hide (fun (W : World) (c : UInt8) => written_any W c [39, 92] (by decide) (by decide) (by rw [wm_has]; exact wm_range c))
 have hll : l.length ≤ 1099511627776 := by
  have := accW_ge l l.length
  rw [List.take_length] at this
  omega
 clear hb hrow hk hEx hE hop hS ho ho' hlE hse hW hl
 rw [hX]
 clear hX
 unfold ptrX
 go_enter Tryz.func28, Tryz.ntmps28
 go_wp2_with fail
 go_loopw [3, 4] (fun t i wr => ∃ k : Nat, k ≤ l.length ∧ t = .string (bl (accW l k)) ∧ i = .int .i64 k ∧ Hid (Below w.heap.size w wr)) (fun _ i _ => l.length - (intOf i).toNat)
 case atStart => exact ⟨0, Nat.zero_le _, rfl, rfl, Below.refl _ _⟩
 case round =>
  obtain ⟨k, hk, rfl, rfl, HB⟩ := hrel
  have cr := ((unhide HB).cell (p := ⟨e.b, 2, none⟩) hlt).trans (unhide HC2)
  have clr := Nat.lt_of_lt_of_le hlt (unhide HB).size
  have hza := bl_size (accW l k)
  have hmo := accW_mono l k
  by_cases hk2 : k < l.length
  ·have hki : (k : Int) < l.length := by omega
   have hks : k < (bl l).size := by omega
   have hget : (bl l)[k]'hks = l[k] := rfl
   obtain ⟨b, hbk⟩ : ∃ b, l[k] = b := ⟨_, rfl⟩
   rw [hbk] at hget
   have hmo2 := accW_mono l (k + 1)
   have HW := hide (unhide HWr wr b)
   rw [wm_has] at HW
   have hsu : accW l (k + 1) = accW l k ++ chrC b (isWM b.toNat) := by subst hbk; exact accW_succ l k hk2
   have HSu := hide hsu
   have hzy := bl_size (chrC b (isWM b.toNat))
   have hyl := chr4 b (isWM b.toNat)
   generalize chrC b (isWM b.toNat) = y at HW HSu hzy hyl hsu
   clear hbk hsu
   go_wp2_with fail
   go_at_call 45
   refine (unhide HW).mono ?_
   rintro e1 w2 ⟨rfl, hb2⟩
   have HB2 := hide ((unhide HB).trans (hb2.mono (unhide HB).size))
   clear hb2
   go_wp2_with fail
   go_roundw
   case rel => exact ⟨k + 1, by omega, by rw [unhide HSu, ← blApp], by go_num, HB2⟩
   case measure => simp [intOf]; omega
  ·have hki : ¬ (k : Int) < l.length := by omega
   have hke : k = l.length := by omega
   subst hke
   generalize accW l l.length = x at hza hal hmo HV ⊢
   clear hmo
   go_wp2
   go_ret
   exact ⟨by rw [unhide HV]; rfl, unhide HB⟩
end Go.Proofs.YtbojcemamhiodaaGreatDoor
namespace Go.Proofs.YtbojcemamhiodaaGreatDoor
open Go.RowKit
theorem text_any (e : Ex) : SaidTx e := by
 refine Ex.ind (P := SaidTx) (fun e ih w ht ho hl => ?_) e
 have hop := ((OkX_iff e).1 ho).op
 by_cases h6 : e.op = 6
 ·exact text_choice e ih w ht ho hl h6
 by_cases h5 : e.op = 5
 ·by_cases hk : e.kids.length = 0
  ·exact text_empty e ih w ht ho hl h5 hk
  ·exact text_row e ih w ht ho hl h5 hk
 by_cases h7 : e.op = 7
 ·exact text_sg7 e ih w ht ho hl h7
 by_cases h8 : e.op = 8
 ·exact text_sg8 e ih w ht ho hl h8
 by_cases h9 : e.op = 9
 ·exact text_sg9 e ih w ht ho hl h9
 by_cases h10 : e.op = 10
 ·exact text_sg10 e ih w ht ho hl h10
 by_cases h11 : e.op = 11
 ·exact text_sg11 e ih w ht ho hl h11
 by_cases h2 : e.op = 2
 ·exact text_name e ih w ht ho hl h2
 by_cases h3 : e.op = 3
 ·exact text_place e ih w ht ho hl h3
 by_cases h0 : e.op = 0
 ·exact text_word e ih w ht ho hl h0
 by_cases h1 : e.op = 1
 ·exact text_set e ih w ht ho hl h1
 ·have h4 : e.op = 4 := by omega
  by_cases hs : e.str.data.toList = []
  ·exact text_part0 e ih w ht ho hl h4 hs
  ·exact text_part1 e ih w ht ho hl h4 hs
end Go.Proofs.YtbojcemamhiodaaGreatDoor
