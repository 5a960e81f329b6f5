import Derived.Test.YtbojcemamhiodabGreatDoorTx3
import Derived.Test.YtbojcemamhiodabGreatDoorBui2
import Derived.Test.YtbojcemamhiodabGreatDoorMts
namespace Go.Proofs.YtbojcemamhiodabGreatDoor
open Go.RowKit

section
variable {S : Nat → Prop} {G : Nat} {nv tv : Value} {nms : List ByteArray} {T : List Tm} {w w' : World}
theorem Gm.below (h : Gm w S G nv tv nms T) (hb : Below w.heap.size w w') : Gm w' S G nv tv nms T := h.turn fun b hS hz => ⟨hS, hb.block b hz⟩
theorem Gm.cells (h : Gm w S G nv tv nms T) : w.cell? ⟨G, 0, none⟩ = some nv ∧ w.cell? ⟨G, 1, none⟩ = some tv ∧ G < w.heap.size := by
  refine ⟨?_, ?_, (Array.getElem?_eq_some_iff.1 h.cell).1⟩
  all_goals simp [World.cell?, h.cell]
theorem Gm.shape (h : Gm w S G nv tv nms T) : ∃ ao cp, tv = .slice ao T.length cp := by
  obtain ⟨xs, hx1, _⟩ := h.terms
  rcases hx1.2 with ⟨e, hz⟩ | ⟨_, _, _, e, _⟩
  · exact ⟨none, 0, by rw [e, hz]⟩
  · exact ⟨_, _, e⟩
theorem Gm.term (h : Gm w S G nv tv nms T) (k : Nat) (hk : k < T.length) : ∃ g cp ao n' cp', tv = .slice (some ⟨g, 0, none⟩) T.length cp ∧ T.length ≤ cp ∧ g < w.heap.size ∧ IntR w S (.slice ao n' cp') T[k].kids ∧
    w.cell? ⟨g, k * 3, none⟩ = some (.int .i64 T[k].kind) ∧ w.cell? ⟨g, k * 3 + 1, none⟩ = some (.string T[k].text) ∧ w.cell? ⟨g, k * 3 + 2, none⟩ = some (.slice ao n' cp') := by
  obtain ⟨xs, h1, h2⟩ := h.terms
  obtain ⟨kv, k1, k2⟩ := h2.at k T[k] (List.getElem?_eq_getElem hk)
  rcases h1.2 with ⟨_, hz⟩ | ⟨g, cap, cur, hv, hS, hh, hle, hcm, hcs, ht⟩
  · omega
  · have hsh : ∃ ao n' cp', kv = .slice ao n' cp' := by
      rcases k1.2 with ⟨e, _⟩ | ⟨_, _, _, e, _⟩
      · exact ⟨_, _, _, e⟩
      · exact ⟨_, _, _, e⟩
    obtain ⟨ao, n', cp', rfl⟩ := hsh
    have hc : ∀ j < 3, w.cell? ⟨g, k * 3 + j, none⟩ = (T[k].cs (.slice ao n' cp'))[j]? := by
      intro j hj
      rw [← k2 j hj, ← ht, List.getElem?_take, if_pos (by omega)]
      simp [World.cell?, hh]
    exact ⟨g, cap, ao, n', cp', hv, hle, (Array.getElem?_eq_some_iff.1 hh).1, k1, (hc 0 (by omega)).trans rfl, (hc 1 (by omega)).trans rfl, (hc 2 (by omega)).trans rfl⟩
end

section
variable (S : Nat → Prop) (G : Nat) (nv tv : Value) (nms : List ByteArray) (T : List Tm)
/-- the contract of writeTerm, of what f tells -/
def SaidWt (f : Int → Int → Option (List UInt8)) : Prop := ∀ (w : World) (i least : Int) (x : List UInt8), Gm w S G nv tv nms T → Tab w → 0 ≤ least → least ≤ 2 → f i least = some x → x.length ≤ 1099511627776 →
  Calls Tryz.prog 22 #[.pointer (some ⟨G, 0, none⟩), .int .i64 i, .int .i64 least] w fun e w' => e = .returned (.string (bl x)) ∧ Below w.heap.size w w'
def SaidLt (f : Int → Int → Option (List UInt8)) : Prop := ∀ (w : World) (ks : List Int) (ao : Option Addr) (n cp : Nat) (btw : List UInt8) (least : Int) (x : List UInt8), Gm w S G nv tv nms T → Tab w → IntR w S (.slice ao n cp) ks → btw.length ≤ 3 → 0 ≤ least → least ≤ 2 → listT f btw least ks = some x → x.length ≤ 1099511627776 →
  Calls Tryz.prog 61 #[.pointer (some ⟨G, 0, none⟩), .slice ao n cp, .string (bl btw), .int .i64 least] w fun e w' => e = .returned (.string (bl x)) ∧ Below w.heap.size w w'
end
section
variable {S : Nat → Prop} {G : Nat} {nv tv : Value} {nms : List ByteArray} {T : List Tm} {f : Int → Int → Option (List UInt8)}

theorem IntR.below {w w' : World} {v : Value} {l : List Int} (h : IntR w S v l) (hb : Below w.heap.size w w') : IntR w' S v l := RowIn.turn h fun b hS hz => ⟨hS, hb.block b hz⟩

set_option maxRecDepth 4000 in
set_option maxHeartbeats 4000000 in
theorem write_any (hf : SaidWt S G nv tv nms T f) : SaidLt S G nv tv nms T f := by
  intro w ks ao n cp btw least x hG hT hl hbt h0 h2 hx hxl
  obtain ⟨hn, hmx⟩ := hl.len
  subst hn
  have hzb := bl_size btw
  have Hf := hide hf
  have HG := hide hG
  have HT := hide hT
  have HL := hide hl
  have HX : Hid (listA f btw least [] true (ks.drop 0) = some x) := hx
  clear hf hG hT hl hx
  go_enter Tryz.func61, Tryz.ntmps61
  go_wp2_with fail
  go_loopw [9, 14] (fun v i wr => ∃ (k : Nat) (acc : List UInt8), k ≤ ks.length ∧ v = .string (bl acc) ∧ i = .int .i64 k ∧ acc.length ≤ x.length ∧ Hid (listA f btw least acc (decide (k = 0)) (ks.drop k) = some x) ∧ Hid (Below w.heap.size w wr)) (fun _ i _ => ks.length - (intOf i).toNat)
  case atStart => exact ⟨0, [], Nat.zero_le _, rfl, rfl, by simp, HX, Below.refl _ _⟩
  case round =>
    obtain ⟨k, acc, hk, rfl, rfl, hal, HX', HB⟩ := hrel
    have hza := bl_size acc
    by_cases hlt : k < ks.length
    · have hd : ks.drop k = ks[k] :: ks.drop (k + 1) := List.drop_eq_getElem_cons hlt
      have hr' := unhide HX'
      rw [hd] at hr'
      obtain ⟨y, hy, hrest, hlen⟩ := listA_cons hr'
      obtain ⟨g, rfl, hg, hcp, hc⟩ := ((unhide HL).below (unhide HB)).at k hlt
      have hyl : y.length ≤ x.length := by simp only [List.length_append] at hlen; omega
      have hzy := bl_size y
      have HC := hide (unhide Hf wr ks[k] least y ((unhide HG).below (unhide HB)) ((unhide HT).below (unhide HB)) h0 h2 hy (by omega))
      have HR := hide hrest
      generalize ks[k] = i at *
      clear hd hr' hy hrest
      by_cases hk0 : k = 0
      · subst hk0
        rw [decide_eq_true rfl, if_pos rfl, List.append_nil] at HR
        rw [decide_eq_true rfl, if_pos rfl, List.append_nil] at hlen
        go_wp2_with fail
        go_at_call 22
        refine (unhide HC).mono ?_
        rintro e w2 ⟨rfl, hb2⟩
        have HB2 := hide ((unhide HB).trans (hb2.mono (unhide HB).size))
        clear hb2
        go_wp2_with fail
        go_roundw
        case rel => exact ⟨0 + 1, acc ++ y, by omega, by rw [← bl_app], by go_num, hlen, HR, HB2⟩
        case measure => simp [intOf]; omega
      · have hkp : (0 : Int) < k := by omega
        rw [decide_eq_false hk0, if_neg (by simp)] at HR
        rw [decide_eq_false hk0, if_neg (by simp)] at hlen
        have hl2 : acc.length + btw.length + y.length ≤ x.length := by simp only [List.length_append] at hlen; omega
        go_wp2_with fail
        go_at_call 22
        refine (unhide HC).mono ?_
        rintro e w2 ⟨rfl, hb2⟩
        have HB2 := hide ((unhide HB).trans (hb2.mono (unhide HB).size))
        clear hb2
        go_wp2_with fail
        go_roundw
        case rel => exact ⟨k + 1, acc ++ btw ++ y, by omega, by rw [← bl_app, ← bl_app], by go_num, hlen, by have := unhide HR; rw [decide_eq_false (by omega)]; exact this, HB2⟩
        case measure => simp [intOf]; omega
    · have hr' := unhide HX'
      rw [List.drop_eq_nil_of_le (by omega)] at hr'
      have e : acc = x := by injection hr'
      clear hr'
      subst e
      go_wp2
      go_ret
      exact ⟨rfl, unhide HB⟩
end
end Go.Proofs.YtbojcemamhiodabGreatDoor
