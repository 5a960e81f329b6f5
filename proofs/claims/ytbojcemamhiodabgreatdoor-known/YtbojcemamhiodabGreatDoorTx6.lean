import Derived.Test.YtbojcemamhiodabGreatDoorTx5
namespace Go.Proofs.YtbojcemamhiodabGreatDoor
open Go.RowKit

section
variable {S : Nat → Prop} {G : Nat} {nv tv : Value} {nms : List ByteArray} {T : List Tm}

set_option maxRecDepth 4000 in
set_option maxHeartbeats 1000000 in
theorem writeTerm_any (htx : ∀ t ∈ T, t.text.size ≤ 400) (F : Nat) (hf : SaidWt S G nv tv nms T (termT T F)) : SaidWt S G nv tv nms T (termT T (F + 1)) := by
  intro w i least x hG hT h0 h2 hx hxl
  obtain ⟨c0, c1, hlt⟩ := hG.cells
  rw [termT] at hx
  by_cases hi : i < 0 ∨ (T.length : Int) ≤ i
  · rw [if_pos hi] at hx
    have hx' : [] = x := by injection hx
    subst hx'
    obtain ⟨ao, cp, rfl⟩ := hG.shape
    have hd : decide (i < 0) = true ∨ (decide (i < 0) = false ∧ decide ((T.length : Int) ≤ i) = true) := by
      by_cases h : i < 0
      · exact .inl (by simpa using h)
      · exact .inr ⟨by simpa using h, by simp; omega⟩
    clear hG hT hf hi hx htx
    rcases hd with hd | ⟨hd, hd2⟩
    all_goals
      go_enter Tryz.func22, Tryz.ntmps22
      go_wp2
      go_ret
      exact ⟨rfl, Below.refl _ _⟩
  · rw [if_neg hi] at hx
    obtain ⟨k, rfl⟩ : ∃ k : Nat, i = k := ⟨i.toNat, by omega⟩
    have hk : k < T.length := by omega
    rw [Int.toNat_natCast, List.getElem?_eq_getElem hk] at hx
    dsimp only at hx
    obtain ⟨y, hy, hxy⟩ := obindT hx
    have hxy' : (if lvlK T[k].kind < least then 40 :: y ++ [41] else y) = x := by injection hxy
    have hyl : y.length ≤ x.length := by
      rw [← hxy']
      split <;> simp <;> omega
    obtain ⟨g, cp, ao, n', cp', hsh, hcp, hg, hkid, t0, t1, t2⟩ := hG.term k hk
    have ht := htx T[k] (List.getElem_mem hk)
    have hA : Below w.heap.size w (w.alloc (.cells #[.int .i64 T[k].kind, .string T[k].text, .slice ao n' cp'] 80)) := (Below.refl _ _).alloc (Nat.le_refl _) _
    have HC := hide (bare_any (write_any hf) _ T[k] ao n' cp' y (hG.below hA) (hT.below hA) (hkid.below hA) ht hy (by omega))
    have HBX := hide (fun (w2 : World) (hb2 : Below (w.alloc (.cells #[.int .i64 T[k].kind, .string T[k].text, .slice ao n' cp'] 80)).heap.size (w.alloc (.cells #[.int .i64 T[k].kind, .string T[k].text, .slice ao n' cp'] 80)) w2) => three_t (below_keep hb2 (heap_alloc_new w _) (Nat.le_refl _)))
    have HA := hide hA
    have hkI : (k : Int) < T.length := by omega
    have hzy := bl_size y
    subst hsh
    have hlv : 0 ≤ lvlK T[k].kind ∧ lvlK T[k].kind ≤ 2 := by unfold lvlK; split <;> (try split) <;> omega
    have HLV := hide (fun w : World => levelOf_any T[k].kind w)
    generalize T[k] = t at *
    clear hG hT hf hi hx hxy hy hkid ht hA htx
    by_cases hle : lvlK t.kind < least
    · rw [if_pos hle] at hxy'
      have HX : Hid (bl x = ⟨#[40]⟩ ++ bl y ++ ⟨#[41]⟩) := by
        rw [← hxy', ← bl_app, cons_bl]
        rfl
      generalize lvlK t.kind = lv at *
      clear hxy'
      go_enter Tryz.func22, Tryz.ntmps22
      go_wp2_with fail
      go_at_call 35
      refine (unhide HC).mono ?_
      rintro e w2 ⟨rfl, hb2⟩
      obtain ⟨y0, y1, y2, yf, hy⟩ := unhide HBX w2 hb2
      have HB := hide ((unhide HA).trans (hb2.mono (unhide HA).size))
      clear hb2
      go_wp2_with fail
      go_at_call 36
      refine (unhide HLV _).mono ?_
      rintro e w3 ⟨rfl, hw⟩
      replace hw := hw.symm
      subst hw
      go_wp2
      go_ret
      exact ⟨by rw [unhide HX]; rfl, unhide HB⟩
    · rw [if_neg hle] at hxy'
      subst hxy'
      generalize lvlK t.kind = lv at *
      go_enter Tryz.func22, Tryz.ntmps22
      go_wp2_with fail
      go_at_call 35
      refine (unhide HC).mono ?_
      rintro e w2 ⟨rfl, hb2⟩
      obtain ⟨y0, y1, y2, yf, hy⟩ := unhide HBX w2 hb2
      have HB := hide ((unhide HA).trans (hb2.mono (unhide HA).size))
      clear hb2
      go_wp2_with fail
      go_at_call 36
      refine (unhide HLV _).mono ?_
      rintro e w3 ⟨rfl, hw⟩
      replace hw := hw.symm
      subst hw
      go_wp2
      go_ret
      exact ⟨rfl, unhide HB⟩
theorem writeTerm_all (htx : ∀ t ∈ T, t.text.size ≤ 400) (F : Nat) : SaidWt S G nv tv nms T (termT T F) := by
  induction F with
  | zero => intro w i least x _ _ _ _ h; cases h
  | succ F ih => exact writeTerm_any htx F ih

def rulesA (T : List Tm) (F : Nat) : List UInt8 → List ByteArray → Nat → Option (List UInt8)
  | acc, [], _ => some acc
  | acc, nm :: l, k => (termT T F k 0).bind fun x => rulesA T F (acc ++ (nm.data.toList ++ [32, 60, 45, 32] ++ x ++ [10])) l (k + 1)
theorem rulesA_len (F : Nat) : ∀ (l : List ByteArray) (acc : List UInt8) (k : Nat) (r : List UInt8), rulesA T F acc l k = some r → acc.length ≤ r.length
  | [], acc, k, r, h => by injection h with h; subst h; exact Nat.le_refl _
  | nm :: l, acc, k, r, h => by
    unfold rulesA at h
    obtain ⟨x, _, h⟩ := obindT h
    have := rulesA_len F l _ _ r h
    simp only [List.length_append] at this
    omega
theorem Gm.name {w : World} (h : Gm w S G nv tv nms T) (k : Nat) (hk : k < nms.length) : ∃ g cp, nv = .slice (some ⟨g, 0, none⟩) nms.length cp ∧ nms.length ≤ cp ∧ g < w.heap.size ∧ w.cell? ⟨g, k, none⟩ = some (.string nms[k]) := by
  rcases h.names.2 with ⟨_, hz⟩ | ⟨g, cap, cur, hv, hS, hh, hle, hcm, hcs, ht⟩
  · omega
  · refine ⟨g, cap, hv, hle, (Array.getElem?_eq_some_iff.1 hh).1, ?_⟩
    have h1 : (nms.map Value.string)[k]? = some (.string nms[k]) := by simp [hk]
    rw [← ht, List.getElem?_take, if_pos (by omega)] at h1
    simpa [World.cell?, hh] using h1
theorem Gm.nshape {w : World} (h : Gm w S G nv tv nms T) : ∃ ao cp, nv = .slice ao nms.length cp := by
  rcases h.names.2 with ⟨e, hz⟩ | ⟨g, cap, cur, e, _⟩
  · exact ⟨none, 0, by rw [e, hz]⟩
  · exact ⟨_, _, e⟩

set_option maxRecDepth 4000 in
set_option maxHeartbeats 1000000 in
theorem Text_any (htx : ∀ t ∈ T, t.text.size ≤ 400) (hn2 : nms.length ≤ 100000) (F : Nat) (w : World) (x : List UInt8) (hG : Gm w S G nv tv nms T) (hT : Tab w) (hx : rulesA T F [] nms 0 = some x) (hxl : x.length ≤ 1099511627776) :
    Calls Tryz.prog 13 #[.pointer (some ⟨G, 0, none⟩)] w fun e w' => e = .returned (.string (bl x)) ∧ Below w.heap.size w w' := by
  obtain ⟨c0, c1, hlt⟩ := hG.cells
  obtain ⟨aon, cpn, rfl⟩ := hG.nshape
  have HG := hide hG
  have HT := hide hT
  have HF := hide (writeTerm_all (S := S) (G := G) (nv := .slice aon nms.length cpn) (tv := tv) (nms := nms) htx F)
  have HX : Hid (rulesA T F [] (nms.drop 0) 0 = some x) := hx
  clear hG hT hx htx
  go_enter Tryz.func13, Tryz.ntmps13
  go_wp2_with fail
  go_loopw [3, 14] (fun v i wr => ∃ (k : Nat) (acc : List UInt8), k ≤ nms.length ∧ v = .string (bl acc) ∧ i = .int .i64 k ∧ acc.length ≤ x.length ∧ Hid (rulesA T F acc (nms.drop k) k = some x) ∧ Hid (Below w.heap.size w wr)) (fun _ i _ => nms.length - (intOf i).toNat)
  case atStart => exact ⟨0, [], Nat.zero_le _, rfl, rfl, by simp, HX, Below.refl _ _⟩
  case round =>
    obtain ⟨k, acc, hk, rfl, rfl, hal, HX', HB⟩ := hrel
    have hza := bl_size acc
    by_cases hltk : k < nms.length
    · have hd : nms.drop k = nms[k] :: nms.drop (k + 1) := List.drop_eq_getElem_cons hltk
      have hr' := unhide HX'
      rw [hd] at hr'
      unfold rulesA at hr'
      obtain ⟨y, hy, hrest⟩ := obindT hr'
      have hlen := rulesA_len F _ _ _ _ hrest
      obtain ⟨g, cp, hnv, hcp, hg, hc⟩ := ((unhide HG).below (unhide HB)).name k hltk
      injection hnv with e1 e2 e3
      subst e1
      subst e3
      clear e2
      have hzy := bl_size y
      have hll : acc.length + nms[k].size + y.length + 5 ≤ x.length := by
        have hnz : nms[k].size = nms[k].data.toList.length := rfl
        simp only [List.length_append, List.length_cons, List.length_nil] at hlen
        omega
      have Hlen := hide hlen
      clear hlen
      have HC := hide (unhide HF wr k 0 y ((unhide HG).below (unhide HB)) ((unhide HT).below (unhide HB)) (by omega) (by omega) hy (by omega))
      have HE : Hid (bl (acc ++ (nms[k].data.toList ++ [32, 60, 45, 32] ++ y ++ [10])) = bl acc ++ (nms[k] ++ ⟨#[32, 60, 45, 32]⟩ ++ bl y ++ ⟨#[10]⟩)) := by
        rw [← bl_app, ← bl_app, ← bl_app, ← bl_app, bl_of]
        rfl
      have HR := hide hrest
      generalize nms[k] = nm at *
      clear hd hr' hy hrest
      go_wp2_with fail
      go_at_call 22
      refine (unhide HC).mono ?_
      rintro e w2 ⟨rfl, hb2⟩
      have HB2 := hide ((unhide HB).trans (hb2.mono (unhide HB).size))
      clear hb2
      go_wp2_with fail
      go_roundw
      case rel => exact ⟨k + 1, _, by omega, by rw [unhide HE], by go_num, unhide Hlen, HR, HB2⟩
      case measure => simp [intOf] <;> omega
    · have hr' := unhide HX'
      rw [List.drop_eq_nil_of_le (by omega)] at hr'
      have e : acc = x := by injection hr'
      clear hr'
      subst e
      go_wp2
      go_ret
      exact ⟨rfl, unhide HB⟩
end
end Go.Proofs.YtbojcemamhiodabGreatDoor
