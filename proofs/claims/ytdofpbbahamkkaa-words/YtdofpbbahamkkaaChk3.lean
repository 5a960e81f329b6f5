import Derived.Test.YtdofpbbahamkkaaChk2
namespace Go.Proofs.Ytdofpbbahamkkaa
open Go.RowKit

def SaidY (S : Nat → Prop) (c g cap : Nat) (rs : List Rl) (F : Nat) : Prop := ∀ w ts ao nk cp, Ck w S c g cap rs → IsK w S F (.slice ao nk cp) ts →
  Calls Try.prog 80 #[.pointer (some ⟨c, 0, none⟩), .slice ao nk cp] w fun e w' => e = .returned (.bool (ts.any (mayE rs F))) ∧ Below w.heap.size w w'

set_option maxHeartbeats 1000000 in
theorem anyEmpty_step (S : Nat → Prop) (c g cap : Nat) (rs : List Rl) (F : Nat) (hM : SaidM S c g cap rs F) : SaidY S c g cap rs (F + 1) := by
  intro w ts ao nk cp hc hk
  have hl := hk.maxlen
  have hln := hk.len
  subst hln
  have Hc := hide hc
  have Hk := hide hk
  have HM := hide hM
  clear hc hk hM
  go_enter Try.func80, Try.ntmps80
  go_wp2
  go_loopw [10] (fun i wr => ∃ k : Nat, k ≤ ts.length ∧ i = .int .i64 k ∧ Hid (ts.any (mayE rs (F + 1)) = (ts.drop k).any (mayE rs (F + 1))) ∧ Hid (Below w.heap.size w wr)) (fun i _ => ts.length - (intOf i).toNat)
  case atStart => exact ⟨0, Nat.zero_le _, rfl, rfl, Below.refl _ _⟩
  case round =>
    obtain ⟨k, hk, rfl, HS, HB⟩ := hrel
    by_cases hlt2 : k < ts.length
    · have hi : ts[k]? = some ts[k] := List.getElem?_eq_getElem hlt2
      obtain ⟨g', rfl, hg', hcp, ao', n', cp', hk', a0, a1, a2, a3⟩ := ((unhide Hk).below (unhide HB)).at k _ hi
      have hd : ts.drop k = ts[k] :: ts.drop (k + 1) := List.drop_eq_getElem_cons hlt2
      have hzb := (unhide HB).size
      have Hk' := hide hk'
      clear hk'
      cases hx : mayE rs (F + 1) ts[k]
      · have HE : Hid (ts.any (mayE rs (F + 1)) = (ts.drop (k + 1)).any (mayE rs (F + 1))) := by
          refine (unhide HS).trans ?_
          rw [hd, List.any_cons, hx]; rfl
        have Hx := hide hx
        clear hd hi hx
        go_wp2_with (go_at_call 50; refine (unhide HM _ _ _ _ _ (((unhide Hc).below (unhide HB)).alloc _) ((unhide Hk').below ((Below.refl _ _).alloc (Nat.le_refl _) _))).mono ?_; rintro e w' ⟨rfl, hb'⟩; rw [unhide Hx])
        go_roundw
        case rel => exact ⟨k + 1, by omega, by go_num, HE, ((unhide HB).alloc (by omega) _).trans (hb'.mono (by simp; omega))⟩
        case measure => simp [intOf]; omega
      · have HE : Hid (ts.any (mayE rs (F + 1)) = true) := by
          refine (unhide HS).trans ?_
          rw [hd, List.any_cons, hx]; rfl
        have Hx := hide hx
        clear hd hi hx
        go_wp2_with (go_at_call 50; refine (unhide HM _ _ _ _ _ (((unhide Hc).below (unhide HB)).alloc _) ((unhide Hk').below ((Below.refl _ _).alloc (Nat.le_refl _) _))).mono ?_; rintro e w' ⟨rfl, hb'⟩; rw [unhide Hx])
        go_ret
        exact ⟨ret_bool (unhide HE).symm, ((unhide HB).alloc (by omega) _).trans (hb'.mono (by simp; omega))⟩
    · have HE : Hid (ts.any (mayE rs (F + 1)) = false) := by
        refine (unhide HS).trans ?_
        rw [List.drop_eq_nil_of_le (by omega)]; rfl
      go_wp2
      go_ret
      exact ⟨ret_bool (unhide HE).symm, unhide HB⟩

set_option maxHeartbeats 1000000 in
theorem allEmpty_zero (S : Nat → Prop) (c g cap : Nat) (rs : List Rl) : SaidA S c g cap rs 0 := by
  intro w ts ao nk cp hc hk
  obtain ⟨h1, rfl⟩ := hk
  injection h1 with e1 e2 e3
  subst e1 e2 e3
  go_enter Try.func79, Try.ntmps79
  go_wp2
  go_loopw [10] (fun i wr => i = .int .i64 0 ∧ wr = w) (fun i _ => 0)
  case atStart => exact ⟨rfl, rfl⟩
  case round =>
    obtain ⟨rfl, rfl⟩ := hrel
    go_wp2
    go_ret
    exact ⟨rfl, Below.refl _ _⟩
set_option maxHeartbeats 1000000 in
theorem anyEmpty_zero (S : Nat → Prop) (c g cap : Nat) (rs : List Rl) : SaidY S c g cap rs 0 := by
  intro w ts ao nk cp hc hk
  obtain ⟨h1, rfl⟩ := hk
  injection h1 with e1 e2 e3
  subst e1 e2 e3
  go_enter Try.func80, Try.ntmps80
  go_wp2
  go_loopw [10] (fun i wr => i = .int .i64 0 ∧ wr = w) (fun i _ => 0)
  case atStart => exact ⟨rfl, rfl⟩
  case round =>
    obtain ⟨rfl, rfl⟩ := hrel
    go_wp2
    go_ret
    exact ⟨rfl, Below.refl _ _⟩

theorem emptyAt_of {rs : List Rl} {i : Nat} {r : Rl} (h : rs[i]? = some r) : emptyAt rs i = r.empty := by simp [emptyAt, h]

set_option maxHeartbeats 4000000 in
theorem mayBeEmpty_step (S : Nat → Prop) (c g cap : Nat) (rs : List Rl) (F : Nat) (hA : SaidA S c g cap rs F) (hY : SaidY S c g cap rs F)
    (w : World) (n : Nd) (ao : Option Addr) (nk cp : Nat) (hc : Ck w S c g cap rs) (hk : IsK w S F (.slice ao nk cp) n.kids) :
    Calls Try.prog 50 #[.pointer (some ⟨c, 0, none⟩), .agg #[.int .i64 n.kind, .int .i64 n.at_, .string n.text, .slice ao nk cp]] w fun e w' => e = .returned (.bool (mayE rs (F + 1) n)) ∧ Below w.heap.size w w' := by
  obtain ⟨cc, hlt⟩ := hc.cells
  have hn := hc.few
  have hltg := hc.row.lt
  have Hc := hide hc
  have HA := hide hA
  have HY := hide hY
  have Hk := hide hk
  clear hc hA hY hk
  by_cases h0 : n.kind = 0
  · have HE : Hid (mayE rs (F + 1) n = (n.text.toList.isEmpty)) := by rw [mayE, if_pos h0]; rfl
    have b0 : (n.kind == 0) = true := by simp [h0]
    clear h0
    go_enter Try.func50, Try.ntmps50
    go_wp2
    go_ret
    exact ⟨ret_bool (unhide HE).symm, (Below.refl _ _).alloc (Nat.le_refl _) _⟩
  · have b0 : (n.kind == 0) = false := by simp [h0]
    by_cases h2 : n.kind = 2
    · have b2 : (n.kind == 2) = true := by simp [h2]
      have HE : Hid (mayE rs (F + 1) n = (decide (0 ≤ findF rs n.text) && emptyAt rs (findF rs n.text))) := by rw [mayE, if_neg h0, if_pos h2]; rfl
      have hfr := findF_range rs n.text
      clear h0 h2
      rcases hfr with hfr | ⟨hfr, hfr'⟩
      · have HE' : Hid (mayE rs (F + 1) n = false) := by rw [unhide HE, hfr]; rfl
        have hneg : findF rs n.text < 0 := by omega
        clear hfr
        go_enter Try.func50, Try.ntmps50
        go_wp2_with fail
        go_region_held3 (fun w' => w'.cell? ⟨c, 0, none⟩ = some (.slice (some ⟨g, 0, none⟩) rs.length cap) ∧ w'.cell? ⟨w.heap.size, 2, none⟩ = some (.string n.text)) (go_keep)
          (first | (go_at_call 48; refine (find_any _ _ _ _ _ _ ((unhide Hc).alloc _).drew.row hn).mono ?_; rintro e w4 ⟨rfl, hb4⟩; have hb5 := hide (below_drew hb4); clear hb4; obtain ⟨z0, hz0⟩ := (((unhide Hc).alloc _).below (unhide hb5)).cells; obtain ⟨y0, y1, y2, y3, yf, hy⟩ := four (below_keep (unhide hb5) (heap_alloc_new w _) (Nat.le_refl _))))
        go_wp2
        go_ret
        exact ⟨ret_bool (unhide HE').symm, ((Below.refl _ _).alloc (Nat.le_refl _) _).trans ((unhide hb5).mono (by simp))⟩
      · obtain ⟨i, hi⟩ : ∃ i : Nat, findF rs n.text = i := ⟨(findF rs n.text).toNat, by omega⟩
        have hil : i < rs.length := by omega
        have hir : rs[i]? = some rs[i] := List.getElem?_eq_getElem hil
        have HE' := hide (show mayE rs (F + 1) n = rs[i].empty from by rw [unhide HE, hi, emptyAt_of hir]; simp)
        have Hi := hide hi
        clear hfr hfr' hi
        go_enter Try.func50, Try.ntmps50
        go_wp2_with fail
        go_region_held3 (fun w' => w'.cell? ⟨c, 0, none⟩ = some (.slice (some ⟨g, 0, none⟩) rs.length cap) ∧ w'.cell? ⟨w.heap.size, 2, none⟩ = some (.string n.text)) (go_keep)
          (first | (go_at_call 48; refine (find_any _ _ _ _ _ _ ((unhide Hc).alloc _).drew.row hn).mono ?_; rintro e w4 ⟨rfl, hb4⟩; rw [unhide Hi]; have hb5 := hide (below_drew hb4); clear hb4; obtain ⟨z0, hz0⟩ := (((unhide Hc).alloc _).below (unhide hb5)).cells; obtain ⟨y0, y1, y2, y3, yf, hy⟩ := four (below_keep (unhide hb5) (heap_alloc_new w _) (Nat.le_refl _))))
        obtain ⟨ao2, n2, cp2, _, a0, a1, a2, a3, a4, a6, a7, a8, _⟩ := (((unhide Hc).alloc _).below (unhide hb5)).row.at i _ hir
        go_wp2
        go_ret
        exact ⟨ret_bool (unhide HE').symm, ((Below.refl _ _).alloc (Nat.le_refl _) _).trans ((unhide hb5).mono (by simp))⟩
    · have b2 : (n.kind == 2) = false := by simp [h2]
      by_cases h3 : n.kind = 3 ∨ n.kind = 7 ∨ n.kind = 8 ∨ n.kind = 9 ∨ n.kind = 11
      · have HE : Hid (mayE rs (F + 1) n = true) := by rw [mayE, if_neg h0, if_neg h2, if_pos h3]; rfl
        clear h0 h2
        rcases h3 with h3 | h3 | h3 | h3 | h3
        all_goals
          go_enter Try.func50, Try.ntmps50
          go_wp2
          go_ret
          exact ⟨ret_bool (unhide HE).symm, (Below.refl _ _).alloc (Nat.le_refl _) _⟩
      · by_cases h4 : n.kind = 10 ∨ n.kind = 4 ∨ n.kind = 5
        · have HE : Hid (mayE rs (F + 1) n = n.kids.all (mayE rs F)) := by rw [mayE, if_neg h0, if_neg h2, if_neg h3, if_pos h4]; rfl
          clear h0 h2 h3
          rcases h4 with h4 | h4 | h4
          all_goals
            go_enter Try.func50, Try.ntmps50
            go_wp2_with (go_at_call 79; refine (unhide HA _ _ _ _ _ ((unhide Hc).alloc _) ((unhide Hk).below ((Below.refl _ _).alloc (Nat.le_refl _) _))).mono ?_; rintro e w' ⟨rfl, hb'⟩)
            go_ret
            exact ⟨ret_bool (unhide HE).symm, ((Below.refl _ _).alloc (Nat.le_refl _) _).trans (hb'.mono (by simp))⟩
        · have c3 : (n.kind == 3) = false := by simp; omega
          have c7 : (n.kind == 7) = false := by simp; omega
          have c8 : (n.kind == 8) = false := by simp; omega
          have c9 : (n.kind == 9) = false := by simp; omega
          have c11 : (n.kind == 11) = false := by simp; omega
          have c10 : (n.kind == 10) = false := by simp; omega
          have c4 : (n.kind == 4) = false := by simp; omega
          have c5 : (n.kind == 5) = false := by simp; omega
          by_cases h6 : n.kind = 6
          · have HE : Hid (mayE rs (F + 1) n = n.kids.any (mayE rs F)) := by rw [mayE, if_neg h0, if_neg h2, if_neg h3, if_neg h4, if_pos h6]; rfl
            have c6 : (n.kind == 6) = true := by simp [h6]
            clear h0 h2 h3 h4 h6
            go_enter Try.func50, Try.ntmps50
            go_wp2_with (go_at_call 80; refine (unhide HY _ _ _ _ _ ((unhide Hc).alloc _) ((unhide Hk).below ((Below.refl _ _).alloc (Nat.le_refl _) _))).mono ?_; rintro e w' ⟨rfl, hb'⟩)
            go_ret
            exact ⟨ret_bool (unhide HE).symm, ((Below.refl _ _).alloc (Nat.le_refl _) _).trans (hb'.mono (by simp))⟩
          · have HE : Hid (mayE rs (F + 1) n = false) := by rw [mayE, if_neg h0, if_neg h2, if_neg h3, if_neg h4, if_neg h6]; rfl
            have c6 : (n.kind == 6) = false := by simp [h6]
            clear h0 h2 h3 h4 h6
            go_enter Try.func50, Try.ntmps50
            go_wp2
            go_ret
            exact ⟨ret_bool (unhide HE).symm, (Below.refl _ _).alloc (Nat.le_refl _) _⟩
theorem mayBeEmpty_all (S : Nat → Prop) (c g cap : Nat) (rs : List Rl) : ∀ F, SaidM S c g cap rs F ∧ SaidA S c g cap rs F ∧ SaidY S c g cap rs F
  | 0 => ⟨fun w n ao nk cp hc hk => mayBeEmpty_step S c g cap rs 0 (allEmpty_zero S c g cap rs) (anyEmpty_zero S c g cap rs) w n ao nk cp hc hk, allEmpty_zero S c g cap rs, anyEmpty_zero S c g cap rs⟩
  | F + 1 =>
    have h := mayBeEmpty_all S c g cap rs F
    have hA := allEmpty_step S c g cap rs F h.1
    have hY := anyEmpty_step S c g cap rs F h.1
    ⟨fun w n ao nk cp hc hk => mayBeEmpty_step S c g cap rs (F + 1) hA hY w n ao nk cp hc hk, hA, hY⟩
end Go.Proofs.Ytdofpbbahamkkaa
