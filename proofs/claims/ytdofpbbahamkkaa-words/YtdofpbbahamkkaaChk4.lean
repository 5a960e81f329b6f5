import Derived.Test.YtdofpbbahamkkaaChk3
namespace Go.Proofs.Ytdofpbbahamkkaa
open Go.RowKit

theorem below_drewN' {n : Nat} {a b : World} (h : Below n a b) (k : Nat) : Below n a (b.drewN k) := ⟨h.os, h.tape, h.output, h.size, h.block⟩

def firstL (f : Nd → Int) : List Nd → Int
  | [] => -1
  | t :: ts => if (f t != -1) = true then f t else firstL f ts

def unkN (rs : List Rl) : Nat → Nd → Int
  | 0, _ => -1
  | F + 1, n => if n.kind = 2 ∧ findF rs n.text < 0 then n.at_ else firstL (unkN rs F) n.kids

def SaidU (S : Nat → Prop) (c g cap : Nat) (rs : List Rl) (F : Nat) : Prop := ∀ w n ao nk cp, Ck w S c g cap rs → IsK w S F (.slice ao nk cp) n.kids →
  Calls Try.prog 49 #[.pointer (some ⟨c, 0, none⟩), .agg #[.int .i64 n.kind, .int .i64 n.at_, .string n.text, .slice ao nk cp]] w fun e w' => e = .returned (.int .i64 (unkN rs (F + 1) n)) ∧ Below w.heap.size w w'

set_option maxHeartbeats 2000000 in
theorem unknownIn_step (S : Nat → Prop) (c g cap : Nat) (rs : List Rl) (F : Nat) (hM : ∀ F', F = F' + 1 → SaidU S c g cap rs F') : SaidU S c g cap rs F := by
  intro w n ao nk cp hc hk
  have hln := hk.len
  subst hln
  have hl := hk.maxlen
  obtain ⟨cc, hlt⟩ := hc.cells
  have hn := hc.few
  have hltg := hc.row.lt
  have Hc := hide hc
  have Hk := hide hk
  have HM := hide hM
  clear hc hk hM
  have hif : (unkN rs (F + 1) n = n.at_ ∧ (n.kind == 2) = true ∧ findF rs n.text < 0) ∨ (unkN rs (F + 1) n = firstL (unkN rs F) n.kids ∧ (n.kind == 2) = true ∧ 0 ≤ findF rs n.text) ∨ (unkN rs (F + 1) n = firstL (unkN rs F) n.kids ∧ (n.kind == 2) = false) := by
    by_cases h2 : n.kind = 2
    · by_cases h3 : findF rs n.text < 0
      · exact .inl ⟨by rw [unkN, if_pos ⟨h2, h3⟩], by simp [h2], h3⟩
      · exact .inr (.inl ⟨by rw [unkN, if_neg (by omega)], by simp [h2], by omega⟩)
    · exact .inr (.inr ⟨by rw [unkN, if_neg (by omega)], by simp [h2]⟩)
  rcases hif with ⟨HE, b2, hf⟩ | ⟨HE, b2, hf⟩ | ⟨HE, b2⟩
  · have HE := hide HE
    go_enter Try.func49, Try.ntmps49
    go_wp2_with fail
    go_region_held3 (fun w' => w'.cell? ⟨c, 0, none⟩ = some (.slice (some ⟨g, 0, none⟩) rs.length cap) ∧ w'.cell? ⟨w.heap.size, 0, none⟩ = some (.int .i64 n.kind) ∧ w'.cell? ⟨w.heap.size, 2, none⟩ = some (.string n.text)) (go_keep)
      (first | (go_at_call 48; refine (find_any _ _ _ _ _ _ ((unhide Hc).alloc _).drew.row hn).mono ?_; rintro e w4 ⟨rfl, hb4⟩; have hb5 := hide (below_drew hb4); clear hb4; obtain ⟨z0, hz0⟩ := (((unhide Hc).alloc _).below (unhide hb5)).cells; obtain ⟨y0, y1, y2, y3, yf, hy⟩ := four (below_keep (unhide hb5) (heap_alloc_new w _) (Nat.le_refl _))))
    go_wp2
    go_ret
    exact ⟨ret_int (unhide HE).symm, ((Below.refl _ _).alloc (Nat.le_refl _) _).trans ((unhide hb5).mono (by simp))⟩
  · have HE := hide HE
    go_enter Try.func49, Try.ntmps49
    go_wp2_with fail
    go_region_held3 (fun w' => w'.cell? ⟨c, 0, none⟩ = some (.slice (some ⟨g, 0, none⟩) rs.length cap) ∧ w'.cell? ⟨w.heap.size, 0, none⟩ = some (.int .i64 n.kind) ∧ w'.cell? ⟨w.heap.size, 2, none⟩ = some (.string n.text)) (go_keep)
      (first | (go_at_call 48; refine (find_any _ _ _ _ _ _ ((unhide Hc).alloc _).drew.row hn).mono ?_; rintro e w4 ⟨rfl, hb4⟩; have hb5 := hide (below_drew hb4); clear hb4; obtain ⟨z0, hz0⟩ := (((unhide Hc).alloc _).below (unhide hb5)).cells; obtain ⟨y0, y1, y2, y3, yf, hy⟩ := four (below_keep (unhide hb5) (heap_alloc_new w _) (Nat.le_refl _))))
    have hW := hide (((Below.refl _ _).alloc (Nat.le_refl _) _).trans ((unhide hb5).mono (by simp)))
    go_wp2_with fail
    go_loopw [26] (fun i wr => ∃ k : Nat, k ≤ n.kids.length ∧ i = .int .i64 k ∧ Hid (unkN rs (F + 1) n = firstL (unkN rs F) (n.kids.drop k)) ∧ Hid (Below w.heap.size w wr)) (fun i _ => n.kids.length - (intOf i).toNat)
    case atStart => exact ⟨0, Nat.zero_le _, rfl, HE, unhide hW⟩
    case round =>
      obtain ⟨k, hk, rfl, HS, HB⟩ := hrel
      by_cases hlt2 : k < n.kids.length
      · have hi : n.kids[k]? = some n.kids[k] := List.getElem?_eq_getElem hlt2
        have hzb := (unhide HB).size
        cases F with
        | zero => have := (unhide Hk).2; rw [this] at hlt2; simp at hlt2
        | succ F =>
          obtain ⟨g', rfl, hg', hcp, ao', n', cp', hk', a0, a1, a2, a3⟩ := ((unhide Hk).below (unhide HB)).at k _ hi
          have hd : n.kids.drop k = n.kids[k] :: n.kids.drop (k + 1) := List.drop_eq_getElem_cons hlt2
          have Hk' := hide hk'
          have HM' := hide (unhide HM F rfl)
          clear hk'
          cases hx : (unkN rs (F + 1) n.kids[k] != -1)
          · have HE : Hid (unkN rs (F + 1 + 1) n = firstL (unkN rs (F + 1)) (n.kids.drop (k + 1))) := by
              refine (unhide HS).trans ?_
              rw [hd, firstL, if_neg (by simp [hx])]
            clear hd hi
            go_wp2_with (go_at_call 49; refine (unhide HM' _ _ _ _ _ (((unhide Hc).below (unhide HB)).alloc _) ((unhide Hk').below ((Below.refl _ _).alloc (Nat.le_refl _) _))).mono ?_; rintro e w' ⟨rfl, hb'⟩)
            go_roundw
            case rel => exact ⟨k + 1, by omega, by go_num, HE, ((unhide HB).alloc (by omega) _).trans (hb'.mono (by simp; omega))⟩
            case measure => simp [intOf]; omega
          · have HE : Hid (unkN rs (F + 1 + 1) n = unkN rs (F + 1) n.kids[k]) := by
              refine (unhide HS).trans ?_
              rw [hd, firstL, if_pos hx]
            clear hd hi
            go_wp2_with (go_at_call 49; refine (unhide HM' _ _ _ _ _ (((unhide Hc).below (unhide HB)).alloc _) ((unhide Hk').below ((Below.refl _ _).alloc (Nat.le_refl _) _))).mono ?_; rintro e w' ⟨rfl, hb'⟩)
            go_ret
            exact ⟨ret_int (unhide HE).symm, ((unhide HB).alloc (by omega) _).trans (hb'.mono (by simp; omega))⟩
      · have HE : Hid (unkN rs (F + 1) n = -1) := by
          refine (unhide HS).trans ?_
          rw [List.drop_eq_nil_of_le (by omega)]; rfl
        go_wp2
        go_ret
        exact ⟨ret_int (unhide HE).symm, unhide HB⟩
  · have HE := hide HE
    go_enter Try.func49, Try.ntmps49
    go_wp2_with fail
    go_quiet (fail)
    have hW := hide (below_drewN' ((Below.refl w.heap.size w).alloc (Nat.le_refl _) (.cells #[.int .i64 n.kind, .int .i64 n.at_, .string n.text, .slice ao n.kids.length cp] 81)) nq)
    go_wp2_with fail
    go_loopw [26] (fun i wr => ∃ k : Nat, k ≤ n.kids.length ∧ i = .int .i64 k ∧ Hid (unkN rs (F + 1) n = firstL (unkN rs F) (n.kids.drop k)) ∧ Hid (Below w.heap.size w wr)) (fun i _ => n.kids.length - (intOf i).toNat)
    case atStart => exact ⟨0, Nat.zero_le _, rfl, HE, unhide hW⟩
    case round =>
      obtain ⟨k, hk, rfl, HS, HB⟩ := hrel
      by_cases hlt2 : k < n.kids.length
      · have hi : n.kids[k]? = some n.kids[k] := List.getElem?_eq_getElem hlt2
        have hzb := (unhide HB).size
        cases F with
        | zero => have := (unhide Hk).2; rw [this] at hlt2; simp at hlt2
        | succ F =>
          obtain ⟨g', rfl, hg', hcp, ao', n', cp', hk', a0, a1, a2, a3⟩ := ((unhide Hk).below (unhide HB)).at k _ hi
          have hd : n.kids.drop k = n.kids[k] :: n.kids.drop (k + 1) := List.drop_eq_getElem_cons hlt2
          have Hk' := hide hk'
          have HM' := hide (unhide HM F rfl)
          clear hk'
          cases hx : (unkN rs (F + 1) n.kids[k] != -1)
          · have HE : Hid (unkN rs (F + 1 + 1) n = firstL (unkN rs (F + 1)) (n.kids.drop (k + 1))) := by
              refine (unhide HS).trans ?_
              rw [hd, firstL, if_neg (by simp [hx])]
            clear hd hi
            go_wp2_with (go_at_call 49; refine (unhide HM' _ _ _ _ _ (((unhide Hc).below (unhide HB)).alloc _) ((unhide Hk').below ((Below.refl _ _).alloc (Nat.le_refl _) _))).mono ?_; rintro e w' ⟨rfl, hb'⟩)
            go_roundw
            case rel => exact ⟨k + 1, by omega, by go_num, HE, ((unhide HB).alloc (by omega) _).trans (hb'.mono (by simp; omega))⟩
            case measure => simp [intOf]; omega
          · have HE : Hid (unkN rs (F + 1 + 1) n = unkN rs (F + 1) n.kids[k]) := by
              refine (unhide HS).trans ?_
              rw [hd, firstL, if_pos hx]
            clear hd hi
            go_wp2_with (go_at_call 49; refine (unhide HM' _ _ _ _ _ (((unhide Hc).below (unhide HB)).alloc _) ((unhide Hk').below ((Below.refl _ _).alloc (Nat.le_refl _) _))).mono ?_; rintro e w' ⟨rfl, hb'⟩)
            go_ret
            exact ⟨ret_int (unhide HE).symm, ((unhide HB).alloc (by omega) _).trans (hb'.mono (by simp; omega))⟩
      · have HE : Hid (unkN rs (F + 1) n = -1) := by
          refine (unhide HS).trans ?_
          rw [List.drop_eq_nil_of_le (by omega)]; rfl
        go_wp2
        go_ret
        exact ⟨ret_int (unhide HE).symm, unhide HB⟩

theorem unknownIn_all (S : Nat → Prop) (c g cap : Nat) (rs : List Rl) : ∀ F, SaidU S c g cap rs F
  | 0 => unknownIn_step S c g cap rs 0 fun F' h => by omega
  | F + 1 => unknownIn_step S c g cap rs (F + 1) fun F' h => by
    have : F' = F := by omega
    rw [this]
    exact unknownIn_all S c g cap rs F
end Go.Proofs.Ytdofpbbahamkkaa
