import Derived.Test.YtdofpbbahamkkaaChk9
namespace Go.Proofs.Ytdofpbbahamkkaa
open Go.RowKit

def orI (a b : Int) : Int := bits .or .i64 a b
def beginsAt (rs : List Rl) (i : Int) : Int := match rs[i.toNat]? with | some r => r.begins | none => 0
theorem beginsAt_of {rs : List Rl} {i : Nat} {r : Rl} (h : rs[i]? = some r) : beginsAt rs i = r.begins := by simp [beginsAt, h]

def begL (f : Nd → Int) (e : Nd → Bool) (row : Bool) : List Nd → Int → Int
  | [], s => s
  | t :: ts, s => if row = true then (if e t = true then begL f e row ts (orI s (f t)) else orI s (f t)) else begL f e row ts (orI s (f t))
def begN (rs : List Rl) : Nat → Nd → Int
  | 0, _ => 0
  | F + 1, n => if n.kind = 2 then (if findF rs n.text < 0 then 0 else orI (bitI (findF rs n.text)) (beginsAt rs (findF rs n.text))) else begL (begN rs F) (mayE rs F) (n.kind == 5) n.kids 0

def SaidB (S : Nat → Prop) (c g cap : Nat) (rs : List Rl) (F : Nat) : Prop := ∀ w n ao nk cp, Ck w S c g cap rs → IsK w S F (.slice ao nk cp) n.kids →
  Calls Try.prog 51 #[.pointer (some ⟨c, 0, none⟩), .agg #[.int .i64 n.kind, .int .i64 n.at_, .string n.text, .slice ao nk cp]] w fun e w' => e = .returned (.int .i64 (begN rs (F + 1) n)) ∧ Below w.heap.size w w'

set_option maxHeartbeats 4000000 in
theorem mayBegin_step (S : Nat → Prop) (c g cap : Nat) (rs : List Rl) (F : Nat) (hM : ∀ F', F = F' + 1 → SaidB S c g cap rs F') : SaidB S c g cap rs F := by
  intro w n ao nk cp hc hk
  have hln := hk.len
  subst hln
  have hl := hk.maxlen
  obtain ⟨cc, hlt⟩ := hc.cells
  have hn := hc.few
  have hltg := hc.row.lt
  have Hc := hide hc
  have Hk := hide hk
  have HM := hide hM
  clear hc hk hM
  by_cases h2 : n.kind = 2
  · have b2 : (n.kind == 2) = true := by simp [h2]
    rcases findF_range rs n.text with hf | ⟨hf, hf'⟩
    · have HE : Hid (begN rs (F + 1) n = 0) := by rw [begN, if_pos h2, if_pos (by omega)]; rfl
      have hneg : findF rs n.text < 0 := by omega
      clear h2 hf
      go_enter Try.func51, Try.ntmps51
      go_wp2_with fail
      go_region_held3 (fun w' => w'.cell? ⟨c, 0, none⟩ = some (.slice (some ⟨g, 0, none⟩) rs.length cap) ∧ w'.cell? ⟨w.heap.size, 2, none⟩ = some (.string n.text)) (go_keep)
        (first | (go_at_call 48; refine (find_any _ _ _ _ _ _ ((unhide Hc).alloc _).drew.row hn).mono ?_; rintro e w4 ⟨rfl, hb4⟩; have hb5 := hide (below_drew hb4); clear hb4; obtain ⟨z0, hz0⟩ := (((unhide Hc).alloc _).below (unhide hb5)).cells; obtain ⟨y0, y1, y2, y3, yf, hy⟩ := four (below_keep (unhide hb5) (heap_alloc_new w _) (Nat.le_refl _))))
      go_wp2
      go_ret
      exact ⟨ret_int (unhide HE).symm, ((Below.refl _ _).alloc (Nat.le_refl _) _).trans ((unhide hb5).mono (by simp))⟩
    · obtain ⟨i, hi⟩ : ∃ i : Nat, findF rs n.text = i := ⟨(findF rs n.text).toNat, by omega⟩
      have hil : i < rs.length := by omega
      have hir : rs[i]? = some rs[i] := List.getElem?_eq_getElem hil
      have HE := hide (show begN rs (F + 1) n = orI (bitI i) rs[i].begins from by rw [begN, if_pos h2, if_neg (by omega), hi, beginsAt_of hir])
      have Hi := hide hi
      have Hir := hide hir
      clear h2 hf hf' hi hir
      go_enter Try.func51, Try.ntmps51
      go_wp2_with fail
      go_region_held3 (fun w' => w'.cell? ⟨c, 0, none⟩ = some (.slice (some ⟨g, 0, none⟩) rs.length cap) ∧ w'.cell? ⟨w.heap.size, 2, none⟩ = some (.string n.text)) (go_keep)
        (first | (go_at_call 48; refine (find_any _ _ _ _ _ _ ((unhide Hc).alloc _).drew.row hn).mono ?_; rintro e w4 ⟨rfl, hb4⟩; rw [unhide Hi]; have hb5 := hide (below_drew hb4); clear hb4; obtain ⟨z0, hz0⟩ := (((unhide Hc).alloc _).below (unhide hb5)).cells; obtain ⟨y0, y1, y2, y3, yf, hy⟩ := four (below_keep (unhide hb5) (heap_alloc_new w _) (Nat.le_refl _))))
      obtain ⟨ao2, n2, cp2, _, a0, a1, a2, a3, a4, a6, a7, a8, _⟩ := (((unhide Hc).alloc _).below (unhide hb5)).row.at i _ (unhide Hir)
      have hi0 : (0 : Int) ≤ (i : Int) := by omega
      have hi1 : (i : Int) < (rs.length : Int) := by omega
      go_wp2_with fail
      go_region_held3 (fun w' => w'.cell? ⟨c, 0, none⟩ = some (.slice (some ⟨g, 0, none⟩) rs.length cap) ∧ w'.cell? ⟨g, i * 8 + 7, none⟩ = some (.int .i64 rs[i].begins)) (go_keep)
        (first | (go_at_call 52; refine (bit_any _ _ (by omega)).mono ?_; rintro e w6 ⟨rfl, rfl⟩))
      go_wp2
      go_ret
      exact ⟨ret_int (unhide HE).symm, (((Below.refl _ _).alloc (Nat.le_refl _) _).trans ((unhide hb5).mono (by simp))).drew⟩
  · have b2 : (n.kind == 2) = false := by simp [h2]
    have HE : Hid (begN rs (F + 1) n = begL (begN rs F) (mayE rs F) (n.kind == 5) n.kids 0) := by rw [begN, if_neg h2]; rfl
    clear h2
    have hW := hide ((Below.refl w.heap.size w).alloc (Nat.le_refl _) (.cells #[.int .i64 n.kind, .int .i64 n.at_, .string n.text, .slice ao n.kids.length cp] 81))
    have hN := hide (heap_alloc_new w (.cells #[.int .i64 n.kind, .int .i64 n.at_, .string n.text, .slice ao n.kids.length cp] 81))
    go_enter Try.func51, Try.ntmps51
    go_wp2_with fail
    go_loopw [6, 37] (fun v i wr => ∃ (k : Nat) (x : Int), k ≤ n.kids.length ∧ v = .int .i64 x ∧ i = .int .i64 k ∧ Hid (begN rs (F + 1) n = begL (begN rs F) (mayE rs F) (n.kind == 5) (n.kids.drop k) x) ∧ Hid (Below w.heap.size w wr) ∧
        Hid (wr.heap[w.heap.size]? = some (.cells #[.int .i64 n.kind, .int .i64 n.at_, .string n.text, .slice ao n.kids.length cp] 81))) (fun _ i _ => n.kids.length - (intOf i).toNat)
    case atStart => exact ⟨0, 0, Nat.zero_le _, rfl, rfl, HE, unhide hW, unhide hN⟩
    case round =>
      obtain ⟨k, x, hk, rfl, rfl, HS, HB, HN⟩ := hrel
      have hzb := (unhide HB).size
      by_cases hlt2 : k < n.kids.length
      · have hi : n.kids[k]? = some n.kids[k] := List.getElem?_eq_getElem hlt2
        cases F with
        | zero => have := (unhide Hk).2; rw [this] at hlt2; simp at hlt2
        | succ F =>
          obtain ⟨g', rfl, hg', hcp, ao', n', cp', hk', a0, a1, a2, a3⟩ := ((unhide Hk).below (unhide HB)).at k _ hi
          have hd : n.kids.drop k = n.kids[k] :: n.kids.drop (k + 1) := List.drop_eq_getElem_cons hlt2
          have Hk' := hide hk'
          have HM' := hide (unhide HM F rfl)
          have HE' := hide (mayBeEmpty_all S c g cap rs F).1
          clear hk'
          cases hrow : (n.kind == 5)
          · have b5 : (n.kind != 5) = true := by simpa using hrow
            have HE : Hid (begN rs (F + 1 + 1) n = begL (begN rs (F + 1)) (mayE rs (F + 1)) false (n.kids.drop (k + 1)) (orI x (begN rs (F + 1) n.kids[k]))) := by
              refine (unhide HS).trans ?_
              rw [hrow, hd, begL, if_neg (by simp)]
            clear hd hi hrow
            go_wp2_with (go_at_call 51; refine (unhide HM' _ _ _ _ _ (((unhide Hc).below (unhide HB)).alloc _) ((unhide Hk').below ((Below.refl _ _).alloc (Nat.le_refl _) _))).mono ?_; rintro e w' ⟨rfl, hb'⟩; have hN' := hide (below_keep hb' (heap_old (unhide HN)) (Nat.le_refl _)); obtain ⟨y0, y1, y2, y3, yf, hy⟩ := four (unhide hN'))
            go_roundw
            case rel => exact ⟨k + 1, _, by omega, rfl, by go_num, HE, ((unhide HB).alloc (by omega) _).trans (hb'.mono (by simp; omega)), unhide hN'⟩
            case measure => simp [intOf]; omega
          · have b5 : (n.kind != 5) = false := by simpa using hrow
            cases hx : mayE rs (F + 1) n.kids[k]
            · have HE : Hid (begN rs (F + 1 + 1) n = orI x (begN rs (F + 1) n.kids[k])) := by
                refine (unhide HS).trans ?_
                rw [hd, begL, if_pos hrow, if_neg (by simp [hx])]
              have Hx := hide hx
              clear hd hi hrow hx
              go_wp2_with (first | (go_at_call 51; refine (unhide HM' _ _ _ _ _ (((unhide Hc).below (unhide HB)).alloc _) ((unhide Hk').below ((Below.refl _ _).alloc (Nat.le_refl _) _))).mono ?_; rintro e w' ⟨rfl, hb'⟩; have hN' := hide (below_keep hb' (heap_old (unhide HN)) (Nat.le_refl _)); obtain ⟨y0, y1, y2, y3, yf, hy⟩ := four (unhide hN'); obtain ⟨m0, m1, m2, m3, mf, hm⟩ := four (below_keep hb' (heap_alloc_new _ _) (Nat.le_refl _))) | (go_at_call 50; refine (unhide HE' _ _ _ _ _ ((((unhide Hc).below (unhide HB)).alloc _).below hb') (((unhide Hk').below ((Below.refl _ _).alloc (Nat.le_refl _) _)).below hb')).mono ?_; rintro e w'' ⟨rfl, hb''⟩; rw [unhide Hx]))
              go_ret
              exact ⟨ret_int (unhide HE).symm, (((unhide HB).alloc (by omega) _).trans (hb'.mono (by simp; omega))).trans (hb''.mono (by have := hb'.size; simp at this; omega))⟩
            · have HE : Hid (begN rs (F + 1 + 1) n = begL (begN rs (F + 1)) (mayE rs (F + 1)) true (n.kids.drop (k + 1)) (orI x (begN rs (F + 1) n.kids[k]))) := by
                refine (unhide HS).trans ?_
                rw [hrow, hd, begL, if_pos rfl, if_pos hx]
              have Hx := hide hx
              clear hd hi hrow hx
              go_wp2_with (first | (go_at_call 51; refine (unhide HM' _ _ _ _ _ (((unhide Hc).below (unhide HB)).alloc _) ((unhide Hk').below ((Below.refl _ _).alloc (Nat.le_refl _) _))).mono ?_; rintro e w' ⟨rfl, hb'⟩; have hN' := hide (below_keep hb' (heap_old (unhide HN)) (Nat.le_refl _)); obtain ⟨y0, y1, y2, y3, yf, hy⟩ := four (unhide hN'); obtain ⟨m0, m1, m2, m3, mf, hm⟩ := four (below_keep hb' (heap_alloc_new _ _) (Nat.le_refl _))) | (go_at_call 50; refine (unhide HE' _ _ _ _ _ ((((unhide Hc).below (unhide HB)).alloc _).below hb') (((unhide Hk').below ((Below.refl _ _).alloc (Nat.le_refl _) _)).below hb')).mono ?_; rintro e w'' ⟨rfl, hb''⟩; rw [unhide Hx]))
              go_roundw
              case rel => exact ⟨k + 1, _, by omega, rfl, by go_num, HE, (((unhide HB).alloc (by omega) _).trans (hb'.mono (by simp; omega))).trans (hb''.mono (by have := hb'.size; simp at this; omega)), below_keep hb'' (unhide hN') (Nat.le_refl _)⟩
              case measure => simp [intOf]; omega
      · have HE : Hid (begN rs (F + 1) n = x) := by
          refine (unhide HS).trans ?_
          rw [List.drop_eq_nil_of_le (by omega)]; rfl
        go_wp2
        go_ret
        exact ⟨ret_int (unhide HE).symm, unhide HB⟩

theorem mayBegin_all (S : Nat → Prop) (c g cap : Nat) (rs : List Rl) : ∀ F, SaidB S c g cap rs F
  | 0 => mayBegin_step S c g cap rs 0 fun F' h => by omega
  | F + 1 => mayBegin_step S c g cap rs (F + 1) fun F' h => by
    have : F' = F := by omega
    rw [this]
    exact mayBegin_all S c g cap rs F
end Go.Proofs.Ytdofpbbahamkkaa
