import Derived.Test.YtdofpbbahamkkaaChk4
namespace Go.Proofs.Ytdofpbbahamkkaa
open Go.RowKit

def loopN (rs : List Rl) : Nat → Nd → Int
  | 0, _ => -1
  | F + 1, n => if (firstL (loopN rs F) n.kids != -1) = true then firstL (loopN rs F) n.kids else
    if n.kind ≠ 9 ∧ n.kind ≠ 10 then -1 else if n.kids.all (mayE rs F) = true then n.at_ else -1

def SaidL (S : Nat → Prop) (c g cap : Nat) (rs : List Rl) (F : Nat) : Prop := ∀ w n ao nk cp, Ck w S c g cap rs → IsK w S F (.slice ao nk cp) n.kids →
  Calls Try.prog 53 #[.pointer (some ⟨c, 0, none⟩), .agg #[.int .i64 n.kind, .int .i64 n.at_, .string n.text, .slice ao nk cp]] w fun e w' => e = .returned (.int .i64 (loopN rs (F + 1) n)) ∧ Below w.heap.size w w'

set_option maxHeartbeats 2000000 in
theorem loopIn_step (S : Nat → Prop) (c g cap : Nat) (rs : List Rl) (F : Nat) (hM : ∀ F', F = F' + 1 → SaidL S c g cap rs F') : SaidL S c g cap rs F := by
  intro w n ao nk cp hc hk
  have hln := hk.len
  subst hln
  have hl := hk.maxlen
  have Hc := hide hc
  have Hk := hide hk
  have HM := hide hM
  have HA := hide (mayBeEmpty_all S c g cap rs F).2.1
  clear hc hk hM
  have hW := hide ((Below.refl w.heap.size w).alloc (Nat.le_refl _) (.cells #[.int .i64 n.kind, .int .i64 n.at_, .string n.text, .slice ao n.kids.length cp] 81))
  have hN := hide (heap_alloc_new w (.cells #[.int .i64 n.kind, .int .i64 n.at_, .string n.text, .slice ao n.kids.length cp] 81))
  go_enter Try.func53, Try.ntmps53
  go_wp2_with fail
  go_loopw [12] (fun i wr => ∃ k : Nat, k ≤ n.kids.length ∧ i = .int .i64 k ∧ Hid (firstL (loopN rs F) n.kids = firstL (loopN rs F) (n.kids.drop k)) ∧ Hid (Below w.heap.size w wr) ∧
      Hid (wr.heap[w.heap.size]? = some (.cells #[.int .i64 n.kind, .int .i64 n.at_, .string n.text, .slice ao n.kids.length cp] 81))) (fun i _ => n.kids.length - (intOf i).toNat)
  case atStart => exact ⟨0, Nat.zero_le _, rfl, rfl, unhide hW, unhide hN⟩
  case round =>
    obtain ⟨k, hk, rfl, HS, HB, HN⟩ := hrel
    have hzb := (unhide HB).size
    by_cases hlt2 : k < n.kids.length
    · have hi : n.kids[k]? = some n.kids[k] := List.getElem?_eq_getElem hlt2
      cases F with
      | zero => have := (unhide Hk).2; rw [this] at hlt2; simp at hlt2
      | succ F =>
        obtain ⟨g', rfl, hg', hcp, ao', n', cp', hk', a0, a1, a2, a3⟩ := ((unhide Hk).below (unhide HB)).at k _ hi
        have hd : n.kids.drop k = n.kids[k] :: n.kids.drop (k + 1) := List.drop_eq_getElem_cons hlt2
        have Hk' := hide hk'
        have HM' := hide (unhide HM F rfl)
        clear hk'
        cases hx : (loopN rs (F + 1) n.kids[k] != -1)
        · have HE : Hid (firstL (loopN rs (F + 1)) n.kids = firstL (loopN rs (F + 1)) (n.kids.drop (k + 1))) := by
            refine (unhide HS).trans ?_
            rw [hd, firstL, if_neg (by simp [hx])]
          clear hd hi
          go_wp2_with (go_at_call 53; refine (unhide HM' _ _ _ _ _ (((unhide Hc).below (unhide HB)).alloc _) ((unhide Hk').below ((Below.refl _ _).alloc (Nat.le_refl _) _))).mono ?_; rintro e w' ⟨rfl, hb'⟩)
          go_roundw
          case rel => exact ⟨k + 1, by omega, by go_num, HE, ((unhide HB).alloc (by omega) _).trans (hb'.mono (by simp; omega)), below_keep hb' (heap_old (unhide HN)) (Nat.le_refl _)⟩
          case measure => simp [intOf]; omega
        · have HE : Hid (loopN rs (F + 1 + 1) n = loopN rs (F + 1) n.kids[k]) := by
            have h1 : firstL (loopN rs (F + 1)) n.kids = loopN rs (F + 1) n.kids[k] := by
              refine (unhide HS).trans ?_
              rw [hd, firstL, if_pos hx]
            rw [loopN, h1, if_pos hx]; rfl
          clear hd hi
          go_wp2_with (go_at_call 53; refine (unhide HM' _ _ _ _ _ (((unhide Hc).below (unhide HB)).alloc _) ((unhide Hk').below ((Below.refl _ _).alloc (Nat.le_refl _) _))).mono ?_; rintro e w' ⟨rfl, hb'⟩)
          go_ret
          exact ⟨ret_int (unhide HE).symm, ((unhide HB).alloc (by omega) _).trans (hb'.mono (by simp; omega))⟩
    · have h1 : firstL (loopN rs F) n.kids = -1 := by
        refine (unhide HS).trans ?_
        rw [List.drop_eq_nil_of_le (by omega)]; rfl
      obtain ⟨y0, y1, y2, y3, yf, hy⟩ := four (unhide HN)
      by_cases h9 : n.kind ≠ 9 ∧ n.kind ≠ 10
      · have HE : Hid (loopN rs (F + 1) n = -1) := by rw [loopN, h1, if_neg (by simp), if_pos h9]; rfl
        have b9 : (n.kind != 9) = true := by simp; omega
        have b10 : (n.kind != 10) = true := by simp; omega
        clear h1 h9
        go_wp2
        go_ret
        exact ⟨ret_int (unhide HE).symm, unhide HB⟩
      · have b9 : ((n.kind != 9) = false) ∨ ((n.kind != 9) = true ∧ (n.kind != 10) = false) := by
          by_cases e9 : n.kind = 9
          · exact .inl (by simp [e9])
          · exact .inr ⟨by simpa using e9, by simp; omega⟩
        cases hx : n.kids.all (mayE rs F)
        · have HE : Hid (loopN rs (F + 1) n = -1) := by rw [loopN, h1, if_neg (by simp), if_neg h9, if_neg (by simp [hx])]; rfl
          have Hx := hide hx
          clear h1 h9 hx
          rcases b9 with b9 | ⟨b9, b10⟩
          all_goals
            go_wp2_with (go_at_call 79; refine (unhide HA _ _ _ _ _ ((unhide Hc).below (unhide HB)) ((unhide Hk).below (unhide HB))).mono ?_; rintro e w' ⟨rfl, hb'⟩; rw [unhide Hx])
            go_ret
            exact ⟨ret_int (unhide HE).symm, (unhide HB).trans (hb'.mono (by omega))⟩
        · have HE : Hid (loopN rs (F + 1) n = n.at_) := by rw [loopN, h1, if_neg (by simp), if_neg h9, if_pos hx]; rfl
          have Hx := hide hx
          clear h1 h9 hx
          rcases b9 with b9 | ⟨b9, b10⟩
          all_goals
            go_wp2_with (go_at_call 79; refine (unhide HA _ _ _ _ _ ((unhide Hc).below (unhide HB)) ((unhide Hk).below (unhide HB))).mono ?_; rintro e w' ⟨rfl, hb'⟩; rw [unhide Hx]; obtain ⟨x0, x1, x2, x3, xf, hx⟩ := four (below_keep hb' (unhide HN) (Nat.le_refl _)))
            go_ret
            exact ⟨ret_int (unhide HE).symm, (unhide HB).trans (hb'.mono (by omega))⟩

theorem loopIn_all (S : Nat → Prop) (c g cap : Nat) (rs : List Rl) : ∀ F, SaidL S c g cap rs F
  | 0 => loopIn_step S c g cap rs 0 fun F' h => by omega
  | F + 1 => loopIn_step S c g cap rs (F + 1) fun F' h => by
    have : F' = F := by omega
    rw [this]
    exact loopIn_all S c g cap rs F

/-- the first rule that a look finds a place in -/
def firstR (f : Nd → Int) : List Rl → Int
  | [] => -1
  | r :: rs => if (f r.body != -1) = true then f r.body else firstR f rs
end Go.Proofs.Ytdofpbbahamkkaa
