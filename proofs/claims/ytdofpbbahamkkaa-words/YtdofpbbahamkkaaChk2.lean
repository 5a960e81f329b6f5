import Derived.Test.YtdofpbbahamkkaaChk
namespace Go.Proofs.Ytdofpbbahamkkaa
open Go.RowKit


def emptyAt (rs : List Rl) (i : Int) : Bool := match rs[i.toNat]? with | some r => r.empty | none => false

def mayE (rs : List Rl) : Nat → Nd → Bool
  | 0, _ => false
  | F + 1, n =>
    if n.kind = 0 then n.text.toList.isEmpty else
    if n.kind = 2 then (decide (0 ≤ findF rs n.text) && emptyAt rs (findF rs n.text)) else
    if n.kind = 3 ∨ n.kind = 7 ∨ n.kind = 8 ∨ n.kind = 9 ∨ n.kind = 11 then true else
    if n.kind = 10 ∨ n.kind = 4 ∨ n.kind = 5 then n.kids.all (mayE rs F) else
    if n.kind = 6 then n.kids.any (mayE rs F) else false

section
variable (S : Nat → Prop) (c g cap : Nat) (rs : List Rl)
/-- the contracts of mayBeEmpty, allEmpty, anyEmpty, down to depth F -/
def SaidM (F : Nat) : Prop := ∀ w n ao nk cp, Ck w S c g cap rs → IsK w S F (.slice ao nk cp) n.kids →
  Calls Try.prog 50 #[.pointer (some ⟨c, 0, none⟩), .agg #[.int .i64 n.kind, .int .i64 n.at_, .string n.text, .slice ao nk cp]] w fun e w' => e = .returned (.bool (mayE rs (F + 1) n)) ∧ Below w.heap.size w w'
def SaidA (F : Nat) : Prop := ∀ w ts ao nk cp, Ck w S c g cap rs → IsK w S F (.slice ao nk cp) ts →
  Calls Try.prog 79 #[.pointer (some ⟨c, 0, none⟩), .slice ao nk cp] w fun e w' => e = .returned (.bool (ts.all (mayE rs F))) ∧ Below w.heap.size w w'
end

set_option maxHeartbeats 1000000 in
theorem allEmpty_step (S : Nat → Prop) (c g cap : Nat) (rs : List Rl) (F : Nat) (hM : SaidM S c g cap rs F) : SaidA S c g cap rs (F + 1) := by
  intro w ts ao nk cp hc hk
  have hl := hk.maxlen
  have hln := hk.len
  subst hln
  have Hc := hide hc
  have Hk := hide hk
  have HM := hide hM
  clear hc hk hM
  go_enter Try.func79, Try.ntmps79
  go_wp2
  go_loopw [10] (fun i wr => ∃ k : Nat, k ≤ ts.length ∧ i = .int .i64 k ∧ Hid (ts.all (mayE rs (F + 1)) = (ts.drop k).all (mayE rs (F + 1))) ∧ Hid (Below w.heap.size w wr)) (fun i _ => ts.length - (intOf i).toNat)
  case atStart => exact ⟨0, Nat.zero_le _, rfl, rfl, Below.refl _ _⟩
  case round =>
    obtain ⟨k, hk, rfl, HS, HB⟩ := hrel
    by_cases hlt2 : k < ts.length
    · have hi : ts[k]? = some ts[k] := List.getElem?_eq_getElem hlt2
      obtain ⟨g', rfl, hg', hcp, ao', n', cp', hk', a0, a1, a2, a3⟩ := ((unhide Hk).below (unhide HB)).at k _ hi
      have hd : ts.drop k = ts[k] :: ts.drop (k + 1) := List.drop_eq_getElem_cons hlt2
      have hzb := (unhide HB).size
      have Hk' := hide hk'
      clear hk'
      cases hx : mayE rs (F + 1) ts[k]
      · have HE : Hid (ts.all (mayE rs (F + 1)) = false) := by
          refine (unhide HS).trans ?_
          rw [hd, List.all_cons, hx]; rfl
        have Hx := hide hx
        clear hd hi hx
        go_wp2_with (go_at_call 50; refine (unhide HM _ _ _ _ _ (((unhide Hc).below (unhide HB)).alloc _) ((unhide Hk').below ((Below.refl _ _).alloc (Nat.le_refl _) _))).mono ?_; rintro e w' ⟨rfl, hb'⟩; rw [unhide Hx])
        go_ret
        exact ⟨ret_bool (unhide HE).symm, ((unhide HB).alloc (by omega) _).trans (hb'.mono (by simp; omega))⟩
      · have HE : Hid (ts.all (mayE rs (F + 1)) = (ts.drop (k + 1)).all (mayE rs (F + 1))) := by
          refine (unhide HS).trans ?_
          rw [hd, List.all_cons, hx]; rfl
        have Hx := hide hx
        clear hd hi hx
        go_wp2_with (go_at_call 50; refine (unhide HM _ _ _ _ _ (((unhide Hc).below (unhide HB)).alloc _) ((unhide Hk').below ((Below.refl _ _).alloc (Nat.le_refl _) _))).mono ?_; rintro e w' ⟨rfl, hb'⟩; rw [unhide Hx])
        go_roundw
        case rel => exact ⟨k + 1, by omega, by go_num, HE, ((unhide HB).alloc (by omega) _).trans (hb'.mono (by simp; omega))⟩
        case measure => simp [intOf]; omega
    · have HE : Hid (ts.all (mayE rs (F + 1)) = true) := by
        refine (unhide HS).trans ?_
        rw [List.drop_eq_nil_of_le (by omega)]; rfl
      go_wp2
      go_ret
      exact ⟨ret_bool (unhide HE).symm, unhide HB⟩
end Go.Proofs.Ytdofpbbahamkkaa
