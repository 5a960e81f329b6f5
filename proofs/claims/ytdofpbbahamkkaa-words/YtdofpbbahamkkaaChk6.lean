import Derived.Test.YtdofpbbahamkkaaChk5
namespace Go.Proofs.Ytdofpbbahamkkaa
open Go.RowKit

theorem Cells4.imp' {K K' : Value → List Nd → Prop} : ∀ {xs : List Value} {ts : List Nd}, (∀ t ∈ ts, ∀ v, K v t.kids → K' v t.kids) → Cells4 K xs ts → Cells4 K' xs ts
  | _, [], _, h => h
  | _, t :: ts, hk, ⟨kv, rest, h1, h2, h3⟩ => ⟨kv, rest, h1, hk t (by simp) _ h2, Cells4.imp' (fun t ht => hk t (by simp [ht])) h3⟩

/-- is a list of nodes no deeper than that? -/
def fits : Nat → List Nd → Bool
  | 0, _ => false
  | F + 1, ts => ts.all fun t => fits F t.kids

theorem IsK.fits {w : World} {S : Nat → Prop} : ∀ {F h : Nat} {kv : Value} {ts : List Nd}, fits F ts = true → IsK w S h kv ts → IsK w S F kv ts
  | 0, _, _, _, hf, _ => by simp [Go.Proofs.Ytdofpbbahamkkaa.fits] at hf
  | F + 1, 0, _, _, _, ⟨h1, h2⟩ => by rw [h1, h2]; exact IsK.nil _ _ _
  | F + 1, h + 1, kv, ts, hf, ⟨xs, h1, h2⟩ => by
    unfold Go.Proofs.Ytdofpbbahamkkaa.fits at hf
    rw [List.all_eq_true] at hf
    exact ⟨xs, h1, Cells4.imp' (fun t ht v k => IsK.fits (hf t ht) k) h2⟩

/-- how deep a checker must look -/
def DeepF (F : Nat) (rs : List Rl) : Prop := ∀ r ∈ rs, fits F r.body.kids = true

theorem IsK.deep {w : World} {S : Nat → Prop} {h F i : Nat} {kv : Value} {rs : List Rl} {r : Rl} (k : IsK w S h kv r.body.kids) (hF : DeepF F rs) (hi : rs[i]? = some r) : IsK w S F kv r.body.kids :=
  k.fits (hF r (List.mem_of_getElem? hi))

set_option maxHeartbeats 2000000 in
theorem unknown_any (w : World) (S : Nat → Prop) (c g cap F : Nat) (rs : List Rl) (hc : Ck w S c g cap rs) (hF : DeepF F rs) :
    Calls Try.prog 29 #[.pointer (some ⟨c, 0, none⟩)] w fun e w' => e = .returned (.int .i64 (firstR (unkN rs (F + 1)) rs)) ∧ Below w.heap.size w w' := by
  have hn := hc.few
  have Hc := hide hc
  obtain ⟨cc, hlt⟩ := hc.cells
  have hltg := hc.row.lt
  have HF := hide hF
  have HM := hide (unknownIn_all S c g cap rs F)
  clear hc hF
  go_enter Try.func29, Try.ntmps29
  go_wp2
  go_loopw [11] (fun i wr => ∃ k : Nat, k ≤ rs.length ∧ i = .int .i64 k ∧ Hid (firstR (unkN rs (F + 1)) rs = firstR (unkN rs (F + 1)) (rs.drop k)) ∧ Hid (Below w.heap.size w wr)) (fun i _ => rs.length - (intOf i).toNat)
  case atStart => exact ⟨0, Nat.zero_le _, rfl, rfl, Below.refl _ _⟩
  case round =>
    obtain ⟨k, hk, rfl, HS, HB⟩ := hrel
    have hzb := (unhide HB).size
    by_cases hlt2 : k < rs.length
    · have hi : rs[k]? = some rs[k] := List.getElem?_eq_getElem hlt2
      obtain ⟨ao, n, cp, ⟨h', hk'⟩, a0, a1, a2, a3, a4, a6, a7, a8, _⟩ := ((unhide Hc).below (unhide HB)).row.at k _ hi
      have Hk' := hide (hk'.deep (unhide HF) hi)
      have hd : rs.drop k = rs[k] :: rs.drop (k + 1) := List.drop_eq_getElem_cons hlt2
      clear hk'
      cases hx : (unkN rs (F + 1) rs[k].body != -1)
      · have HE : Hid (firstR (unkN rs (F + 1)) rs = firstR (unkN rs (F + 1)) (rs.drop (k + 1))) := by
          refine (unhide HS).trans ?_
          rw [hd, firstR, if_neg (by simp [hx])]
        clear hd hi
        go_wp2_with (go_at_call 49; refine (unhide HM _ _ _ _ _ (((unhide Hc).below (unhide HB)).alloc _) ((unhide Hk').below ((Below.refl _ _).alloc (Nat.le_refl _) _))).mono ?_; rintro e w' ⟨rfl, hb'⟩)
        go_roundw
        case rel => exact ⟨k + 1, by omega, by go_num, HE, ((unhide HB).alloc (by omega) _).trans (hb'.mono (by simp; omega))⟩
        case measure => simp [intOf]; omega
      · have HE : Hid (firstR (unkN rs (F + 1)) rs = unkN rs (F + 1) rs[k].body) := by
          refine (unhide HS).trans ?_
          rw [hd, firstR, if_pos hx]
        clear hd hi
        go_wp2_with (go_at_call 49; refine (unhide HM _ _ _ _ _ (((unhide Hc).below (unhide HB)).alloc _) ((unhide Hk').below ((Below.refl _ _).alloc (Nat.le_refl _) _))).mono ?_; rintro e w' ⟨rfl, hb'⟩)
        go_ret
        exact ⟨ret_int (unhide HE).symm, ((unhide HB).alloc (by omega) _).trans (hb'.mono (by simp; omega))⟩
    · have HE : Hid (firstR (unkN rs (F + 1)) rs = -1) := by
        refine (unhide HS).trans ?_
        rw [List.drop_eq_nil_of_le (by omega)]; rfl
      go_wp2
      go_ret
      exact ⟨ret_int (unhide HE).symm, unhide HB⟩

set_option maxHeartbeats 2000000 in
theorem loop_any (w : World) (S : Nat → Prop) (c g cap F : Nat) (rs : List Rl) (hc : Ck w S c g cap rs) (hF : DeepF F rs) :
    Calls Try.prog 33 #[.pointer (some ⟨c, 0, none⟩)] w fun e w' => e = .returned (.int .i64 (firstR (loopN rs (F + 1)) rs)) ∧ Below w.heap.size w w' := by
  have hn := hc.few
  have Hc := hide hc
  obtain ⟨cc, hlt⟩ := hc.cells
  have hltg := hc.row.lt
  have HF := hide hF
  have HM := hide (loopIn_all S c g cap rs F)
  clear hc hF
  go_enter Try.func33, Try.ntmps33
  go_wp2
  go_loopw [11] (fun i wr => ∃ k : Nat, k ≤ rs.length ∧ i = .int .i64 k ∧ Hid (firstR (loopN rs (F + 1)) rs = firstR (loopN rs (F + 1)) (rs.drop k)) ∧ Hid (Below w.heap.size w wr)) (fun i _ => rs.length - (intOf i).toNat)
  case atStart => exact ⟨0, Nat.zero_le _, rfl, rfl, Below.refl _ _⟩
  case round =>
    obtain ⟨k, hk, rfl, HS, HB⟩ := hrel
    have hzb := (unhide HB).size
    by_cases hlt2 : k < rs.length
    · have hi : rs[k]? = some rs[k] := List.getElem?_eq_getElem hlt2
      obtain ⟨ao, n, cp, ⟨h', hk'⟩, a0, a1, a2, a3, a4, a6, a7, a8, _⟩ := ((unhide Hc).below (unhide HB)).row.at k _ hi
      have Hk' := hide (hk'.deep (unhide HF) hi)
      have hd : rs.drop k = rs[k] :: rs.drop (k + 1) := List.drop_eq_getElem_cons hlt2
      clear hk'
      cases hx : (loopN rs (F + 1) rs[k].body != -1)
      · have HE : Hid (firstR (loopN rs (F + 1)) rs = firstR (loopN rs (F + 1)) (rs.drop (k + 1))) := by
          refine (unhide HS).trans ?_
          rw [hd, firstR, if_neg (by simp [hx])]
        clear hd hi
        go_wp2_with (go_at_call 53; refine (unhide HM _ _ _ _ _ (((unhide Hc).below (unhide HB)).alloc _) ((unhide Hk').below ((Below.refl _ _).alloc (Nat.le_refl _) _))).mono ?_; rintro e w' ⟨rfl, hb'⟩)
        go_roundw
        case rel => exact ⟨k + 1, by omega, by go_num, HE, ((unhide HB).alloc (by omega) _).trans (hb'.mono (by simp; omega))⟩
        case measure => simp [intOf]; omega
      · have HE : Hid (firstR (loopN rs (F + 1)) rs = loopN rs (F + 1) rs[k].body) := by
          refine (unhide HS).trans ?_
          rw [hd, firstR, if_pos hx]
        clear hd hi
        go_wp2_with (go_at_call 53; refine (unhide HM _ _ _ _ _ (((unhide Hc).below (unhide HB)).alloc _) ((unhide Hk').below ((Below.refl _ _).alloc (Nat.le_refl _) _))).mono ?_; rintro e w' ⟨rfl, hb'⟩)
        go_ret
        exact ⟨ret_int (unhide HE).symm, ((unhide HB).alloc (by omega) _).trans (hb'.mono (by simp; omega))⟩
    · have HE : Hid (firstR (loopN rs (F + 1)) rs = -1) := by
        refine (unhide HS).trans ?_
        rw [List.drop_eq_nil_of_le (by omega)]; rfl
      go_wp2
      go_ret
      exact ⟨ret_int (unhide HE).symm, unhide HB⟩
end Go.Proofs.Ytdofpbbahamkkaa
