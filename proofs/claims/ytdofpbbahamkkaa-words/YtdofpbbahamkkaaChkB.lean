import Derived.Test.YtdofpbbahamkkaaChkA
namespace Go.Proofs.Ytdofpbbahamkkaa
open Go.RowKit

/-- one round of findBegins -/
def roundB (F : Nat) : Nat → Nat → List Rl → Bool → List Rl × Bool
  | 0, _, rs, m => (rs, m)
  | n + 1, i, rs, m =>
    match rs[i]? with
    | some r => if (begN rs (F + 1) r.body != r.begins) = true then roundB F n (i + 1) (setB rs i (begN rs (F + 1) r.body)) true else roundB F n (i + 1) rs m
    | none => roundB F n (i + 1) rs m
/-- the rounds; none: they have not come to an end by then -/
def fixB (F : Nat) : Nat → List Rl → Option (List Rl)
  | 0, _ => none
  | k + 1, rs => if (roundB F rs.length 0 rs false).2 = true then fixB F k (roundB F rs.length 0 rs false).1 else some (roundB F rs.length 0 rs false).1
theorem roundB_some {F n i : Nat} {rs : List Rl} {m : Bool} {r : Rl} (h : rs[i]? = some r) (hx : (begN rs (F + 1) r.body != r.begins) = true) : roundB F (n + 1) i rs m = roundB F n (i + 1) (setB rs i (begN rs (F + 1) r.body)) true := by rw [roundB, h]; simp only [hx]; rfl
theorem roundB_not {F n i : Nat} {rs : List Rl} {m : Bool} {r : Rl} (h : rs[i]? = some r) (hx : (begN rs (F + 1) r.body != r.begins) = false) : roundB F (n + 1) i rs m = roundB F n (i + 1) rs m := by rw [roundB, h]; simp only [hx]; rfl
theorem fixB_yes {F k : Nat} {rs : List Rl} {p : List Rl × Bool} (h : roundB F rs.length 0 rs false = p) (hx : p.2 = true) : fixB F (k + 1) rs = fixB F k p.1 := by rw [fixB, h, if_pos hx]
theorem fixB_no {F k : Nat} {rs : List Rl} {p : List Rl × Bool} (h : roundB F rs.length 0 rs false = p) (hx : p.2 = false) : fixB F (k + 1) rs = some p.1 := by rw [fixB, h, if_neg (by simp [hx])]

set_option maxHeartbeats 4000000 in
theorem findBegins_any (w : World) (S : Nat → Prop) (c g cap F Z : Nat) (rs rz : List Rl) (hz : fixB F Z rs = some rz) (hc : Ck w S c g cap rs) (hF : DeepF F rs) (hS : ∀ b, S b → b ≠ g) (hcg : c ≠ g) :
    Calls Try.prog 31 #[.pointer (some ⟨c, 0, none⟩)] w fun e w' => e = .returned (.tuple #[]) ∧ Ck w' S c g cap rz ∧ DeepF F rz ∧ But g w w' := by
  have hn := hc.few
  have Hc := hide hc
  have HF := hide hF
  have HS' := hide hS
  have Hz := hide hz
  have hgc : g ≠ c := fun e => hcg e.symm
  clear hc hF hS hz
  go_enter Try.func31, Try.ntmps31
  go_wp2_with fail
  go_loopg [2] (Z + 1) (fun k v wr => ∃ (m : Bool) (j : Nat) (ra : List Rl), v = .bool m ∧ Hid (ra.length = rs.length) ∧ Hid ((if m = true then fixB F j ra else some ra) = some rz) ∧ (m = true → j < k) ∧ (m = false → j < k) ∧ Hid (Ck wr S c g cap ra) ∧ Hid (DeepF F ra) ∧ Hid (But g w wr))
  case atStart => exact ⟨true, Z, rs, rfl, rfl, Hz, fun _ => by omega, fun _ => by omega, unhide Hc, unhide HF, But.refl _ _⟩
  case round =>
    obtain ⟨m, j, ra, rfl, HL, HX, hm1, hm2, HC, HD, HB⟩ := hrel
    generalize gk = K0 at *
    cases m
    · go_wp2
      go_end0
      have hx : some ra = some rz := unhide HX
      injection hx with hx
      rw [← hx]
      exact ⟨rfl, unhide HC, unhide HD, unhide HB⟩
    · have hj2 := hm1 rfl
      obtain ⟨cc, hltc⟩ := (unhide HC).cells
      have hltg := (unhide HC).row.lt
      have hna := (unhide HC).few
      clear hm1 hm2
      go_wp2_with fail
      go_loopg [2, 12] 13 (fun kk v i wi => ∃ (m : Bool) (k : Nat) (rb : List Rl), v = .bool m ∧ i = .int .i64 k ∧ k ≤ ra.length ∧ ra.length - k < kk ∧ Hid (rb.length = ra.length) ∧ Hid (roundB F ra.length 0 ra false = roundB F (ra.length - k) k rb m) ∧ Hid (Ck wi S c g cap rb) ∧ Hid (DeepF F rb) ∧ Hid (But g w wi))
      case atStart => exact ⟨false, 0, ra, rfl, rfl, Nat.zero_le _, by omega, rfl, rfl, unhide HC, unhide HD, unhide HB⟩
      case round =>
        obtain ⟨m, k, rb, rfl, rfl, hk, hkk, HLb, HR, HCb, HDb, HBb⟩ := hrel
        by_cases hlt2 : k < ra.length
        · obtain ⟨n', hn'⟩ : ∃ n', ra.length - k = n' + 1 := ⟨ra.length - k - 1, by omega⟩
          have hil : k < rb.length := by have := unhide HLb; omega
          have hi : rb[k]? = some rb[k] := List.getElem?_eq_getElem hil
          have hzb := (unhide HBb).size
          obtain ⟨ao, nk, cp, ⟨h', hk'⟩, a0, a1, a2, a3, a4, a6, a7, a8, af⟩ := (unhide HCb).row.at k _ hi
          have Hk' := hide (hk'.deep (unhide HDb) hi)
          have HM := hide (mayBegin_all S c g cap rb F)
          have hltgb := (unhide HCb).row.lt
          have Hi := hide hi
          have Hn' := hide hn'
          have hkn : ra.length - (k + 1) = n' := by omega
          have Hkn := hide hkn
          clear hk' hi hn' hkn
          cases hx : (begN rb (F + 1) rb[k].body != rb[k].begins)
          · have HE := hide ((unhide HR).trans (by rw [unhide Hn', roundB_not (unhide Hi) hx, ← unhide Hkn]))
            go_wp2_with fail
            go_at_call 51
            refine (unhide HM _ _ _ _ _ ((unhide HCb).alloc _) ((unhide Hk').below ((Below.refl _ _).alloc (Nat.le_refl _) _))).mono ?_
            rintro e w' ⟨rfl, hb'⟩
            have HB' := hide (((unhide HBb).alloc _).ofBelow hb' rfl)
            have HC' := hide (((unhide HCb).alloc _).below hb')
            obtain ⟨x0, x1, x2, x3, x4, x6, x7, x8, xf, hxl⟩ := eight (below_keep hb' (heap_alloc_new _ _) (Nat.le_refl _))
            clear hb'
            go_wp2_with fail
            go_roundg (gk - 1)
            case measure => omega
            case rel => exact ⟨m, k + 1, rb, rfl, by go_num, by omega, by omega, HLb, HE, HC', HDb, HB'⟩
          · have HE := hide ((unhide HR).trans (by rw [unhide Hn', roundB_some (unhide Hi) hx, ← unhide Hkn]))
            go_wp2_with fail
            go_at_call 51
            refine (unhide HM _ _ _ _ _ ((unhide HCb).alloc _) ((unhide Hk').below ((Below.refl _ _).alloc (Nat.le_refl _) _))).mono ?_
            rintro e w' ⟨rfl, hb'⟩
            have HB' := hide (((unhide HBb).alloc _).ofBelow hb' rfl)
            have HC' := hide (((unhide HCb).alloc _).below hb')
            obtain ⟨x0, x1, x2, x3, x4, x6, x7, x8, xf, hxl⟩ := eight (below_keep hb' (heap_alloc_new _ _) (Nat.le_refl _))
            clear hb'
            obtain ⟨ao', nk', cp', _, b0, b1, b2, b3, b4, b6, b7, b8, bf⟩ := (unhide HC').row.at k _ (unhide Hi)
            obtain ⟨cb, hltb⟩ := (unhide HC').cells
            rw [unhide HLb] at cb
            go_wp2_with fail
            go_roundg (gk - 1)
            case measure => omega
            case rel => exact ⟨true, k + 1, setB rb k _, rfl, by go_num, by omega, by omega, (setB_length _ _ _).trans (unhide HLb), HE, (unhide HC').setB (unhide HS') hcg k _ hil, (unhide HDb).setB _ k, (unhide HB').setCell (.inl rfl) _⟩
        · have hk0 : ra.length - k = 0 := by omega
          have HE := hide ((unhide HR).trans (by rw [hk0, roundB]))
          clear hk0
          cases j with
          | zero =>
            have hx : fixB F 0 ra = some rz := unhide HX
            simp [fixB] at hx
          | succ jj =>
            go_wp2_with fail
            go_roundg (K0 - 1)
            case measure => omega
            case rel =>
              refine ⟨m, jj, rb, rfl, (unhide HLb).trans (unhide HL), ?_, ?_, ?_, HCb, HDb, HBb⟩
              · cases m
                · exact (fixB_no (unhide HE) rfl).symm.trans (unhide HX)
                · exact (fixB_yes (unhide HE) rfl).symm.trans (unhide HX)
              · intro hm; omega
              · intro hm; omega
end Go.Proofs.Ytdofpbbahamkkaa
