import Derived.Test.YtdofpbbahamkkaaChk7
namespace Go.Proofs.Ytdofpbbahamkkaa
open Go.RowKit

theorem roundE_some {F n i : Nat} {rs : List Rl} {m : Bool} {r : Rl} (h : rs[i]? = some r) (hx : (mayE rs (F + 1) r.body && !r.empty) = true) : roundE F (n + 1) i rs m = roundE F n (i + 1) (setE rs i) true := by rw [roundE, h]; simp only [hx]; rfl
theorem roundE_not {F n i : Nat} {rs : List Rl} {m : Bool} {r : Rl} (h : rs[i]? = some r) (hx : (mayE rs (F + 1) r.body && !r.empty) = false) : roundE F (n + 1) i rs m = roundE F n (i + 1) rs m := by rw [roundE, h]; simp only [hx]; rfl
theorem roundE_length (F : Nat) : ∀ (n i : Nat) (rs : List Rl) (m : Bool), (roundE F n i rs m).1.length = rs.length
  | 0, _, _, _ => rfl
  | n + 1, i, rs, m => by
    unfold roundE
    split
    · split
      · rw [roundE_length, setE_length]
      · exact roundE_length F n _ _ _
    · exact roundE_length F n _ _ _
theorem fixE_yes {F k : Nat} {rs : List Rl} {p : List Rl × Bool} (h : roundE F rs.length 0 rs false = p) (hx : p.2 = true) : fixE F (k + 1) rs = fixE F k p.1 := by rw [fixE, h, if_pos hx]
theorem fixE_no {F k : Nat} {rs : List Rl} {p : List Rl × Bool} (h : roundE F rs.length 0 rs false = p) (hx : p.2 = false) : fixE F (k + 1) rs = p.1 := by rw [fixE, h, if_neg (by simp [hx])]

theorem But.ofBelow {q n : Nat} {w w1 w2 : World} (h : But q w w1) (hb : Below n w1 w2) (hn : n = w1.heap.size) : But q w w2 := h.below hb (by rw [hn]; exact h.size)

set_option maxHeartbeats 4000000 in
theorem findEmpty_any (w : World) (S : Nat → Prop) (c g cap F : Nat) (rs : List Rl) (hc : Ck w S c g cap rs) (hF : DeepF F rs) (hS : ∀ b, S b → b ≠ g) (hcg : c ≠ g) :
    Calls Try.prog 30 #[.pointer (some ⟨c, 0, none⟩)] w fun e w' => e = .returned (.tuple #[]) ∧ Ck w' S c g cap (fixE F 13 rs) ∧ DeepF F (fixE F 13 rs) ∧ But g w w' := by
  have hn := hc.few
  have ho := open_le rs
  have Hc := hide hc
  have HF := hide hF
  have HS' := hide hS
  have hgc : g ≠ c := fun e => hcg e.symm
  clear hc hF hS
  go_enter Try.func30, Try.ntmps30
  go_wp2_with fail
  go_loopg [2] 15 (fun k v wr => ∃ (m : Bool) (j : Nat) (ra : List Rl), v = .bool m ∧ Hid (ra.length = rs.length) ∧ Hid ((if m = true then fixE F j ra else ra) = fixE F 13 rs) ∧ (m = true → open_ ra < j ∧ j < k) ∧ (m = false → 0 < k) ∧ Hid (Ck wr S c g cap ra) ∧ Hid (DeepF F ra) ∧ Hid (But g w wr))
  case atStart => exact ⟨true, 13, rs, rfl, rfl, rfl, fun _ => ⟨by omega, by omega⟩, fun h => by simp at h, unhide Hc, unhide HF, But.refl _ _⟩
  case round =>
    obtain ⟨m, j, ra, rfl, HL, HX, hm1, hm2, HC, HD, HB⟩ := hrel
    generalize gk = K0 at *
    cases m
    · go_wp2
      go_end0
      have hx : ra = fixE F 13 rs := unhide HX
      rw [← hx]
      exact ⟨rfl, unhide HC, unhide HD, unhide HB⟩
    · obtain ⟨hj1, hj2⟩ := hm1 rfl
      obtain ⟨cc, hltc⟩ := (unhide HC).cells
      have hltg := (unhide HC).row.lt
      have hna := (unhide HC).few
      clear hm1 hm2
      go_wp2_with fail
      go_loopg [2, 12] 13 (fun kk v i wi => ∃ (m : Bool) (k : Nat) (rb : List Rl), v = .bool m ∧ i = .int .i64 k ∧ k ≤ ra.length ∧ ra.length - k < kk ∧ Hid (rb.length = ra.length) ∧ Hid (roundE F ra.length 0 ra false = roundE F (ra.length - k) k rb m) ∧ Hid (Ck wi S c g cap rb) ∧ Hid (DeepF F rb) ∧ Hid (But g w wi))
      case atStart => exact ⟨false, 0, ra, rfl, rfl, Nat.zero_le _, by omega, rfl, rfl, unhide HC, unhide HD, unhide HB⟩
      case round =>
        obtain ⟨m, k, rb, rfl, rfl, hk, hkk, HLb, HR, HCb, HDb, HBb⟩ := hrel
        by_cases hlt2 : k < ra.length
        · obtain ⟨n', hn'⟩ : ∃ n', ra.length - k = n' + 1 := ⟨ra.length - k - 1, by omega⟩
          have hil : k < rb.length := by have := unhide HLb; omega
          have hi : rb[k]? = some rb[k] := List.getElem?_eq_getElem hil
          have hzb := (unhide HBb).size
          obtain ⟨ao, nk, cp, ⟨h', hk'⟩, a0, a1, a2, a3, a4, a6, a7, a8, af⟩ := (unhide HCb).row.at k _ hi
          have Hk' := hide (hk'.deep (unhide HDb) hi)
          have HM := hide (mayBeEmpty_all S c g cap rb F).1
          have hltgb := (unhide HCb).row.lt
          have Hi := hide hi
          have Hn' := hide hn'
          have hkn : ra.length - (k + 1) = n' := by omega
          have Hkn := hide hkn
          clear hk' hi hn' hkn
          cases hx : mayE rb (F + 1) rb[k].body
          · have HE := hide ((unhide HR).trans (by rw [unhide Hn', roundE_not (unhide Hi) (by rw [hx]; rfl), ← unhide Hkn]))
            have Hx := hide hx
            clear hx
            go_wp2_with fail
            go_at_call 50
            refine (unhide HM _ _ _ _ _ ((unhide HCb).alloc _) ((unhide Hk').below ((Below.refl _ _).alloc (Nat.le_refl _) _))).mono ?_
            rintro e w' ⟨rfl, hb'⟩
            rw [unhide Hx]
            have HB' := hide (((unhide HBb).alloc _).ofBelow hb' rfl)
            have HC' := hide (((unhide HCb).alloc _).below hb')
            obtain ⟨x0, x1, x2, x3, x4, x6, x7, x8, xf, hxl⟩ := eight (below_keep hb' (heap_alloc_new _ _) (Nat.le_refl _))
            clear hb'
            go_wp2_with fail
            go_roundg (gk - 1)
            case measure => omega
            case rel => exact ⟨m, k + 1, rb, rfl, by go_num, by omega, by omega, HLb, HE, HC', HDb, HB'⟩
          · cases hy : rb[k].empty
            · have HE := hide ((unhide HR).trans (by rw [unhide Hn', roundE_some (unhide Hi) (by rw [hx, hy]; rfl), ← unhide Hkn]))
              have Hx := hide hx
              clear hx
              go_wp2_with fail
              go_at_call 50
              refine (unhide HM _ _ _ _ _ ((unhide HCb).alloc _) ((unhide Hk').below ((Below.refl _ _).alloc (Nat.le_refl _) _))).mono ?_
              rintro e w' ⟨rfl, hb'⟩
              rw [unhide Hx]
              have HB' := hide (((unhide HBb).alloc _).ofBelow hb' rfl)
              have HC' := hide (((unhide HCb).alloc _).below hb')
              obtain ⟨x0, x1, x2, x3, x4, x6, x7, x8, xf, hxl⟩ := eight (below_keep hb' (heap_alloc_new _ _) (Nat.le_refl _))
              clear hb'
              obtain ⟨ao', nk', cp', _, b0, b1, b2, b3, b4, b6, b7, b8, bf⟩ := (unhide HC').row.at k _ (unhide Hi)
              obtain ⟨cb, hltb⟩ := (unhide HC').cells
              rw [unhide HLb] at cb
              go_wp2_with fail
              go_roundg (gk - 1)
              case measure => omega
              case rel => exact ⟨true, k + 1, setE rb k, rfl, by go_num, by omega, by omega, (setE_length _ _).trans (unhide HLb), HE, (unhide HC').setE (unhide HS') hcg k hil, (unhide HDb).setE k, (unhide HB').setCell (.inl rfl) _⟩
            · have HE := hide ((unhide HR).trans (by rw [unhide Hn', roundE_not (unhide Hi) (by rw [hx, hy]; rfl), ← unhide Hkn]))
              have Hx := hide hx
              clear hx
              go_wp2_with fail
              go_at_call 50
              refine (unhide HM _ _ _ _ _ ((unhide HCb).alloc _) ((unhide Hk').below ((Below.refl _ _).alloc (Nat.le_refl _) _))).mono ?_
              rintro e w' ⟨rfl, hb'⟩
              rw [unhide Hx]
              have HB' := hide (((unhide HBb).alloc _).ofBelow hb' rfl)
              have HC' := hide (((unhide HCb).alloc _).below hb')
              obtain ⟨x0, x1, x2, x3, x4, x6, x7, x8, xf, hxl⟩ := eight (below_keep hb' (heap_alloc_new _ _) (Nat.le_refl _))
              clear hb'
              go_wp2_with fail
              go_roundg (gk - 1)
              case measure => omega
              case rel => exact ⟨m, k + 1, rb, rfl, by go_num, by omega, by omega, HLb, HE, HC', HDb, HB'⟩
        · have hk0 : ra.length - k = 0 := by omega
          have HE := hide ((unhide HR).trans (by rw [hk0, roundE]))
          clear hk0
          obtain ⟨jj, rfl⟩ : ∃ x, j = x + 1 := ⟨j - 1, by omega⟩
          go_wp2_with fail
          go_roundg (K0 - 1)
          case measure => omega
          case rel =>
            refine ⟨m, jj, rb, rfl, (unhide HLb).trans (unhide HL), ?_, ?_, ?_, HCb, HDb, HBb⟩
            · cases m
              · exact (fixE_no (unhide HE) rfl).symm.trans (unhide HX)
              · exact (fixE_yes (unhide HE) rfl).symm.trans (unhide HX)
            · intro hm
              have := roundE_open F ra.length 0 ra false
              rw [unhide HE] at this
              have := this.2 hm
              simp at this
              exact ⟨by omega, by omega⟩
            · intro hm; omega
end Go.Proofs.Ytdofpbbahamkkaa
