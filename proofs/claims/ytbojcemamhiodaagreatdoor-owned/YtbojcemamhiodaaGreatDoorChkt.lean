import Derived.Test.YtbojcemamhiodaaGreatDoorChks
import Derived.Test.YtbojcemamhiodaaGreatDoorParse
namespace Go.Proofs.YtbojcemamhiodaaGreatDoor
open Go.RowKit

theorem roundE_some {F n i : Nat} {rs : List Rl} {m : Bool} {r : Rl} (h : rs[i]? = some r) (hx : (mayE rs (F + 1) r.body && !r.empty) = true) : roundE F (n + 1) i rs m = roundE F n (i + 1) (setE rs i) true := by rw [roundE, h]; simp only [hx]; rfl
theorem roundE_not {F n i : Nat} {rs : List Rl} {m : Bool} {r : Rl} (h : rs[i]? = some r) (hx : (mayE rs (F + 1) r.body && !r.empty) = false) : roundE F (n + 1) i rs m = roundE F n (i + 1) rs m := by rw [roundE, h]; simp only [hx]; rfl
theorem roundE_length (F : Nat) : ∀ (n i : Nat) (rs : List Rl) (m : Bool), (roundE F n i rs m).1.length = rs.length
  | 0, _, _, _ => rfl
  | n + 1, i, rs, m => by
    unfold roundE
    split
    · split
      · rw [roundE_length, setE_length]
      · exact roundE_length F n _ _ _
    · exact roundE_length F n _ _ _
theorem fixE_yes {F k : Nat} {rs : List Rl} {p : List Rl × Bool} (h : roundE F rs.length 0 rs false = p) (hx : p.2 = true) : fixE F (k + 1) rs = fixE F k p.1 := by rw [fixE, h, if_pos hx]
theorem fixE_no {F k : Nat} {rs : List Rl} {p : List Rl × Bool} (h : roundE F rs.length 0 rs false = p) (hx : p.2 = false) : fixE F (k + 1) rs = p.1 := by rw [fixE, h, if_neg (by simp [hx])]

theorem But.ofBelow {q n : Nat} {w w1 w2 : World} (h : But q w w1) (hb : Below n w1 w2) (hn : n = w1.heap.size) : But q w w2 := h.below hb (by rw [hn]; exact h.size)

set_option maxHeartbeats 4000000 in
theorem findEmpty_any (w : World) (S : Nat → Prop) (c g cap F : Nat) (rs : List Rl) (hc : Ck w S c g cap rs) (hF : DeepF F rs) (hS : ∀ b, S b → b ≠ g) (hcg : c ≠ g) :
    Calls Tryz.prog 56 #[.pointer (some ⟨c, 0, none⟩)] w fun e w' => e = .returned (.tuple #[]) ∧ Ck w' S c g cap (fixE F 13 rs) ∧ DeepF F (fixE F 13 rs) ∧ But g w w' := by
  have hn := hc.few
  have ho := open_le rs
  have Hc := hide hc
  have HF := hide hF
  have HS' := hide hS
  have hgc : g ≠ c := fun e => hcg e.symm
  clear hc hF hS
  go_enter Tryz.func56, Tryz.ntmps56
  go_wp2_with fail
  go_loopg [2] 15 (fun k v wr => ∃ (m : Bool) (j : Nat) (ra : List Rl), v = .bool m ∧ Hid (ra.length = rs.length) ∧ Hid ((if m = true then fixE F j ra else ra) = fixE F 13 rs) ∧ (m = true → open_ ra < j ∧ j < k) ∧ (m = false → 0 < k) ∧ Hid (Ck wr S c g cap ra) ∧ Hid (DeepF F ra) ∧ Hid (But g w wr))
  case atStart => exact ⟨true, 13, rs, rfl, rfl, rfl, fun _ => ⟨by omega, by omega⟩, fun h => by simp at h, unhide Hc, unhide HF, But.refl _ _⟩
  case round =>
    obtain ⟨m, j, ra, rfl, HL, HX, hm1, hm2, HC, HD, HB⟩ := hrel
    generalize gk = K0 at *
    cases m
    · go_wp2
      go_end0
      have hx : ra = fixE F 13 rs := unhide HX
      rw [← hx]
      exact ⟨rfl, unhide HC, unhide HD, unhide HB⟩
    · obtain ⟨hj1, hj2⟩ := hm1 rfl
      obtain ⟨cc, hltc⟩ := (unhide HC).cells
      have hltg := (unhide HC).row.lt
      have hna := (unhide HC).few
      clear hm1 hm2
      go_wp2_with fail
      go_loopg [2, 12] 13 (fun kk v i wi => ∃ (m : Bool) (k : Nat) (rb : List Rl), v = .bool m ∧ i = .int .i64 k ∧ k ≤ ra.length ∧ ra.length - k < kk ∧ Hid (rb.length = ra.length) ∧ Hid (roundE F ra.length 0 ra false = roundE F (ra.length - k) k rb m) ∧ Hid (Ck wi S c g cap rb) ∧ Hid (DeepF F rb) ∧ Hid (But g w wi))
      case atStart => exact ⟨false, 0, ra, rfl, rfl, Nat.zero_le _, by omega, rfl, rfl, unhide HC, unhide HD, unhide HB⟩
      case round =>
        obtain ⟨m, k, rb, rfl, rfl, hk, hkk, HLb, HR, HCb, HDb, HBb⟩ := hrel
        by_cases hlt2 : k < ra.length
        · obtain ⟨n', hn'⟩ : ∃ n', ra.length - k = n' + 1 := ⟨ra.length - k - 1, by omega⟩
          have hil : k < rb.length := by have := unhide HLb; omega
          have hi : rb[k]? = some rb[k] := List.getElem?_eq_getElem hil
          have hzb := (unhide HBb).size
          obtain ⟨ao, nk, cp, ⟨h', hk'⟩, a0, a1, a2, a3, a4, a6, a7, a8, af⟩ := (unhide HCb).row.at k _ hi
          have Hk' := hide (hk'.deep (unhide HDb) hi)
          have HM := hide (mayBeEmpty_all S c g cap rb F).1
          have hltgb := (unhide HCb).row.lt
          have Hi := hide hi
          have Hn' := hide hn'
          have hkn : ra.length - (k + 1) = n' := by omega
          have Hkn := hide hkn
          clear hk' hi hn' hkn
          cases hx : mayE rb (F + 1) rb[k].body
          · have HE := hide ((unhide HR).trans (by rw [unhide Hn', roundE_not (unhide Hi) (by rw [hx]; rfl), ← unhide Hkn]))
            have Hx := hide hx
            clear hx
            go_wp2_with fail
            go_at_call 86
            refine (unhide HM _ _ _ _ _ ((unhide HCb).alloc _) ((unhide Hk').below ((Below.refl _ _).alloc (Nat.le_refl _) _))).mono ?_
            rintro e w' ⟨rfl, hb'⟩
            rw [unhide Hx]
            have HB' := hide (((unhide HBb).alloc _).ofBelow hb' rfl)
            have HC' := hide (((unhide HCb).alloc _).below hb')
            obtain ⟨x0, x1, x2, x3, x4, x6, x7, x8, xf, hxl⟩ := eight (below_keep hb' (heap_alloc_new _ _) (Nat.le_refl _))
            clear hb'
            go_wp2_with fail
            go_roundg (gk - 1)
            case measure => omega
            case rel => exact ⟨m, k + 1, rb, rfl, by go_num, by omega, by omega, HLb, HE, HC', HDb, HB'⟩
          · cases hy : rb[k].empty
            · have HE := hide ((unhide HR).trans (by rw [unhide Hn', roundE_some (unhide Hi) (by rw [hx, hy]; rfl), ← unhide Hkn]))
              have Hx := hide hx
              clear hx
              go_wp2_with fail
              go_at_call 86
              refine (unhide HM _ _ _ _ _ ((unhide HCb).alloc _) ((unhide Hk').below ((Below.refl _ _).alloc (Nat.le_refl _) _))).mono ?_
              rintro e w' ⟨rfl, hb'⟩
              rw [unhide Hx]
              have HB' := hide (((unhide HBb).alloc _).ofBelow hb' rfl)
              have HC' := hide (((unhide HCb).alloc _).below hb')
              obtain ⟨x0, x1, x2, x3, x4, x6, x7, x8, xf, hxl⟩ := eight (below_keep hb' (heap_alloc_new _ _) (Nat.le_refl _))
              clear hb'
              obtain ⟨ao', nk', cp', _, b0, b1, b2, b3, b4, b6, b7, b8, bf⟩ := (unhide HC').row.at k _ (unhide Hi)
              obtain ⟨cb, hltb⟩ := (unhide HC').cells
              rw [unhide HLb] at cb
              go_wp2_with fail
              go_roundg (gk - 1)
              case measure => omega
              case rel => exact ⟨true, k + 1, setE rb k, rfl, by go_num, by omega, by omega, (setE_length _ _).trans (unhide HLb), HE, (unhide HC').setE (unhide HS') hcg k hil, (unhide HDb).setE k, (unhide HB').setCell (.inl rfl) _⟩
            · have HE := hide ((unhide HR).trans (by rw [unhide Hn', roundE_not (unhide Hi) (by rw [hx, hy]; rfl), ← unhide Hkn]))
              have Hx := hide hx
              clear hx
              go_wp2_with fail
              go_at_call 86
              refine (unhide HM _ _ _ _ _ ((unhide HCb).alloc _) ((unhide Hk').below ((Below.refl _ _).alloc (Nat.le_refl _) _))).mono ?_
              rintro e w' ⟨rfl, hb'⟩
              rw [unhide Hx]
              have HB' := hide (((unhide HBb).alloc _).ofBelow hb' rfl)
              have HC' := hide (((unhide HCb).alloc _).below hb')
              obtain ⟨x0, x1, x2, x3, x4, x6, x7, x8, xf, hxl⟩ := eight (below_keep hb' (heap_alloc_new _ _) (Nat.le_refl _))
              clear hb'
              go_wp2_with fail
              go_roundg (gk - 1)
              case measure => omega
              case rel => exact ⟨m, k + 1, rb, rfl, by go_num, by omega, by omega, HLb, HE, HC', HDb, HB'⟩
        · have hk0 : ra.length - k = 0 := by omega
          have HE := hide ((unhide HR).trans (by rw [hk0, roundE]))
          clear hk0
          obtain ⟨jj, rfl⟩ : ∃ x, j = x + 1 := ⟨j - 1, by omega⟩
          go_wp2_with fail
          go_roundg (K0 - 1)
          case measure => omega
          case rel =>
            refine ⟨m, jj, rb, rfl, (unhide HLb).trans (unhide HL), ?_, ?_, ?_, HCb, HDb, HBb⟩
            · cases m
              · exact (fixE_no (unhide HE) rfl).symm.trans (unhide HX)
              · exact (fixE_yes (unhide HE) rfl).symm.trans (unhide HX)
            · intro hm
              have := roundE_open F ra.length 0 ra false
              rw [unhide HE] at this
              have := this.2 hm
              simp at this
              exact ⟨by omega, by omega⟩
            · intro hm; omega
end Go.Proofs.YtbojcemamhiodaaGreatDoor
namespace Go.Proofs.YtbojcemamhiodaaGreatDoor
open Go.RowKit

def bitI (i : Int) : Int := ((2 ^ i.toNat : Nat) : Int)

set_option maxHeartbeats 1000000 in
theorem bit_any (i : Nat) (w : World) (h : i < 12) :
    Calls Tryz.prog 88 #[.int .i64 i] w fun e w' => e = .returned (.int .i64 (bitI i)) ∧ w' = w := by
  have h2 : 2 ^ i ≤ 2 ^ 11 := Nat.pow_le_pow_right (by omega) (by omega)
  have H2 := hide h2
  clear h2
  go_enter Tryz.func88, Tryz.ntmps88
  go_wp2
  go_ret
  refine ⟨ret_int ?_, rfl⟩
  have h3 := unhide H2
  unfold bitI
  simp only [Int.toNat_natCast]
  have e : ((2 : Int) ^ i) = ((2 ^ i : Nat) : Int) := by simp
  rw [e]
  generalize 2 ^ i = x at h3
  unfold wrap64
  omega

def leftL : List Rl → Nat → Int
  | [], _ => -1
  | r :: rs, i => if (bits .and .i64 r.begins (bitI i) != 0) = true then r.at_ else leftL rs (i + 1)

set_option maxHeartbeats 1000000 in
theorem left_any (w : World) (S : Nat → Prop) (c g cap : Nat) (rs : List Rl) (hc : Ck w S c g cap rs) :
    Calls Tryz.prog 58 #[.pointer (some ⟨c, 0, none⟩)] w fun e w' => e = .returned (.int .i64 (leftL rs 0)) ∧ Below w.heap.size w w' := by
  have hn := hc.few
  have Hc := hide hc
  obtain ⟨cc, hlt⟩ := hc.cells
  have hltg := hc.row.lt
  clear hc
  go_enter Tryz.func58, Tryz.ntmps58
  go_wp2
  go_loopw [10] (fun i wr => ∃ k : Nat, k ≤ rs.length ∧ i = .int .i64 k ∧ Hid (leftL rs 0 = leftL (rs.drop k) k) ∧ Hid (Below w.heap.size w wr)) (fun i _ => rs.length - (intOf i).toNat)
  case atStart => exact ⟨0, Nat.zero_le _, rfl, rfl, Below.refl _ _⟩
  case round =>
    obtain ⟨k, hk, rfl, HS, HB⟩ := hrel
    have hzb := (unhide HB).size
    by_cases hlt2 : k < rs.length
    · have hi : rs[k]? = some rs[k] := List.getElem?_eq_getElem hlt2
      obtain ⟨ao, n, cp, _, a0, a1, a2, a3, a4, a6, a7, a8, _⟩ := ((unhide Hc).below (unhide HB)).row.at k _ hi
      have hd : rs.drop k = rs[k] :: rs.drop (k + 1) := List.drop_eq_getElem_cons hlt2
      cases hx : (bits .and .i64 rs[k].begins (bitI k) != 0)
      · have HE : Hid (leftL rs 0 = leftL (rs.drop (k + 1)) (k + 1)) := by
          refine (unhide HS).trans ?_
          rw [hd, leftL, if_neg (by simp [hx])]
        clear hd hi
        go_wp2_with fail
        go_region_held3 (fun w' => w'.cell? ⟨wr.heap.size, 7, none⟩ = some (.int .i64 rs[k].begins)) (go_keep)
          (first | (go_at_call 88; refine (bit_any _ _ (by omega)).mono ?_; rintro e w4 ⟨rfl, rfl⟩))
        go_wp2_with fail
        go_roundw
        case rel => exact ⟨k + 1, by omega, by go_num, HE, ((unhide HB).alloc (by omega) _).drew⟩
        case measure => simp [intOf]; omega
      · have HE : Hid (leftL rs 0 = rs[k].at_) := by
          refine (unhide HS).trans ?_
          rw [hd, leftL, if_pos hx]
        clear hd hi
        go_wp2_with fail
        go_region_held3 (fun w' => w'.cell? ⟨wr.heap.size, 7, none⟩ = some (.int .i64 rs[k].begins)) (go_keep)
          (first | (go_at_call 88; refine (bit_any _ _ (by omega)).mono ?_; rintro e w4 ⟨rfl, rfl⟩))
        go_wp2
        go_ret
        exact ⟨ret_int (unhide HE).symm, ((unhide HB).alloc (by omega) _).drew⟩
    · have HE : Hid (leftL rs 0 = -1) := by
        refine (unhide HS).trans ?_
        rw [List.drop_eq_nil_of_le (by omega)]; rfl
      go_wp2
      go_ret
      exact ⟨ret_int (unhide HE).symm, unhide HB⟩
end Go.Proofs.YtbojcemamhiodaaGreatDoor
namespace Go.Proofs.YtbojcemamhiodaaGreatDoor
open Go.RowKit

def orI (a b : Int) : Int := bits .or .i64 a b
def beginsAt (rs : List Rl) (i : Int) : Int := match rs[i.toNat]? with | some r => r.begins | none => 0
theorem beginsAt_of {rs : List Rl} {i : Nat} {r : Rl} (h : rs[i]? = some r) : beginsAt rs i = r.begins := by simp [beginsAt, h]

def begL (f : Nd → Int) (e : Nd → Bool) (row : Bool) : List Nd → Int → Int
  | [], s => s
  | t :: ts, s => if row = true then (if e t = true then begL f e row ts (orI s (f t)) else orI s (f t)) else begL f e row ts (orI s (f t))
def begN (rs : List Rl) : Nat → Nd → Int
  | 0, _ => 0
  | F + 1, n => if n.kind = 2 then (if findF rs n.text < 0 then 0 else orI (bitI (findF rs n.text)) (beginsAt rs (findF rs n.text))) else begL (begN rs F) (mayE rs F) (n.kind == 5) n.kids 0

def SaidB (S : Nat → Prop) (c g cap : Nat) (rs : List Rl) (F : Nat) : Prop := ∀ w n ao nk cp, Ck w S c g cap rs → IsK w S F (.slice ao nk cp) n.kids →
  Calls Tryz.prog 87 #[.pointer (some ⟨c, 0, none⟩), .agg #[.int .i64 n.kind, .int .i64 n.at_, .string n.text, .slice ao nk cp]] w fun e w' => e = .returned (.int .i64 (begN rs (F + 1) n)) ∧ Below w.heap.size w w'

set_option maxHeartbeats 4000000 in
theorem mayBegin_step (S : Nat → Prop) (c g cap : Nat) (rs : List Rl) (F : Nat) (hM : ∀ F', F = F' + 1 → SaidB S c g cap rs F') : SaidB S c g cap rs F := by
  intro w n ao nk cp hc hk
  have hln := hk.len
  subst hln
  have hl := hk.maxlen
  obtain ⟨cc, hlt⟩ := hc.cells
  have hn := hc.few
  have hltg := hc.row.lt
  have Hc := hide hc
  have Hk := hide hk
  have HM := hide hM
  clear hc hk hM
  by_cases h2 : n.kind = 2
  · have b2 : (n.kind == 2) = true := by simp [h2]
    rcases findF_range rs n.text with hf | ⟨hf, hf'⟩
    · have HE : Hid (begN rs (F + 1) n = 0) := by rw [begN, if_pos h2, if_pos (by omega)]; rfl
      have hneg : findF rs n.text < 0 := by omega
      clear h2 hf
      go_enter Tryz.func87, Tryz.ntmps87
      go_wp2_with fail
      go_region_held3 (fun w' => w'.cell? ⟨c, 0, none⟩ = some (.slice (some ⟨g, 0, none⟩) rs.length cap) ∧ w'.cell? ⟨w.heap.size, 2, none⟩ = some (.string n.text)) (go_keep)
        (first | (go_at_call 84; refine (find_any _ _ _ _ _ _ ((unhide Hc).alloc _).drew.row hn).mono ?_; rintro e w4 ⟨rfl, hb4⟩; have hb5 := hide (below_drew hb4); clear hb4; obtain ⟨z0, hz0⟩ := (((unhide Hc).alloc _).below (unhide hb5)).cells; obtain ⟨y0, y1, y2, y3, yf, hy⟩ := four (below_keep (unhide hb5) (heap_alloc_new w _) (Nat.le_refl _))))
      go_wp2
      go_ret
      exact ⟨ret_int (unhide HE).symm, ((Below.refl _ _).alloc (Nat.le_refl _) _).trans ((unhide hb5).mono (by simp))⟩
    · obtain ⟨i, hi⟩ : ∃ i : Nat, findF rs n.text = i := ⟨(findF rs n.text).toNat, by omega⟩
      have hil : i < rs.length := by omega
      have hir : rs[i]? = some rs[i] := List.getElem?_eq_getElem hil
      have HE := hide (show begN rs (F + 1) n = orI (bitI i) rs[i].begins from by rw [begN, if_pos h2, if_neg (by omega), hi, beginsAt_of hir])
      have Hi := hide hi
      have Hir := hide hir
      clear h2 hf hf' hi hir
      go_enter Tryz.func87, Tryz.ntmps87
      go_wp2_with fail
      go_region_held3 (fun w' => w'.cell? ⟨c, 0, none⟩ = some (.slice (some ⟨g, 0, none⟩) rs.length cap) ∧ w'.cell? ⟨w.heap.size, 2, none⟩ = some (.string n.text)) (go_keep)
        (first | (go_at_call 84; refine (find_any _ _ _ _ _ _ ((unhide Hc).alloc _).drew.row hn).mono ?_; rintro e w4 ⟨rfl, hb4⟩; rw [unhide Hi]; have hb5 := hide (below_drew hb4); clear hb4; obtain ⟨z0, hz0⟩ := (((unhide Hc).alloc _).below (unhide hb5)).cells; obtain ⟨y0, y1, y2, y3, yf, hy⟩ := four (below_keep (unhide hb5) (heap_alloc_new w _) (Nat.le_refl _))))
      obtain ⟨ao2, n2, cp2, _, a0, a1, a2, a3, a4, a6, a7, a8, _⟩ := (((unhide Hc).alloc _).below (unhide hb5)).row.at i _ (unhide Hir)
      have hi0 : (0 : Int) ≤ (i : Int) := by omega
      have hi1 : (i : Int) < (rs.length : Int) := by omega
      go_wp2_with fail
      go_region_held3 (fun w' => w'.cell? ⟨c, 0, none⟩ = some (.slice (some ⟨g, 0, none⟩) rs.length cap) ∧ w'.cell? ⟨g, i * 8 + 7, none⟩ = some (.int .i64 rs[i].begins)) (go_keep)
        (first | (go_at_call 88; refine (bit_any _ _ (by omega)).mono ?_; rintro e w6 ⟨rfl, rfl⟩))
      go_wp2
      go_ret
      exact ⟨ret_int (unhide HE).symm, (((Below.refl _ _).alloc (Nat.le_refl _) _).trans ((unhide hb5).mono (by simp))).drew⟩
  · have b2 : (n.kind == 2) = false := by simp [h2]
    have HE : Hid (begN rs (F + 1) n = begL (begN rs F) (mayE rs F) (n.kind == 5) n.kids 0) := by rw [begN, if_neg h2]; rfl
    clear h2
    have hW := hide ((Below.refl w.heap.size w).alloc (Nat.le_refl _) (.cells #[.int .i64 n.kind, .int .i64 n.at_, .string n.text, .slice ao n.kids.length cp] 118))
    have hN := hide (heap_alloc_new w (.cells #[.int .i64 n.kind, .int .i64 n.at_, .string n.text, .slice ao n.kids.length cp] 118))
    go_enter Tryz.func87, Tryz.ntmps87
    go_wp2_with fail
    go_loopw [6, 37] (fun v i wr => ∃ (k : Nat) (x : Int), k ≤ n.kids.length ∧ v = .int .i64 x ∧ i = .int .i64 k ∧ Hid (begN rs (F + 1) n = begL (begN rs F) (mayE rs F) (n.kind == 5) (n.kids.drop k) x) ∧ Hid (Below w.heap.size w wr) ∧
        Hid (wr.heap[w.heap.size]? = some (.cells #[.int .i64 n.kind, .int .i64 n.at_, .string n.text, .slice ao n.kids.length cp] 118))) (fun _ i _ => n.kids.length - (intOf i).toNat)
    case atStart => exact ⟨0, 0, Nat.zero_le _, rfl, rfl, HE, unhide hW, unhide hN⟩
    case round =>
      obtain ⟨k, x, hk, rfl, rfl, HS, HB, HN⟩ := hrel
      have hzb := (unhide HB).size
      by_cases hlt2 : k < n.kids.length
      · have hi : n.kids[k]? = some n.kids[k] := List.getElem?_eq_getElem hlt2
        cases F with
        | zero => have := (unhide Hk).2; rw [this] at hlt2; simp at hlt2
        | succ F =>
          obtain ⟨g', rfl, hg', hcp, ao', n', cp', hk', a0, a1, a2, a3⟩ := ((unhide Hk).below (unhide HB)).at k _ hi
          have hd : n.kids.drop k = n.kids[k] :: n.kids.drop (k + 1) := List.drop_eq_getElem_cons hlt2
          have Hk' := hide hk'
          have HM' := hide (unhide HM F rfl)
          have HE' := hide (mayBeEmpty_all S c g cap rs F).1
          clear hk'
          cases hrow : (n.kind == 5)
          · have b5 : (n.kind != 5) = true := by simpa using hrow
            have HE : Hid (begN rs (F + 1 + 1) n = begL (begN rs (F + 1)) (mayE rs (F + 1)) false (n.kids.drop (k + 1)) (orI x (begN rs (F + 1) n.kids[k]))) := by
              refine (unhide HS).trans ?_
              rw [hrow, hd, begL, if_neg (by simp)]
            clear hd hi hrow
            go_wp2_with (go_at_call 87; refine (unhide HM' _ _ _ _ _ (((unhide Hc).below (unhide HB)).alloc _) ((unhide Hk').below ((Below.refl _ _).alloc (Nat.le_refl _) _))).mono ?_; rintro e w' ⟨rfl, hb'⟩; have hN' := hide (below_keep hb' (heap_old (unhide HN)) (Nat.le_refl _)); obtain ⟨y0, y1, y2, y3, yf, hy⟩ := four (unhide hN'))
            go_roundw
            case rel => exact ⟨k + 1, _, by omega, rfl, by go_num, HE, ((unhide HB).alloc (by omega) _).trans (hb'.mono (by simp; omega)), unhide hN'⟩
            case measure => simp [intOf]; omega
          · have b5 : (n.kind != 5) = false := by simpa using hrow
            cases hx : mayE rs (F + 1) n.kids[k]
            · have HE : Hid (begN rs (F + 1 + 1) n = orI x (begN rs (F + 1) n.kids[k])) := by
                refine (unhide HS).trans ?_
                rw [hd, begL, if_pos hrow, if_neg (by simp [hx])]
              have Hx := hide hx
              clear hd hi hrow hx
              go_wp2_with (first | (go_at_call 87; refine (unhide HM' _ _ _ _ _ (((unhide Hc).below (unhide HB)).alloc _) ((unhide Hk').below ((Below.refl _ _).alloc (Nat.le_refl _) _))).mono ?_; rintro e w' ⟨rfl, hb'⟩; have hN' := hide (below_keep hb' (heap_old (unhide HN)) (Nat.le_refl _)); obtain ⟨y0, y1, y2, y3, yf, hy⟩ := four (unhide hN'); obtain ⟨m0, m1, m2, m3, mf, hm⟩ := four (below_keep hb' (heap_alloc_new _ _) (Nat.le_refl _))) | (go_at_call 86; refine (unhide HE' _ _ _ _ _ ((((unhide Hc).below (unhide HB)).alloc _).below hb') (((unhide Hk').below ((Below.refl _ _).alloc (Nat.le_refl _) _)).below hb')).mono ?_; rintro e w'' ⟨rfl, hb''⟩; rw [unhide Hx]))
              go_ret
              exact ⟨ret_int (unhide HE).symm, (((unhide HB).alloc (by omega) _).trans (hb'.mono (by simp; omega))).trans (hb''.mono (by have := hb'.size; simp at this; omega))⟩
            · have HE : Hid (begN rs (F + 1 + 1) n = begL (begN rs (F + 1)) (mayE rs (F + 1)) true (n.kids.drop (k + 1)) (orI x (begN rs (F + 1) n.kids[k]))) := by
                refine (unhide HS).trans ?_
                rw [hrow, hd, begL, if_pos rfl, if_pos hx]
              have Hx := hide hx
              clear hd hi hrow hx
              go_wp2_with (first | (go_at_call 87; refine (unhide HM' _ _ _ _ _ (((unhide Hc).below (unhide HB)).alloc _) ((unhide Hk').below ((Below.refl _ _).alloc (Nat.le_refl _) _))).mono ?_; rintro e w' ⟨rfl, hb'⟩; have hN' := hide (below_keep hb' (heap_old (unhide HN)) (Nat.le_refl _)); obtain ⟨y0, y1, y2, y3, yf, hy⟩ := four (unhide hN'); obtain ⟨m0, m1, m2, m3, mf, hm⟩ := four (below_keep hb' (heap_alloc_new _ _) (Nat.le_refl _))) | (go_at_call 86; refine (unhide HE' _ _ _ _ _ ((((unhide Hc).below (unhide HB)).alloc _).below hb') (((unhide Hk').below ((Below.refl _ _).alloc (Nat.le_refl _) _)).below hb')).mono ?_; rintro e w'' ⟨rfl, hb''⟩; rw [unhide Hx]))
              go_roundw
              case rel => exact ⟨k + 1, _, by omega, rfl, by go_num, HE, (((unhide HB).alloc (by omega) _).trans (hb'.mono (by simp; omega))).trans (hb''.mono (by have := hb'.size; simp at this; omega)), below_keep hb'' (unhide hN') (Nat.le_refl _)⟩
              case measure => simp [intOf]; omega
      · have HE : Hid (begN rs (F + 1) n = x) := by
          refine (unhide HS).trans ?_
          rw [List.drop_eq_nil_of_le (by omega)]; rfl
        go_wp2
        go_ret
        exact ⟨ret_int (unhide HE).symm, unhide HB⟩

theorem mayBegin_all (S : Nat → Prop) (c g cap : Nat) (rs : List Rl) : ∀ F, SaidB S c g cap rs F
  | 0 => mayBegin_step S c g cap rs 0 fun F' h => by omega
  | F + 1 => mayBegin_step S c g cap rs (F + 1) fun F' h => by
    have : F' = F := by omega
    rw [this]
    exact mayBegin_all S c g cap rs F
end Go.Proofs.YtbojcemamhiodaaGreatDoor
namespace Go.Proofs.YtbojcemamhiodaaGreatDoor
open Go.RowKit

/-- one round of findBegins -/
def roundB (F : Nat) : Nat → Nat → List Rl → Bool → List Rl × Bool
  | 0, _, rs, m => (rs, m)
  | n + 1, i, rs, m =>
    match rs[i]? with
    | some r => if (begN rs (F + 1) r.body != r.begins) = true then roundB F n (i + 1) (setB rs i (begN rs (F + 1) r.body)) true else roundB F n (i + 1) rs m
    | none => roundB F n (i + 1) rs m
/-- the rounds; none: they have not come to an end by then -/
def fixB (F : Nat) : Nat → List Rl → Option (List Rl)
  | 0, _ => none
  | k + 1, rs => if (roundB F rs.length 0 rs false).2 = true then fixB F k (roundB F rs.length 0 rs false).1 else some (roundB F rs.length 0 rs false).1
theorem roundB_some {F n i : Nat} {rs : List Rl} {m : Bool} {r : Rl} (h : rs[i]? = some r) (hx : (begN rs (F + 1) r.body != r.begins) = true) : roundB F (n + 1) i rs m = roundB F n (i + 1) (setB rs i (begN rs (F + 1) r.body)) true := by rw [roundB, h]; simp only [hx]; rfl
theorem roundB_not {F n i : Nat} {rs : List Rl} {m : Bool} {r : Rl} (h : rs[i]? = some r) (hx : (begN rs (F + 1) r.body != r.begins) = false) : roundB F (n + 1) i rs m = roundB F n (i + 1) rs m := by rw [roundB, h]; simp only [hx]; rfl
theorem fixB_yes {F k : Nat} {rs : List Rl} {p : List Rl × Bool} (h : roundB F rs.length 0 rs false = p) (hx : p.2 = true) : fixB F (k + 1) rs = fixB F k p.1 := by rw [fixB, h, if_pos hx]
theorem fixB_no {F k : Nat} {rs : List Rl} {p : List Rl × Bool} (h : roundB F rs.length 0 rs false = p) (hx : p.2 = false) : fixB F (k + 1) rs = some p.1 := by rw [fixB, h, if_neg (by simp [hx])]

set_option maxHeartbeats 4000000 in
theorem findBegins_any (w : World) (S : Nat → Prop) (c g cap F Z : Nat) (rs rz : List Rl) (hz : fixB F Z rs = some rz) (hc : Ck w S c g cap rs) (hF : DeepF F rs) (hS : ∀ b, S b → b ≠ g) (hcg : c ≠ g) :
    Calls Tryz.prog 57 #[.pointer (some ⟨c, 0, none⟩)] w fun e w' => e = .returned (.tuple #[]) ∧ Ck w' S c g cap rz ∧ DeepF F rz ∧ But g w w' := by
  have hn := hc.few
  have Hc := hide hc
  have HF := hide hF
  have HS' := hide hS
  have Hz := hide hz
  have hgc : g ≠ c := fun e => hcg e.symm
  clear hc hF hS hz
  go_enter Tryz.func57, Tryz.ntmps57
  go_wp2_with fail
  go_loopg [2] (Z + 1) (fun k v wr => ∃ (m : Bool) (j : Nat) (ra : List Rl), v = .bool m ∧ Hid (ra.length = rs.length) ∧ Hid ((if m = true then fixB F j ra else some ra) = some rz) ∧ (m = true → j < k) ∧ (m = false → j < k) ∧ Hid (Ck wr S c g cap ra) ∧ Hid (DeepF F ra) ∧ Hid (But g w wr))
  case atStart => exact ⟨true, Z, rs, rfl, rfl, Hz, fun _ => by omega, fun _ => by omega, unhide Hc, unhide HF, But.refl _ _⟩
  case round =>
    obtain ⟨m, j, ra, rfl, HL, HX, hm1, hm2, HC, HD, HB⟩ := hrel
    generalize gk = K0 at *
    cases m
    · go_wp2
      go_end0
      have hx : some ra = some rz := unhide HX
      injection hx with hx
      rw [← hx]
      exact ⟨rfl, unhide HC, unhide HD, unhide HB⟩
    · have hj2 := hm1 rfl
      obtain ⟨cc, hltc⟩ := (unhide HC).cells
      have hltg := (unhide HC).row.lt
      have hna := (unhide HC).few
      clear hm1 hm2
      go_wp2_with fail
      go_loopg [2, 12] 13 (fun kk v i wi => ∃ (m : Bool) (k : Nat) (rb : List Rl), v = .bool m ∧ i = .int .i64 k ∧ k ≤ ra.length ∧ ra.length - k < kk ∧ Hid (rb.length = ra.length) ∧ Hid (roundB F ra.length 0 ra false = roundB F (ra.length - k) k rb m) ∧ Hid (Ck wi S c g cap rb) ∧ Hid (DeepF F rb) ∧ Hid (But g w wi))
      case atStart => exact ⟨false, 0, ra, rfl, rfl, Nat.zero_le _, by omega, rfl, rfl, unhide HC, unhide HD, unhide HB⟩
      case round =>
        obtain ⟨m, k, rb, rfl, rfl, hk, hkk, HLb, HR, HCb, HDb, HBb⟩ := hrel
        by_cases hlt2 : k < ra.length
        · obtain ⟨n', hn'⟩ : ∃ n', ra.length - k = n' + 1 := ⟨ra.length - k - 1, by omega⟩
          have hil : k < rb.length := by have := unhide HLb; omega
          have hi : rb[k]? = some rb[k] := List.getElem?_eq_getElem hil
          have hzb := (unhide HBb).size
          obtain ⟨ao, nk, cp, ⟨h', hk'⟩, a0, a1, a2, a3, a4, a6, a7, a8, af⟩ := (unhide HCb).row.at k _ hi
          have Hk' := hide (hk'.deep (unhide HDb) hi)
          have HM := hide (mayBegin_all S c g cap rb F)
          have hltgb := (unhide HCb).row.lt
          have Hi := hide hi
          have Hn' := hide hn'
          have hkn : ra.length - (k + 1) = n' := by omega
          have Hkn := hide hkn
          clear hk' hi hn' hkn
          cases hx : (begN rb (F + 1) rb[k].body != rb[k].begins)
          · have HE := hide ((unhide HR).trans (by rw [unhide Hn', roundB_not (unhide Hi) hx, ← unhide Hkn]))
            go_wp2_with fail
            go_at_call 87
            refine (unhide HM _ _ _ _ _ ((unhide HCb).alloc _) ((unhide Hk').below ((Below.refl _ _).alloc (Nat.le_refl _) _))).mono ?_
            rintro e w' ⟨rfl, hb'⟩
            have HB' := hide (((unhide HBb).alloc _).ofBelow hb' rfl)
            have HC' := hide (((unhide HCb).alloc _).below hb')
            obtain ⟨x0, x1, x2, x3, x4, x6, x7, x8, xf, hxl⟩ := eight (below_keep hb' (heap_alloc_new _ _) (Nat.le_refl _))
            clear hb'
            go_wp2_with fail
            go_roundg (gk - 1)
            case measure => omega
            case rel => exact ⟨m, k + 1, rb, rfl, by go_num, by omega, by omega, HLb, HE, HC', HDb, HB'⟩
          · have HE := hide ((unhide HR).trans (by rw [unhide Hn', roundB_some (unhide Hi) hx, ← unhide Hkn]))
            go_wp2_with fail
            go_at_call 87
            refine (unhide HM _ _ _ _ _ ((unhide HCb).alloc _) ((unhide Hk').below ((Below.refl _ _).alloc (Nat.le_refl _) _))).mono ?_
            rintro e w' ⟨rfl, hb'⟩
            have HB' := hide (((unhide HBb).alloc _).ofBelow hb' rfl)
            have HC' := hide (((unhide HCb).alloc _).below hb')
            obtain ⟨x0, x1, x2, x3, x4, x6, x7, x8, xf, hxl⟩ := eight (below_keep hb' (heap_alloc_new _ _) (Nat.le_refl _))
            clear hb'
            obtain ⟨ao', nk', cp', _, b0, b1, b2, b3, b4, b6, b7, b8, bf⟩ := (unhide HC').row.at k _ (unhide Hi)
            obtain ⟨cb, hltb⟩ := (unhide HC').cells
            rw [unhide HLb] at cb
            go_wp2_with fail
            go_roundg (gk - 1)
            case measure => omega
            case rel => exact ⟨true, k + 1, setB rb k _, rfl, by go_num, by omega, by omega, (setB_length _ _ _).trans (unhide HLb), HE, (unhide HC').setB (unhide HS') hcg k _ hil, (unhide HDb).setB _ k, (unhide HB').setCell (.inl rfl) _⟩
        · have hk0 : ra.length - k = 0 := by omega
          have HE := hide ((unhide HR).trans (by rw [hk0, roundB]))
          clear hk0
          cases j with
          | zero =>
            have hx : fixB F 0 ra = some rz := unhide HX
            simp [fixB] at hx
          | succ jj =>
            go_wp2_with fail
            go_roundg (K0 - 1)
            case measure => omega
            case rel =>
              refine ⟨m, jj, rb, rfl, (unhide HLb).trans (unhide HL), ?_, ?_, ?_, HCb, HDb, HBb⟩
              · cases m
                · exact (fixB_no (unhide HE) rfl).symm.trans (unhide HX)
                · exact (fixB_yes (unhide HE) rfl).symm.trans (unhide HX)
              · intro hm; omega
              · intro hm; omega
end Go.Proofs.YtbojcemamhiodaaGreatDoor
namespace Go.Proofs.YtbojcemamhiodaaGreatDoor
open Go.RowKit

def check3 (F : Nat) (rz : List Rl) : Int × Int :=
  if (leftL rz 0 != -1) = true then (7, leftL rz 0) else if (firstR (loopN rz (F + 1)) rz != -1) = true then (8, firstR (loopN rz (F + 1)) rz) else (0, 0)
def check2 (F Z : Nat) (rs : List Rl) : Option (Int × Int) :=
  if (twiceL rs rs 0 != -1) = true then some (5, twiceL rs rs 0) else
  if (firstR (unkN rs (F + 1)) rs != -1) = true then some (6, firstR (unkN rs (F + 1)) rs) else
  (fixB F Z (fixE F 13 rs)).map (check3 F)
def checkF (F Z : Nat) (rs : List Rl) : Option (Int × Int) :=
  if rs.length = 0 ∨ 12 < rs.length then some (4, 0) else check2 F Z rs

set_option maxHeartbeats 2000000 in
theorem check_few (w : World) (lo F Z : Nat) (v : Value) (rs : List Rl) (r : Int × Int) (hr : checkF F Z rs = some r) (hg : GrowR w lo v rs) (hn : rs.length = 0 ∨ 12 < rs.length) :
    Calls Tryz.prog 33 #[v] w fun e w' => e = .returned (.tuple #[.int .i64 r.1, .int .i64 r.2]) ∧ Below w.heap.size w w' := by
  obtain ⟨ao, cp, rfl⟩ := hg.shape
  unfold checkF at hr
  rw [if_pos hn] at hr
  injection hr with hr
  subst hr
  clear hg
  rcases hn with hn | hn
  · rw [hn]
    go_enter Tryz.func33, Tryz.ntmps33
    go_wp2
    go_ret2
    exact ⟨rfl, Below.refl _ _⟩
  · have h0 : ((rs.length : Int) == 0) = false := by rw [beq_eq_false_iff_ne]; omega
    go_enter Tryz.func33, Tryz.ntmps33
    go_wp2
    go_ret2
    exact ⟨rfl, Below.refl _ _⟩

theorem Cells8.one {w : World} {S : Nat → Prop} {h : Nat} : ∀ {xs : List Value} {rs : List Rl}, Cells8 (IsK w S h) xs rs → ∀ u ∈ xs, u.oneCell' = true
  | _, [], hx, u, hu => by rw [hx] at hu; simp at hu
  | _, t :: ts, ⟨kv, rest, h1, h2, h3⟩, u, hu => by
    obtain ⟨ao, n, cp, rfl⟩ := h2.shape
    rw [h1] at hu
    rcases List.mem_append.1 hu with hu | hu
    · simp [Rl.cs] at hu
      rcases hu with rfl | rfl | rfl | rfl | rfl | rfl | rfl | rfl | rfl <;> rfl
    · exact Cells8.one h3 u hu

/-- the checker as check lays it -/
theorem ck_new {w w1 : World} {lo n : Nat} {own : Option Nat} {v : Value} {rs : List Rl} {xs : List Value} (h2 : Cells8 (IsK w (fun b => lo ≤ b ∧ own ≠ some b) n) xs rs) (hn0 : 0 < rs.length) (hn1 : rs.length ≤ 12)
    (ho : w1.ownsRow w.heap.size 120 8 v rs.length xs) (hg : (w.alloc (.cells #[] 120)).grownBy w1 (some w.heap.size)) :
    ∃ g cap, v = .slice (some ⟨g, 0, none⟩) rs.length cap ∧ w.heap.size ≤ g ∧ g < w1.heap.size ∧ Ck (w1.alloc (.cells #[.slice (some ⟨g, 0, none⟩) rs.length cap] 124)) (fun b => b < w.heap.size) w1.heap.size g cap rs := by
  rcases ho.2 with ⟨_, hz⟩ | ⟨g, cap, cur, hv, hlo, hh, hc1, hc2, hc3, ht⟩
  · omega
  refine ⟨g, cap, hv, hlo, (Array.getElem?_eq_some_iff.1 hh).1, ⟨heap_alloc_new _ _, ⟨cur, n, xs, heap_old hh, hc1, hc2, hc3, ht, ?_⟩, hn1⟩⟩
  refine Cells8.imp (fun _ _ k => k.turn fun b hS hz => ⟨hz, ?_⟩) h2
  have e1 : w1.heap[b]? = (w.alloc (.cells #[] 120)).heap[b]? := hg.block b (by simp; omega) (fun e => by injection e with e; omega)
  have hz1 : b < w1.heap.size := by have := hg.size; simp at this; omega
  rw [Below.heap_alloc _ _ _ hz1, e1, Below.heap_alloc _ _ _ hz]

theorem grown_below {w w1 : World} {o : Obj} (hg : (w.alloc o).grownBy w1 (some w.heap.size)) : Below w.heap.size w w1 :=
  ((Below.refl _ w).alloc (Nat.le_refl _) o).grown hg (by simp) (fun k hk => by injection hk with hk; omega)

set_option maxRecDepth 4000 in
set_option maxHeartbeats 2000000 in
theorem check_many (w : World) (lo F Z : Nat) (v : Value) (rs : List Rl) (r : Int × Int) (hr : check2 F Z rs = some r) (hg : GrowR w lo v rs) (hn0 : 0 < rs.length) (hn1 : rs.length ≤ 12) (hF : DeepF F rs) :
    Calls Tryz.prog 33 #[v] w fun e w' => e = .returned (.tuple #[.int .i64 r.1, .int .i64 r.2]) ∧ Below w.heap.size w w' := by
  obtain ⟨hh, xs, h1, h2⟩ := hg
  rcases h1.2 with ⟨_, hz⟩ | ⟨g0, cap0, cur0, rfl, hlo, hh0, hcap, hcm, hcs, htake⟩
  · omega
  obtain ⟨i, hi, hz, hsz, hby⟩ := info_parts info54
  have h0 : ((rs.length : Int) == 0) = false := by rw [beq_eq_false_iff_ne]; omega
  have hlt0 : g0 < w.heap.size := (Array.getElem?_eq_some_iff.1 hh0).1
  have Hown0 : Hid ((w.alloc (.cells #[] 120)).ownsRow w.heap.size 120 8 (.slice (some ⟨w.heap.size, 0, none⟩) 0 0) 0 []) := World.ownsRow_made (base := w.heap.size) (e := 120) (size := 8) w #[] 0 (Nat.le_refl _) (by unfold maxLen; omega) rfl
  have Hnews : Hid (∀ j u, xs[j]? = some u → (w.alloc (.cells #[] 120)).cell? ((⟨g0, 0, none⟩ : Addr).add j) = some u) := by
    intro j u hj
    have := h1.cells (g := g0) rfl j u hj
    rw [← this]
    exact World.cell?_of_block (w := w) (Below.heap_alloc _ _ _ (by unfold Addr.add; split <;> exact hlt0))
  have Hone := hide h2.one
  have Hxl := hide h1.1
  have H2 := hide h2
  have HF := hide hF
  have Hr := hide hr
  clear h1 h2 htake hh0 hcs hF hr
  go_enter Tryz.func33, Tryz.ntmps33
  go_wp2_with (first | (at_builtin; refine wpList_append2 _ rfl (.tmp 14) (.tmp 15) 68 rfl w.heap.size 120 i _ 8 96 Tryz.underlying68 hi hz hsz hby rfl (by omega) _ 0 [] rfl (unhide Hown0) ⟨g0, 0, none⟩ rs.length cap0 hn0 xs rfl (unhide Hxl) (unhide Hnews) (unhide Hone) (by unfold maxLen; omega) (by omega) (by simp) ?_) | (go_at_call 54; fail) | go_in)
  intro v' w1 hown1 hgr1 _
  obtain ⟨g, cap, rfl, hg1, hg2, hck⟩ := ck_new (unhide H2) hn0 hn1 hown1 hgr1
  have HB1 := hide (grown_below hgr1)
  have Hck := hide hck
  have hzz := (unhide HB1).size
  clear hown1 hgr1 hck
  have hcg : w1.heap.size ≠ g := by omega
  go_wp2_with fail
  go_at_call 54
  refine (twice_any _ _ _ _ _ _ (unhide Hck)).mono ?_
  rintro e w2 ⟨rfl, hb2⟩
  have Hck2 := hide ((unhide Hck).below hb2)
  have HB2 := hide (((unhide HB1).alloc hzz (.cells #[.slice (some ⟨g, 0, none⟩) rs.length cap] 124)).trans (hb2.mono (by simp; omega)))
  have hz2 := (unhide HB2).size
  clear hb2
  cases hx1 : (twiceL rs rs 0 != -1)
  · have Hr2 : Hid ((if (firstR (unkN rs (F + 1)) rs != -1) = true then some (6, firstR (unkN rs (F + 1)) rs) else (fixB F Z (fixE F 13 rs)).map (check3 F)) = some r) := by
      have := unhide Hr; unfold check2 at this; rw [if_neg (by simp [hx1])] at this; exact this
    go_wp2_with fail
    go_at_call 55
    refine (unknown_any _ _ _ _ _ _ _ (unhide Hck2) (unhide HF)).mono ?_
    rintro e w3 ⟨rfl, hb3⟩
    have Hck3 := hide ((unhide Hck2).below hb3)
    have HB3 := hide ((unhide HB2).trans (hb3.mono hz2))
    have hz3 := (unhide HB3).size
    clear hb3 hx1
    cases hx2 : (firstR (unkN rs (F + 1)) rs != -1)
    · have Hr3 : Hid ((fixB F Z (fixE F 13 rs)).map (check3 F) = some r) := by
        have := unhide Hr2; rw [if_neg (by simp [hx2])] at this; exact this
      obtain ⟨rz, hrz, hr3⟩ : ∃ rz, fixB F Z (fixE F 13 rs) = some rz ∧ check3 F rz = r := by
        have := unhide Hr3
        cases hfb : fixB F Z (fixE F 13 rs) with
        | none => rw [hfb] at this; simp at this
        | some rz => rw [hfb] at this; simp at this; exact ⟨rz, rfl, this⟩
      have Hrz := hide hrz
      have Hr4 := hide hr3
      clear hrz hr3
      go_wp2_with fail
      go_at_call 56
      refine (findEmpty_any _ _ _ _ _ _ _ (unhide Hck3) (unhide HF) (fun b hb => by omega) hcg).mono ?_
      rintro e w4 ⟨rfl, hck4, hF4, hb4⟩
      have Hck4 := hide hck4
      have HF4 := hide hF4
      have HB4 := hide ((unhide HB3).trans (but_below hb4 hg1 hz3))
      have hz4 := (unhide HB4).size
      clear hck4 hF4 hb4 hx2
      go_wp2_with fail
      go_at_call 57
      refine (findBegins_any _ _ _ _ _ _ _ _ _ (unhide Hrz) (unhide Hck4) (unhide HF4) (fun b hb => by omega) hcg).mono ?_
      rintro e w5 ⟨rfl, hck5, hF5, hb5⟩
      have Hck5 := hide hck5
      have HF5 := hide hF5
      have HB5 := hide ((unhide HB4).trans (but_below hb5 hg1 hz4))
      have hz5 := (unhide HB5).size
      clear hck5 hF5 hb5
      go_wp2_with fail
      go_at_call 58
      refine (left_any _ _ _ _ _ _ (unhide Hck5)).mono ?_
      rintro e w6 ⟨rfl, hb6⟩
      have Hck6 := hide ((unhide Hck5).below hb6)
      have HB6 := hide ((unhide HB5).trans (hb6.mono hz5))
      have hz6 := (unhide HB6).size
      clear hb6
      cases hx3 : (leftL rz 0 != -1)
      · have Hr5 : Hid ((if (firstR (loopN rz (F + 1)) rz != -1) = true then (8, firstR (loopN rz (F + 1)) rz) else (0, 0)) = r) := by
          have := unhide Hr4; unfold check3 at this; rw [if_neg (by simp [hx3])] at this; exact this
        go_wp2_with fail
        go_at_call 59
        refine (loop_any _ _ _ _ _ _ _ (unhide Hck6) (unhide HF5)).mono ?_
        rintro e w7 ⟨rfl, hb7⟩
        have HB7 := hide ((unhide HB6).trans (hb7.mono hz6))
        clear hb7 hx3
        cases hx4 : (firstR (loopN rz (F + 1)) rz != -1)
        · go_wp2
          go_ret2
          have e1 := unhide Hr5
          rw [if_neg (by simp [hx4])] at e1
          subst e1
          exact ⟨rfl, unhide HB7⟩
        · go_wp2
          go_ret2
          have e1 := unhide Hr5
          rw [if_pos hx4] at e1
          subst e1
          exact ⟨rfl, unhide HB7⟩
      · go_wp2
        go_ret2
        have e1 := unhide Hr4
        unfold check3 at e1
        rw [if_pos hx3] at e1
        subst e1
        exact ⟨rfl, unhide HB6⟩
    · go_wp2
      go_ret2
      have e1 := unhide Hr2
      rw [if_pos hx2] at e1
      injection e1 with e1
      subst e1
      exact ⟨rfl, unhide HB3⟩
  · go_wp2
    go_ret2
    have e1 := unhide Hr
    unfold check2 at e1
    rw [if_pos hx1] at e1
    injection e1 with e1
    subst e1
    exact ⟨rfl, unhide HB2⟩
end Go.Proofs.YtbojcemamhiodaaGreatDoor
