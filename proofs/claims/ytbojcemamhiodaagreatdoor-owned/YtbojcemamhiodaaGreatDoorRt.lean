import Derived.Test.YtbojcemamhiodaaGreatDoorRp
import Derived.Test.YtbojcemamhiodaaGreatDoorRyg
import Derived.Great.BuildSlice
namespace Go.Proofs.YtbojcemamhiodaaGreatDoor
open Go.RowKit
/-- the tokens of a text from a place on, up to the first that is none -/
def tokL (s : ByteArray) : Nat → Int → List Tk
  | 0, _ => []
  | n + 1, i => if (nextT s i).k < 2 then [nextT s i] else nextT s i :: tokL s n (nextT s i).to
theorem tokL_1 {s : ByteArray} {n : Nat} {i : Int} (h : (nextT s i).k < 2) : tokL s (n + 1) i = [nextT s i] := by rw [tokL, if_pos h]
theorem tokL_2 {s : ByteArray} {n : Nat} {i : Int} (h : ¬ (nextT s i).k < 2) : tokL s (n + 1) i = nextT s i :: tokL s n (nextT s i).to := by rw [tokL, if_neg h]
theorem tokL_len (s : ByteArray) : ∀ (n : Nat) (i : Int), (tokL s n i).length ≤ n
  | 0, _ => by simp [tokL]
  | n + 1, i => by
    have := tokL_len s n (nextT s i).to
    rw [tokL]
    split <;> simp <;> omega
theorem tokL_head (s : ByteArray) : ∀ (n : Nat) (i : Int), 0 < n → (tokL s n i)[0]? = some (nextT s i)
  | 0, _, h => by omega
  | n + 1, i, _ => by
    rw [tokL]
    split <;> rfl
theorem tokL_chain (s : ByteArray) : ∀ (n : Nat) (i : Int), 0 ≤ i → i ≤ s.size → (s.size : Int) < n + i → ∀ (j : Nat) (t : Tk), (tokL s n i)[j]? = some t → TkOk s t ∧ (0 ≤ t.k ∧ t.k ≤ 17) ∧ (2 ≤ t.k → (tokL s n i)[j + 1]? = some (nextT s t.to))
  | 0, i, _, _, _, j, t, h => by simp [tokL] at h
  | n + 1, i, h0, h1, hn, j, t, h => by
    have hk := nextT_ok s i h0 h1
    have hr := nextT_range s i h0 h1
    by_cases h2 : (nextT s i).k < 2
    · rw [tokL_1 h2] at h ⊢
      match j, h with
      | 0, h =>
        have e : nextT s i = t := by simpa using h
        subst e
        exact ⟨hk.1, ⟨hr.1, hr.2.1⟩, fun h => by omega⟩
      | j + 1, h => simp at h
    · have hlt := hk.1.lt (by omega)
      have hz := hk.1.size
      rw [tokL_2 h2] at h ⊢
      match j, h with
      | 0, h =>
        have e : nextT s i = t := by simpa using h
        subst e
        refine ⟨hk.1, ⟨hr.1, hr.2.1⟩, fun _ => ?_⟩
        rw [List.getElem?_cons_succ]
        exact tokL_head s n _ (by omega)
      | j + 1, h =>
        rw [List.getElem?_cons_succ] at h ⊢
        exact tokL_chain s n _ (by omega) hz (by omega) j t h
/-- all tokens -/
def toksT (s : ByteArray) : List Tk := tokL s (s.size + 2) 0
theorem toks_chain (s : ByteArray) (hs : s.size ≤ 400) : ChainT s (toksT s) :=
  ⟨by have := tokL_len s (s.size + 2) 0; unfold toksT; omega, tokL_chain s (s.size + 2) 0 (by omega) (by omega) (by omega)⟩
theorem toks_first (s : ByteArray) : (toksT s)[0]? = some (nextT s 0) := tokL_head s _ 0 (by omega)
theorem tkAt_next {s : ByteArray} {i : Int} {j : Nat} (h : skip s i = j) : tkAt s j = nextT s i := by
  unfold tkAt nextT
  rw [h]
theorem tkAt_from {s : ByteArray} {i : Nat} (h : i ≤ s.size) : (tkAt s i).from_ = i := by
  unfold tkAt
  split
  · show (s.size : Int) = i
    omega
  · rfl
theorem infoTokB : (Tryz.prog.info? 83).map (fun i => (i.zero, i.size, i.bytes)) = some (some (.agg (tokV .empty .empty noB 0).toArray), 259, 296) := by kernel_rfl
theorem fill_tok (C : Array Value) (hC : C.size = 259) (a b : ByteArray) (f : Nat → Bool) (i : Int) : Instr.fill (fun i => some (i * 259, 259)) C [(0, .agg (tokV a b f i).toArray)] = some (tokV a b f i).toArray := by
  have hl := tokV_len a b f i
  generalize tokV a b f i = L at hl ⊢
  have e : (Value.agg L.toArray).cells = L.toArray := rfl
  unfold Instr.fill
  dsimp only
  rw [e, if_neg (by simp [hl, hC])]
  unfold Instr.fill
  congr 1
  have e2 : Array.foldl (fun cs x => cs.setIfInBounds (0 * 259 + x.2) x.1) C L.toArray.zipIdx 0 L.toArray.zipIdx.size = (L.zipIdx 0).foldl (fun cs x => cs.setIfInBounds (0 + x.2) x.1) C := by
    rw [← Array.foldl_toList, Array.toList_zipIdx]
  refine Eq.trans e2 ?_
  apply Array.ext_getElem?
  intro j
  rw [foldl_put]
  by_cases hj : 0 + 0 ≤ j ∧ j < 0 + 0 + L.length ∧ j < C.size
  · rw [if_pos hj, List.getElem?_toArray]; simp
  · rw [if_neg hj, Array.getElem?_eq_none (show C.size ≤ j by omega), Array.getElem?_eq_none (show L.toArray.size ≤ j by rw [List.size_toArray]; omega)]
/-- tokens that the call appends to -/
def GrowK (w : World) (lo : Nat) (v : Value) (s : ByteArray) (ts : List Tk) : Prop := ∃ xs, w.ownsRow lo 83 259 v ts.length xs ∧ CellsK s xs ts
theorem GrowK.nil (w : World) (lo : Nat) (s : ByteArray) : GrowK w lo (.slice none 0 0) s [] := ⟨[], World.ownsRow_nil _ _ _ _, rfl⟩
theorem GrowK.below {w w' : World} {lo : Nat} {v : Value} {s : ByteArray} {ts : List Tk} (h : GrowK w lo v s ts) (hb : Below w.heap.size w w') : GrowK w' lo v s ts := by
  obtain ⟨xs, h1, h2⟩ := h
  exact ⟨xs, own_below h1 hb, h2⟩
theorem GrowK.shape {w : World} {lo : Nat} {v : Value} {s : ByteArray} {ts : List Tk} (h : GrowK w lo v s ts) : ∃ ao cp, v = .slice ao ts.length cp := by
  obtain ⟨xs, h1, h2⟩ := h
  exact own_shape h1
theorem GrowK.lt {w : World} {lo : Nat} {v : Value} {s : ByteArray} {ts : List Tk} (h : GrowK w lo v s ts) : ∀ k, v.ownBlock = some k → lo ≤ k ∧ k < w.heap.size := by
  obtain ⟨xs, h1, h2⟩ := h
  exact h1.lt
theorem GrowK.out {w : World} {lo : Nat} {v : Value} {s : ByteArray} {ts : List Tk} (h : GrowK w lo v s ts) (h0 : ts ≠ []) : ∃ B cap, v = .slice (some ⟨B, 0, none⟩) ts.length cap ∧ lo ≤ B ∧ TokL w B cap s ts := by
  obtain ⟨xs, h1, h2⟩ := h
  rcases h1.2 with ⟨e1, e2⟩ | ⟨g, cap, cur, e1, e2, e3, e4, e5, e6, e7⟩
  · exact absurd (List.length_eq_zero_iff.1 e2) h0
  · exact ⟨g, cap, e1, e2, cur, xs, e3, e4, e5, e6, e7, h2⟩
/-- what tokens answers -/
def OutTk (w : World) (s : ByteArray) (e : Ending) (w' : World) : Prop := ∃ B cap, e = .returned (.slice (some ⟨B, 0, none⟩) (toksT s).length cap) ∧ w.heap.size ≤ B ∧ TokL w' B cap s (toksT s) ∧ Below w.heap.size w w'
set_option maxRecDepth 4000 in
set_option maxHeartbeats 8000000 in
theorem tokens_any (w : World) (s : ByteArray) (hs : s.size ≤ 400) : Calls Tryz.prog 35 #[.string s] w (OutTk w s) := by
  have hzt := zeroTok
  have hlen := tokV_len
  obtain ⟨ti, hi, hzi, hs1, hby⟩ := info_parts infoTokB
  go_enter Tryz.func35, Tryz.ntmps35
  go_wp2_with fail
  go_loopw [3, 4] (fun v i wr => ∃ (ts : List Tk) (ao : Option Addr) (cp j n : Nat), v = .slice ao ts.length cp ∧ i = .int .i64 j ∧ j ≤ s.size ∧ Hid (s.size < n + j ∧ ts.length ≤ j) ∧ Hid (toksT s = ts ++ tokL s n j) ∧ Hid (GrowK wr w.heap.size (.slice ao ts.length cp) s ts) ∧ Hid (Below w.heap.size w wr)) (fun _ i _ => s.size - (intOf i).toNat)
  case atStart => exact ⟨[], none, 0, 0, s.size + 2, rfl, rfl, by omega, ⟨by omega, by simp⟩, rfl, GrowK.nil _ _ _, Below.refl _ _⟩
  case round =>
    obtain ⟨ts, ao, cp, j, n, rfl, rfl, hj, HJ, HE, HG, HB⟩ := hrel
    go_wp2_with fail
    go_loopw [4] (fun i wx => ∃ (x m : Nat), i = .int .i64 x ∧ x ≤ s.size ∧ Hid (j ≤ x ∧ s.size < m + x) ∧ Hid (skip s j = skipN s m x) ∧ Hid (Below wr.heap.size wr wx)) (fun i _ => s.size - (intOf i).toNat)
    case atStart => exact ⟨j, s.size + 1 - j, rfl, hj, ⟨by omega, by omega⟩, rfl, Below.refl _ _⟩
    case round =>
      obtain ⟨x, m, rfl, hx, HX, HS, HBx⟩ := hrel
      by_cases hxl : x < s.size
      · have e2 := bAt_nat s x hxl
        obtain ⟨b2, hb2⟩ : ∃ b : UInt8, s[x]'hxl = b := ⟨_, rfl⟩
        rw [hb2] at e2
        have hxI : (x : Int) < s.size := by omega
        have hx0 : (0 : Int) ≤ (x : Int) := by omega
        have HX1 : isBlank (bAt s x) = true → Hid (skip s j = skipN s (m - 1) ((x + 1 : Nat) : Int)) := fun h => by
          have h1 := unhide HS
          have h2 := unhide HX
          rw [show m = (m - 1) + 1 by omega, skipN_yes h] at h1
          exact h1
        by_cases h32 : b2.toNat = 32
        · have f1 : ((b2.toNat : Int) == 32) = true := by simp; omega
          have HS2 := HX1 (by rw [isBlank_def]; simp; omega)
          clear HX1 e2 h32
          go_wp2_with fail
          go_roundw
          case rel => exact ⟨x + 1, m - 1, by go_num, by omega, by have := unhide HX; exact ⟨by omega, by omega⟩, HS2, HBx⟩
          case measure => simp [intOf]; omega
        · have f1 : ((b2.toNat : Int) == 32) = false := by simp; omega
          by_cases h10 : b2.toNat = 10
          · have f2 : ((b2.toNat : Int) == 10) = true := by simp; omega
            have HS2 := HX1 (by rw [isBlank_def]; simp; omega)
            clear HX1 e2 h32 h10
            go_wp2_with fail
            go_roundw
            case rel => exact ⟨x + 1, m - 1, by go_num, by omega, by have := unhide HX; exact ⟨by omega, by omega⟩, HS2, HBx⟩
            case measure => simp [intOf]; omega
          · have f2 : ((b2.toNat : Int) == 10) = false := by simp; omega
            have HSk : Hid (skip s j = x) := (unhide HS).trans (skipN_no (by rw [isBlank_def]; simp; omega))
            clear HX1 e2 h32 h10
            have HOne := hide (one_any wr s x hs hx)
            have hjx := (unhide HX).1
            have HTk := hide (tkAt_next (unhide HSk))
            have hfr := tkAt_from hx
            have hrg := nextT_range s j (by omega) (by omega)
            have HOk := hide (nextT_ok s j (by omega) (by omega))
            clear HS HX
            go_wp2_with fail
            go_at_call 61
            refine (unhide HOne).mono ?_
            rintro e w2 ⟨⟨str, f, p, rfl, htr, hp⟩, hb2⟩
            rw [unhide HTk] at htr hp hfr ⊢
            have hbw := (unhide HBx).trans (hb2.mono (unhide HBx).size)
            have HB2 := hide ((unhide HB).trans (hbw.mono (unhide HB).size))
            have HG2 := hide ((unhide HG).below hbw)
            have hlt2 := hide (fun k hk => And.intro ((unhide HG).lt k hk).1 (Nat.lt_of_lt_of_le ((unhide HG).lt k hk).2 hbw.size))
            have hz2 := (unhide HB2).size
            clear hbw hb2 HOne HBx HG HB
            obtain ⟨t', ht'⟩ : ∃ t', nextT s j = t' := ⟨_, rfl⟩
            have HE2 := hide (show toksT s = ts ++ tokL s n j from unhide HE)
            have HN1 := hide (fun (h : t'.k < 2) => (show toksT s = ts ++ [t'] by have h1 := unhide HE; have h2 := unhide HJ; rw [show n = (n - 1) + 1 by omega, tokL_1 (by rw [ht']; exact h), ht'] at h1; exact h1))
            have HN2 := hide (fun (h : ¬ t'.k < 2) => (show toksT s = (ts ++ [t']) ++ tokL s (n - 1) t'.to by have h1 := unhide HE; have h2 := unhide HJ; rw [show n = (n - 1) + 1 by omega, tokL_2 (by rw [ht']; exact h), ht'] at h1; rw [List.append_assoc]; exact h1))
            rw [ht'] at htr hp hfr hrg HOk ⊢
            clear HE HE2
            have hst : (storeCells ⟨w2.heap.size, 0, none⟩ (tokV (whatK t'.k) str f x)).run Tryz.prog (w2.alloc (.cells (tokV .empty .empty noB 0).toArray 83)) = .ok () (w2.alloc (.cells (tokV (whatK t'.k) str f x).toArray 83)) := by
              rw [(tok_new w2 .empty .empty noB 0).store, World.setRow_alloc_new]
            obtain ⟨xs, hown, hcel⟩ := unhide HG2
            have HC2 := hide hcel
            have HO2 := hide (own_below hown (((Below.refl _ _).alloc (Nat.le_refl _) (.cells (tokV (whatK t'.k) str f x).toArray 83)).alloc (by simp) (.cells (tokV (whatK t'.k) str f x).toArray 83)))
            have hnew := World.news_of_block (heap_alloc_new (w2.alloc (.cells (tokV (whatK t'.k) str f x).toArray 83)) (.cells (tokV (whatK t'.k) str f x).toArray 83))
            have htsl : ts.length ≤ 400 := by have := (unhide HJ).2; omega
            have HNew := hide hnew
            have HTR := hide htr
            have HP := hide hp
            have HFr := hide hfr
            clear hnew hown hcel HG2 ht' htr hp hfr
            go_wp2_with fail
            refine wp_load rfl (tok_new w2 _ _ _ _).loadAt ?_
            try simp only [Act.put, List.setIfInBounds_toArray, List.set_cons_zero, List.set_cons_succ]
            go_wp2_with fail
            refine wp_buildSlice 76 83 1 _ rfl (tokV (whatK t'.k) str f x).toArray ti _ Tryz.underlying76 hi hzi (by rw [hs1]; omega) (by rw [hs1]; omega) (by rw [hs1, Array.toList_map]; exact fill_tok (Array.map (fun x => (Value.agg (tokV .empty .empty noB 0).toArray).cells[x % (Value.agg (tokV .empty .empty noB 0).toArray).cells.size]!) (Array.range (1 * 259))) (by rw [Array.size_map, Array.size_range]) (whatK t'.k) str f x) ?_
            go_wp2_with (first | (at_builtin; refine wpList_append2 ((w2.alloc (.cells (tokV (whatK t'.k) str f x).toArray 83)).alloc (.cells (tokV (whatK t'.k) str f x).toArray 83)) rfl (.tmp 31) (.tmp 33) 76 rfl w.heap.size 83 ti _ 259 296 Tryz.underlying76 hi hzi hs1 hby (by show (tokV .empty .empty noB 0).toArray.size = 259; rw [List.size_toArray, tokV_len]) (by omega) (.slice ao ts.length cp) ts.length xs rfl (unhide HO2) ⟨(w2.alloc (.cells (tokV (whatK t'.k) str f x).toArray 83)).heap.size, 0, none⟩ 1 1 (by omega) (tokV (whatK t'.k) str f x) (by simp; rfl) (by rw [tokV_len]) (unhide HNew) (tokV_one _ _ _ _) (by unfold maxLen; omega) (by omega) (by simp; omega) ?_) | go_in)
            intro v3 w3 hown3 hgr3 _
            obtain ⟨a3, c3, rfl⟩ := own_shape hown3
            have HB3 := hide ((((unhide HB2).alloc hz2 _).alloc (by simp; omega) _).grown hgr3 (by simp; omega) (fun k hk => (unhide hlt2 k hk).1))
            have htk3 : TokB w3 w2.heap.size (whatK t'.k) str f x := grown_keep hgr3 ((tok_new w2 (whatK t'.k) str f x).alloc _) (fun k hk => Nat.ne_of_lt (unhide hlt2 k hk).2)
            have g0 := htk3.c0
            have gl := htk3.lt
            have HG3 : Hid (GrowK w3 w.heap.size (.slice a3 (ts.length + 1) c3) s (ts ++ [t'])) := by
              refine ⟨xs ++ tokV (whatK t'.k) str f t'.from_, ?_, CellsK.snoc (unhide HTR) (unhide HC2)⟩
              rw [List.length_append, List.length_singleton, unhide HFr]
              exact hown3
            clear hown3 hgr3 htk3
            have e0 : ((whatK t'.k).toList == [110, 111, 110, 101]) = (t'.k == 0) := whatL 0 [110, 111, 110, 101] (by decide +kernel) (by omega) (by omega)
            have e1 : ((whatK t'.k).toList == [101, 110, 100]) = (t'.k == 1) := whatL 1 [101, 110, 100] (by decide +kernel) (by omega) (by omega)
            by_cases hk2 : t'.k < 2
            · have HFin : Hid (OutTk w s (.returned (.slice a3 (ts.length + 1) c3)) w3) := by
                obtain ⟨B, cap, h1, h2, h3⟩ := (unhide HG3).out (by simp)
                have h4 := unhide HN1 (by omega)
                refine ⟨B, cap, ?_, h2, by rw [h4]; exact h3, unhide HB3⟩
                rw [h4, ← h1]
              by_cases hk0 : t'.k = 0
              · rw [show (t'.k == 0) = true by simpa using hk0] at e0
                clear hk0 hk2 e1 hrg
                go_wp2
                go_ret
                exact unhide HFin
              · rw [show (t'.k == 0) = false by simpa using hk0] at e0
                rw [show (t'.k == 1) = true by simp; omega] at e1
                clear hk0 hk2 hrg
                go_wp2
                go_ret
                exact unhide HFin
            · rw [show (t'.k == 0) = false by simp; omega] at e0
              rw [show (t'.k == 1) = false by simp; omega] at e1
              have hpe := unhide HP (by omega)
              subst hpe
              have hltt := (unhide HOk).1.lt (by omega)
              have hsz := (unhide HOk).1.size
              have hge := (unhide HOk).2
              have hJ2 := (unhide HJ).2
              have hJ1 := (unhide HJ).1
              obtain ⟨tn, htn⟩ : ∃ tn : Nat, t'.to = (tn : Int) := ⟨t'.to.toNat, by omega⟩
              have HN3 := hide (unhide HN2 (by omega))
              rw [htn] at HN3 hltt hsz ⊢
              have HRel : Hid (s.size < (n - 1) + tn ∧ (ts ++ [t']).length ≤ tn) := ⟨by omega, by simp; omega⟩
              have hle : tn ≤ s.size := by omega
              have hm : j < tn := by omega
              clear hltt hge htn hrg hk2 hsz
              go_wp2_with fail
              go_roundw
              case rel => exact ⟨ts ++ [t'], a3, c3, tn, n - 1, by simp, rfl, hle, HRel, HN3, by simpa using HG3, HB3⟩
              case measure => simp [intOf]; omega
      · have hxI : ¬ (x : Int) < s.size := by omega
        have HSk : Hid (skip s j = x) := (unhide HS).trans (skipN_no (by rw [bAt_out s x (by omega)]; rfl))
        have HOne := hide (one_any wr s x hs hx)
        have hjx := (unhide HX).1
        have HTk := hide (tkAt_next (unhide HSk))
        have hfr := tkAt_from hx
        have hrg := nextT_range s j (by omega) (by omega)
        have HOk := hide (nextT_ok s j (by omega) (by omega))
        clear HS HX
        go_wp2_with fail
        go_at_call 61
        refine (unhide HOne).mono ?_
        rintro e w2 ⟨⟨str, f, p, rfl, htr, hp⟩, hb2⟩
        rw [unhide HTk] at htr hp hfr ⊢
        have hbw := (unhide HBx).trans (hb2.mono (unhide HBx).size)
        have HB2 := hide ((unhide HB).trans (hbw.mono (unhide HB).size))
        have HG2 := hide ((unhide HG).below hbw)
        have hlt2 := hide (fun k hk => And.intro ((unhide HG).lt k hk).1 (Nat.lt_of_lt_of_le ((unhide HG).lt k hk).2 hbw.size))
        have hz2 := (unhide HB2).size
        clear hbw hb2 HOne HBx HG HB
        obtain ⟨t', ht'⟩ : ∃ t', nextT s j = t' := ⟨_, rfl⟩
        have HE2 := hide (show toksT s = ts ++ tokL s n j from unhide HE)
        have HN1 := hide (fun (h : t'.k < 2) => (show toksT s = ts ++ [t'] by have h1 := unhide HE; have h2 := unhide HJ; rw [show n = (n - 1) + 1 by omega, tokL_1 (by rw [ht']; exact h), ht'] at h1; exact h1))
        have HN2 := hide (fun (h : ¬ t'.k < 2) => (show toksT s = (ts ++ [t']) ++ tokL s (n - 1) t'.to by have h1 := unhide HE; have h2 := unhide HJ; rw [show n = (n - 1) + 1 by omega, tokL_2 (by rw [ht']; exact h), ht'] at h1; rw [List.append_assoc]; exact h1))
        rw [ht'] at htr hp hfr hrg HOk ⊢
        clear HE HE2
        have hst : (storeCells ⟨w2.heap.size, 0, none⟩ (tokV (whatK t'.k) str f x)).run Tryz.prog (w2.alloc (.cells (tokV .empty .empty noB 0).toArray 83)) = .ok () (w2.alloc (.cells (tokV (whatK t'.k) str f x).toArray 83)) := by
          rw [(tok_new w2 .empty .empty noB 0).store, World.setRow_alloc_new]
        obtain ⟨xs, hown, hcel⟩ := unhide HG2
        have HC2 := hide hcel
        have HO2 := hide (own_below hown (((Below.refl _ _).alloc (Nat.le_refl _) (.cells (tokV (whatK t'.k) str f x).toArray 83)).alloc (by simp) (.cells (tokV (whatK t'.k) str f x).toArray 83)))
        have hnew := World.news_of_block (heap_alloc_new (w2.alloc (.cells (tokV (whatK t'.k) str f x).toArray 83)) (.cells (tokV (whatK t'.k) str f x).toArray 83))
        have htsl : ts.length ≤ 400 := by have := (unhide HJ).2; omega
        have HNew := hide hnew
        have HTR := hide htr
        have HP := hide hp
        have HFr := hide hfr
        clear hnew hown hcel HG2 ht' htr hp hfr
        go_wp2_with fail
        refine wp_load rfl (tok_new w2 _ _ _ _).loadAt ?_
        try simp only [Act.put, List.setIfInBounds_toArray, List.set_cons_zero, List.set_cons_succ]
        go_wp2_with fail
        refine wp_buildSlice 76 83 1 _ rfl (tokV (whatK t'.k) str f x).toArray ti _ Tryz.underlying76 hi hzi (by rw [hs1]; omega) (by rw [hs1]; omega) (by rw [hs1, Array.toList_map]; exact fill_tok (Array.map (fun x => (Value.agg (tokV .empty .empty noB 0).toArray).cells[x % (Value.agg (tokV .empty .empty noB 0).toArray).cells.size]!) (Array.range (1 * 259))) (by rw [Array.size_map, Array.size_range]) (whatK t'.k) str f x) ?_
        go_wp2_with (first | (at_builtin; refine wpList_append2 ((w2.alloc (.cells (tokV (whatK t'.k) str f x).toArray 83)).alloc (.cells (tokV (whatK t'.k) str f x).toArray 83)) rfl (.tmp 31) (.tmp 33) 76 rfl w.heap.size 83 ti _ 259 296 Tryz.underlying76 hi hzi hs1 hby (by show (tokV .empty .empty noB 0).toArray.size = 259; rw [List.size_toArray, tokV_len]) (by omega) (.slice ao ts.length cp) ts.length xs rfl (unhide HO2) ⟨(w2.alloc (.cells (tokV (whatK t'.k) str f x).toArray 83)).heap.size, 0, none⟩ 1 1 (by omega) (tokV (whatK t'.k) str f x) (by simp; rfl) (by rw [tokV_len]) (unhide HNew) (tokV_one _ _ _ _) (by unfold maxLen; omega) (by omega) (by simp; omega) ?_) | go_in)
        intro v3 w3 hown3 hgr3 _
        obtain ⟨a3, c3, rfl⟩ := own_shape hown3
        have HB3 := hide ((((unhide HB2).alloc hz2 _).alloc (by simp; omega) _).grown hgr3 (by simp; omega) (fun k hk => (unhide hlt2 k hk).1))
        have htk3 : TokB w3 w2.heap.size (whatK t'.k) str f x := grown_keep hgr3 ((tok_new w2 (whatK t'.k) str f x).alloc _) (fun k hk => Nat.ne_of_lt (unhide hlt2 k hk).2)
        have g0 := htk3.c0
        have gl := htk3.lt
        have HG3 : Hid (GrowK w3 w.heap.size (.slice a3 (ts.length + 1) c3) s (ts ++ [t'])) := by
          refine ⟨xs ++ tokV (whatK t'.k) str f t'.from_, ?_, CellsK.snoc (unhide HTR) (unhide HC2)⟩
          rw [List.length_append, List.length_singleton, unhide HFr]
          exact hown3
        clear hown3 hgr3 htk3
        have e0 : ((whatK t'.k).toList == [110, 111, 110, 101]) = (t'.k == 0) := whatL 0 [110, 111, 110, 101] (by decide +kernel) (by omega) (by omega)
        have e1 : ((whatK t'.k).toList == [101, 110, 100]) = (t'.k == 1) := whatL 1 [101, 110, 100] (by decide +kernel) (by omega) (by omega)
        by_cases hk2 : t'.k < 2
        · have HFin : Hid (OutTk w s (.returned (.slice a3 (ts.length + 1) c3)) w3) := by
            obtain ⟨B, cap, h1, h2, h3⟩ := (unhide HG3).out (by simp)
            have h4 := unhide HN1 (by omega)
            refine ⟨B, cap, ?_, h2, by rw [h4]; exact h3, unhide HB3⟩
            rw [h4, ← h1]
          by_cases hk0 : t'.k = 0
          · rw [show (t'.k == 0) = true by simpa using hk0] at e0
            clear hk0 hk2 e1 hrg
            go_wp2
            go_ret
            exact unhide HFin
          · rw [show (t'.k == 0) = false by simpa using hk0] at e0
            rw [show (t'.k == 1) = true by simp; omega] at e1
            clear hk0 hk2 hrg
            go_wp2
            go_ret
            exact unhide HFin
        · rw [show (t'.k == 0) = false by simp; omega] at e0
          rw [show (t'.k == 1) = false by simp; omega] at e1
          have hpe := unhide HP (by omega)
          subst hpe
          have hltt := (unhide HOk).1.lt (by omega)
          have hsz := (unhide HOk).1.size
          have hge := (unhide HOk).2
          have hJ2 := (unhide HJ).2
          have hJ1 := (unhide HJ).1
          obtain ⟨tn, htn⟩ : ∃ tn : Nat, t'.to = (tn : Int) := ⟨t'.to.toNat, by omega⟩
          have HN3 := hide (unhide HN2 (by omega))
          rw [htn] at HN3 hltt hsz ⊢
          have HRel : Hid (s.size < (n - 1) + tn ∧ (ts ++ [t']).length ≤ tn) := ⟨by omega, by simp; omega⟩
          have hle : tn ≤ s.size := by omega
          have hm : j < tn := by omega
          clear hltt hge htn hrg hk2 hsz
          go_wp2_with fail
          go_roundw
          case rel => exact ⟨ts ++ [t'], a3, c3, tn, n - 1, by simp, rfl, hle, HRel, HN3, by simpa using HG3, HB3⟩
          case measure => simp [intOf]; omega
end Go.Proofs.YtbojcemamhiodaaGreatDoor
