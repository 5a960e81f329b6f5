import Derived.Test.YtbojcemamhiodaaGreatDoorTrm2
namespace Go.Proofs.YtbojcemamhiodaaGreatDoor
open Go.RowKit

set_option maxRecDepth 4000 in
set_option maxHeartbeats 4000000 in
theorem term_any (q lo : Nat) (rs : List Rl) (g cap : Nat) (F : Nat) (hT : ∀ F', F = F' + 1 → SaidT q lo rs g cap F') : SaidT q lo rs g cap F := by
  intro w n ao nk cp X tv T hbd hX hk hbound
  have hlq := hbd.lt
  have hloq := hbd.loq
  have HX := hide hX
  have HK := hide hk
  have HT := hide hT
  have HB0 := hide hbound
  have HD := hide hbd
  clear hX hk hT hbound hbd
  go_enter Tryz.func60, Tryz.ntmps60
  go_upto_if 17 with fail
  go_cut [6] (fun _ wc => Hid (∃ ks kv tvr Tr, TI w q lo X rs g cap tv T n (.slice ao nk cp) F 0 ks kv tvr Tr wc))
  case first =>
    cases hb : (n.kind == 2)
    · have hb2 : baseK rs n = [] := by unfold baseK; rw [if_neg (by simpa using hb)]
      have HS := hide (TI.start (nkv := .slice ao nk cp) (F := F) (unhide HD) (W3_below _ _ _) (W3_A _ _ _) (W3_R _ _ _) (W3_X _ _ _) (by rw [hb2]; exact World.ownsRow_nil _ _ _ _))
      clear hb2
      go_wp2_with fail
      go_meet
      case rel => exact ⟨_, _, _, _, unhide HS⟩
    · have hb2 := hide (show baseK rs n = [findF rs n.text] from by unfold baseK; rw [if_pos (by simpa using hb)])
      obtain ⟨i, hi, hz, hsz, hby⟩ := info_parts infoInt
      have H3 := hide ((unhide HD).below (W3_below w n (.slice ao nk cp)))
      have c0 := (unhide H3).cells.1
      unfold W3 at c0
      go_wp2_with fail
      go_region_held3 (fun w' => w'.cell? ⟨q, 0, none⟩ = some (.slice (some ⟨g, 0, none⟩) rs.length cap) ∧ w'.cell? ⟨w.heap.size, 2, none⟩ = some (.string n.text)) (go_keep)
        (first | (go_at_call 84; refine (find_any _ _ _ _ _ _ ((unhide H3).below (Below.refl _ _).drew).rules (unhide H3).few).mono ?_; rintro e w1 ⟨rfl, hb4⟩; have hb5 := hide (below_drew hb4); clear hb4; obtain ⟨x0, x1, x2, xf, hx⟩ := three_t (below_keep (unhide hb5) (W3_X _ _ _) (Nat.le_refl _)); obtain ⟨z0, z1, zf⟩ := ((unhide H3).below (unhide hb5)).cells; obtain ⟨y0, y1, y2, y3, yf, hy⟩ := four (below_keep (unhide hb5) (W3_A _ _ _) (Nat.le_refl _))))
      have hB1 := hide ((W3_below w n (.slice ao nk cp)).trans ((unhide hb5).mono (by rw [W3_size]; omega)))
      have hz1 := (unhide hb5).size
      rw [W3_size] at hz1
      clear z0 z1 zf
      have HN := hide (World.news_of_block (heap_alloc_new w1 (.cells #[.int .i64 (findF rs n.text)] 3)))
      go_wp2_with (first | (at_builtin; refine wpList_append_lies _ rfl (.tmp 26) (.tmp 28) 29 rfl (w.heap.size + 3) 3 i _ 1 8 Tryz.underlying29 hi hz hsz hby rfl (by omega) (.slice none 0 0) 0 [] rfl (World.ownsRow_nil _ _ _ _) ⟨w1.heap.size, 0, none⟩ 1 1 [.int .i64 (findF rs n.text)] rfl rfl (unhide HN) (by simp; rfl) (by omega) (by unfold maxLen; omega) (by omega) (by simp; omega) (w1.heap.size + 1) (by simp) ?_) | go_in)
      intro g3 cap3 w5 hown3 hgrow3 hat3 hlt3
      have hx5 := hide ((hgrow3.block (w.heap.size + 2) (by simp; omega) (by simp [Value.ownBlock])).trans (heap_old (below_keep (unhide hb5) (W3_X _ _ _) (Nat.le_refl _))))
      obtain ⟨v0, v1, v2, vf, hv⟩ := three_t (unhide hx5)
      have HG3 := hide hgrow3
      have HO3 := hide hown3
      clear hgrow3 hown3 hat3
      go_wp2_with fail
      go_meet
      case rel =>
        have hol := (unhide HO3).lt g3 rfl
        refine ⟨_, _, _, _, TI.start (kv := .slice (some ⟨g3, 0, none⟩) 1 cap3) (unhide HD) ((((unhide hB1).alloc (by omega) _).grown (unhide HG3) (by simp; omega) (fun k hk => by cases hk)).setCell (by simp; omega) _) ?_ ?_ (set_x (unhide hx5)) ?_⟩
        · exact set_other (((unhide HG3).block w.heap.size (by simp; omega) (by simp [Value.ownBlock])).trans (heap_old (below_keep (unhide hb5) (W3_A _ _ _) (Nat.le_refl _)))) (by omega)
        · exact set_other (((unhide HG3).block (w.heap.size + 1) (by simp; omega) (by simp [Value.ownBlock])).trans (heap_old (below_keep (unhide hb5) (W3_R _ _ _) (Nat.le_refl _)))) (by omega)
        · rw [unhide hb2]
          exact own_keep (unhide HO3) fun b hb => Below.heap_setCell _ _ _ _ (by cases hb; simp; omega)
  case rest =>
    obtain ⟨ks0, kv0, tvr0, Tr0, hti0⟩ := unhide hcut
    have hnk := (unhide HK).len
    subst hnk
    have hmx := (unhide HK).maxlen
    obtain ⟨y0, y1, y2, y3, yf, hy⟩ := four hti0.nA
    have HTI0 := hide hti0
    clear hti0 hcut
    go_wp2_with fail
    clear y0 y1 y2 y3 yf hy
    go_loopw [34] (fun i wr => ∃ (k : Nat) (ks : List Int) (kv tvr : Value) (Tr : List Tm), k ≤ n.kids.length ∧ i = .int .i64 k ∧ Hid (TI w q lo X rs g cap tv T n (.slice ao n.kids.length cp) F k ks kv tvr Tr wr)) (fun i _ => n.kids.length - (intOf i).toNat)
    case atStart => exact ⟨0, ks0, kv0, tvr0, Tr0, Nat.zero_le _, rfl, HTI0⟩
    case round =>
      obtain ⟨k, ks, kv, tvr, Tr, hk, rfl, HTI⟩ := hrel
      have hown := (unhide HD).terms.own_lt
      by_cases hlt : k < n.kids.length
      · cases F with
        | zero => exfalso; have := (unhide HK).2; rw [this] at hlt; simp at hlt
        | succ F =>
        have hi0 : n.kids[k]? = some n.kids[k] := List.getElem?_eq_getElem hlt
        have hd : n.kids.drop k = n.kids[k] :: n.kids.drop (k + 1) := List.drop_eq_getElem_cons hlt
        have htr := tree_keep (unhide HK) (unhide HTI).but hloq (fun j hj => (hown j hj).1)
        obtain ⟨gk, rfl, hgk, hcp, ao', n', cp', hkn, e0, e1, e2, e3⟩ := htr.at k _ hi0
        generalize hkid : n.kids[k] = kid at *
        have hpur := (unhide HTI).pur
        rw [hd] at hpur
        have hbd1 := (unhide HTI).bd
        have hkl := (unhide HTI).own.lt
        have hkb0 : k + 1 ≤ 100000 := by
          have h1 : (termsL (termN rs (F + 1)) n.kids (baseK rs n) T).2.length ≤ 100000 := unhide HB0
          have h2 := termsL_mono (termN_mono rs (F + 1)) n.kids (baseK rs n) T
          omega
        have hbound : (termN rs (F + 1) kid Tr).2.length + 1 ≤ 100000 := by
          have h1 : (termsL (termN rs (F + 1)) n.kids (baseK rs n) T).2.length ≤ 100000 := unhide HB0
          rw [hpur] at h1
          have h3 : (termsL (termN rs (F + 1)) (n.kids.drop (k + 1)) (ks ++ [((termN rs (F + 1) kid Tr).2.length : Int)]) ((termN rs (F + 1) kid Tr).2 ++ [(termN rs (F + 1) kid Tr).1])).2.length ≤ 100000 := h1
          have h2 := termsL_mono (termN_mono rs (F + 1)) (n.kids.drop (k + 1)) (ks ++ [((termN rs (F + 1) kid Tr).2.length : Int)]) ((termN rs (F + 1) kid Tr).2 ++ [(termN rs (F + 1) kid Tr).1])
          rw [List.length_append] at h2
          rw [List.length_singleton] at h2
          omega
        have HC := hide (unhide HT F rfl (wr.alloc (.cells #[.int .i64 kid.kind, .int .i64 kid.at_, .string kid.text, .slice ao' n' cp'] 118)) kid ao' n' cp' _ tvr Tr (hbd1.below ((Below.refl _ _).alloc (Nat.le_refl _) _)) (fun b hb => by have h3 := (Array.getElem?_eq_some_iff.1 (unhide HTI).nX).1; rcases hb with hb | hb | hb; have := unhide HX b hb; simp; omega; have := (hkl b hb).2; simp; omega; simp; omega) (hkn.turn fun b hS hz => ⟨hS, Below.heap_alloc _ _ _ hz⟩) (by omega))
        have HPUR := hide hpur
        clear hi0 hd htr hpur hbd1 hkn
        go_wp2_with fail
        go_at_call 60
        refine (unhide HC).mono ?_
        generalize hr : termN rs (F + 1) kid Tr = r at hbound ⊢
        rintro e w2 ⟨ao2, n2, cp2, tv2, rfl, hir, hbd2, hbut2, hch2⟩
        obtain ⟨aok, cpk, rfl⟩ := own_shape (unhide HTI).own
        obtain ⟨aot, cpt, rfl⟩ := hbd2.terms.shape
        obtain ⟨fA, fR, fX, fO, fB, hz3⟩ := (unhide HTI).after hlq hown hbut2
        have hz2 := hbut2.size
        simp at hz2
        have hfew := (unhide HTI).few
        have FA := hide fA
        have FR := hide fR
        have FX := hide fX
        have FO := hide fO
        have FB := hide fB
        have HBD2 := hide hbd2
        have HBU2 := hide hbut2
        have HCH2 := hide hch2
        have HIR := hide hir
        have HR := hide hr
        obtain ⟨i, hi, hz, hsz, hby⟩ := info_parts infoInt
        obtain ⟨j, hj, jz, jsz, jby⟩ := info_parts infoTerm
        obtain ⟨x0, x1, x2, xf, hx⟩ := three_t fX
        obtain ⟨c0, c1, cf⟩ := hbd2.cells
        have hlq2 := hbd2.lt
        clear fA fR fX fO fB hbd2 hbut2 hch2 hir hr e0 e1 e2 e3
        have hkb : ∀ b, (Value.slice aok ks.length cpk).ownBlock = some b → w.heap.size + 3 ≤ b ∧ b < w2.heap.size := (unhide FO).lt
        have HKB := hide hkb
        clear hkb
        have hxk : ∀ b, (Value.slice aok ks.length cpk).ownBlock = some b → b ≠ w.heap.size + 2 ∧ b ≠ q := fun b hb => by have := unhide HKB b hb; omega
        have HXK := hide hxk
        clear hxk
        go_upto_region 9 with fail
        go_cut [] (fun wc => Hid (∃ g5 cap5, M9 w q lo X rs g cap tv n (.slice (some ⟨gk, 0, none⟩) n.kids.length cp) (ks ++ [(r.2.length : Int)]) (.slice (some ⟨g5, 0, none⟩) (ks.length + 1) cap5) (.slice aot r.2.length cpt) r (.slice ao2 n2 cp2) w2.heap.size wc))
        case first =>
          obtain ⟨W9, hW9⟩ : ∃ W, W = ((w2.alloc (.cells #[.int .i64 r.1.kind, .string r.1.text, .slice ao2 n2 cp2] 89)).alloc (.cells #[.int .i64 r.2.length] 3)).drew := ⟨_, rfl⟩
          have HB9 : Hid (Below w2.heap.size w2 W9) := by rw [hW9]; exact (((Below.refl _ _).alloc (Nat.le_refl _) _).alloc (by simp) _).drew
          have HS9 : Hid (W9.heap.size = w2.heap.size + 2) := by rw [hW9]; simp [Hid]
          have HO9 := hide (own_below (unhide FO) (unhide HB9))
          have HN9 : Hid (∀ j u, [Value.int .i64 (r.2.length : Int)][j]? = some u → W9.cell? ((⟨w2.heap.size + 1, 0, none⟩ : Addr).add j) = some u) := by
            rw [hW9]
            have h := heap_alloc_new (w2.alloc (.cells #[.int .i64 r.1.kind, .string r.1.text, .slice ao2 n2 cp2] 89)) (.cells #[.int .i64 r.2.length] 3)
            rw [show (w2.alloc (.cells #[.int .i64 r.1.kind, .string r.1.text, .slice ao2 n2 cp2] 89)).heap.size = w2.heap.size + 1 from by simp] at h
            exact World.news_of_block (w := ((w2.alloc (.cells #[.int .i64 r.1.kind, .string r.1.text, .slice ao2 n2 cp2] 89)).alloc (.cells #[.int .i64 r.2.length] 3)).drew) h
          have HX9 := hide (show W9.heap[w.heap.size + 2]? = _ from below_keep (unhide HB9) (unhide FX) (Nat.le_refl _))
          have HQ9 := hide ((unhide HBD2).below (unhide HB9))
          have x2' : w2.cell? ⟨w.heap.size + 1 + 1, 2, none⟩ = some (.slice aok ks.length cpk) := x2
          have hx' : w.heap.size + 1 + 1 < w2.heap.size := hx
          have hx'' : w.heap.size + 1 + 1 < w2.heap.size + 1 := by omega
          have HW9 := hide hW9
          clear hW9
          have hks : ks.length ≤ 100000 := by
            have h1 := hfew
            omega
          have HK9 : Hid (W9.heap[w2.heap.size]? = some (.cells #[.int .i64 r.1.kind, .string r.1.text, .slice ao2 n2 cp2] 89)) := by rw [unhide HW9]; exact heap_old (heap_alloc_new w2 _)
          go_region_law
            ((rw [← unhide HW9]; refine step_append_lies W9 (by rfl) (.tmp 42) (.tmp 48) 29 (by rfl) (w.heap.size + 3) 3 i _ 1 8 Tryz.underlying29 hi hz hsz hby rfl (by omega) (.slice aok ks.length cpk) ks.length (ints ks) (by rfl) (unhide HO9) ⟨w2.heap.size + 1, 0, none⟩ 1 1 [.int .i64 (r.2.length : Int)] (by rfl) rfl (unhide HN9) (by simp; rfl) (by omega) (by unfold maxLen; omega) (by omega) (by rw [unhide HS9]; omega) (w2.heap.size + 2) (unhide HS9) ?_; intro g5 cap5 w5 hown5 hgrow5 hat5 hlt5; have HG5 := hide hgrow5; have HO5 := hide hown5; have hat5' := hide hat5; clear hgrow5 hown5 hat5; obtain ⟨v0, v1, v2, vf, hv⟩ := three_t (show w5.heap[w.heap.size + 2]? = _ from ((unhide HG5).block (w.heap.size + 2) (by rw [unhide HS9]; omega) (fun e => (unhide HXK _ e.symm).1 rfl)).trans (unhide HX9)); have hc5 : w5.cell? ⟨q, 1, none⟩ = some (.slice aot r.2.length cpt) := ((unhide HG5).cell_far ⟨q, 1, none⟩ (by rw [unhide HS9]; show q < _; omega) (fun e => (unhide HXK _ e.symm).2 rfl)).trans (unhide HQ9).cells.2.1))
          all_goals
            go_wp2_with fail
            go_meet
            case rel => exact ⟨g5, cap5, M9.make (unhide HTI) hlq hloq hown rfl (unhide HIR) (unhide HBD2) (unhide HBU2) (unhide HCH2) (unhide HB9) (unhide HS9) (unhide HK9) (unhide HO5) (unhide HG5) (unhide hat5')⟩
        case rest =>
          obtain ⟨g5, cap5, hm⟩ := unhide hcut
          have HM := hide hm
          clear hm hcut x0 x1 x2 xf hx c0 c1 cf hlq2
          obtain ⟨c0, c1, cf⟩ := (unhide HM).bd.cells
          obtain ⟨k0, k1, k2, kf, hkz⟩ := three_t (unhide HM).nK
          have hlqm := (unhide HM).bd.lt
          obtain ⟨xs, hx1, hx2⟩ := (unhide HM).bd.terms
          have HX1 := hide hx1
          have HX2 := hide hx2
          clear hx1 hx2
          go_upto_region 10 with fail
          obtain ⟨W10, hW10⟩ : ∃ W, W = (wc.alloc (.cells #[.int .i64 r.1.kind, .string r.1.text, .slice ao2 n2 cp2] 89)).drew := ⟨_, rfl⟩
          have HB10 : Hid (Below wc.heap.size wc W10) := by rw [hW10]; exact ((Below.refl _ _).alloc (Nat.le_refl _) _).drew
          have HS10 : Hid (W10.heap.size = wc.heap.size + 1) := by rw [hW10]; simp [Hid]
          have HO10 := hide (own_below (unhide HX1) (unhide HB10))
          have HN10 : Hid (∀ j u, (r.1.cs (.slice ao2 n2 cp2))[j]? = some u → W10.cell? ((⟨wc.heap.size, 0, none⟩ : Addr).add j) = some u) := by
            rw [hW10]
            exact World.news_of_block (w := (wc.alloc (.cells #[.int .i64 r.1.kind, .string r.1.text, .slice ao2 n2 cp2] 89)).drew) (heap_alloc_new wc _)
          have HQ10 := hide (below_keep (unhide HB10) (unhide HM).bd.cell (Nat.le_refl _))
          have HOq := hide (unhide HM).bd.own
          have H1c : Hid (∀ u ∈ r.1.cs (.slice ao2 n2 cp2), u.oneCell' = true) := by
            intro u hu
            simp [Tm.cs] at hu
            rcases hu with rfl | rfl | rfl <;> rfl
          have HW10 := hide hW10
          clear hW10
          go_region_law
            ((rw [← unhide HW10]; refine step_append_lies W10 (by rfl) (.tmp 55) (.tmp 57) 55 (by rfl) lo 89 j _ 3 48 Tryz.underlying55 hj jz jsz jby rfl (by omega) (.slice aot r.2.length cpt) r.2.length xs (by rfl) (unhide HO10) ⟨wc.heap.size, 0, none⟩ 1 1 (r.1.cs (.slice ao2 n2 cp2)) (by rfl) rfl (unhide HN10) (unhide H1c) (by omega) (by unfold maxLen; omega) (by omega) (by rw [unhide HS10]; omega) (wc.heap.size + 1) (unhide HS10) ?_; intro g7 cap7 w7 hown7 hgrow7 hat7 hlt7; have HG7 := hide hgrow7; have HO7 := hide hown7; have hat7' := hide hat7; clear hgrow7 hown7 hat7; have hq7 : Hid (w7.heap[q]? = some (.cells #[.slice (some ⟨g, 0, none⟩) rs.length cap, .slice aot r.2.length cpt] 127)) := ((unhide HG7).block q (by rw [unhide HS10]; omega) (fun e => unhide HOq e.symm)).trans (unhide HQ10); have hc7 : w7.cell? ⟨q, 1, none⟩ = some (.slice aot r.2.length cpt) := (by simp [World.cell?, unhide hq7]); have hf7 : w7.frozen? ⟨q, 1, none⟩ = false := (by simp [World.frozen?, unhide hq7])))
          all_goals
            go_wp2_with fail
            go_roundw
            case rel => exact ⟨k + 1, _, _, _, _, by omega, by go_num, TI.next (unhide HM) (unhide HX) hlq hown (by rw [unhide HPUR, termsL, unhide HR]) (by simp; omega) (unhide HB10) (unhide HS10) (unhide HX2) (unhide HO7) (unhide HG7) (unhide hat7')⟩
            case measure => simp [intOf]; omega
      · obtain ⟨aok, cpk, hkv⟩ := own_shape (unhide HTI).own
        obtain ⟨x0, x1, x2, xf, hx⟩ := three_t (unhide HTI).nX
        obtain ⟨r0, r1, r2, rf, hr⟩ := three_t (unhide HTI).nR
        have HD := hide (fun a b c => (unhide HTI).done (by omega) hlq hown a b c _ _ _ hkv)
        subst hkv
        go_wp2
        refine bodyPost_ret (v := .agg #[.int .i64 n.kind, .string n.text, .slice aok ks.length cpk]) (by simp [results, Tryz.results60, go_sem, r0, r1, r2]) rfl ?_
        exact unhide HD _ _ _
end Go.Proofs.YtbojcemamhiodaaGreatDoor
