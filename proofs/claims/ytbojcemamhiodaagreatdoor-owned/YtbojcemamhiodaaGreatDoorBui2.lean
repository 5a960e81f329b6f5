import Derived.Test.YtbojcemamhiodaaGreatDoorBui
namespace Go.Proofs.YtbojcemamhiodaaGreatDoor
open Go.RowKit

theorem buildL_step {rs : List Rl} {F k : Nat} {Tr : List Tm} (hlt : k < rs.length) : buildL rs F (rs.drop k) k Tr = buildL rs F (rs.drop (k + 1)) (k + 1) ((termN rs F rs[k].body Tr).2.set k (termN rs F rs[k].body Tr).1) := by
  rw [List.drop_eq_getElem_cons hlt, buildL]

set_option maxRecDepth 4000 in
set_option maxHeartbeats 4000000 in
theorem build_any (w : World) (rs : List Rl) (g cap F : Nat) (hr : Rw w (fun b => b < w.heap.size) g cap rs) (hn : rs.length ≤ 12) (hF : DeepF F rs) (hbound : (buildF (F + 1) rs).length ≤ 100000) :
    Calls Tryz.prog 34 #[.slice (some ⟨g, 0, none⟩) rs.length cap] w fun e w' => ∃ G nv tv, e = .returned (.pointer (some ⟨G, 0, none⟩)) ∧ Gm w' (fun b => w.heap.size ≤ b) G nv tv (rs.map fun r => r.name) (buildF (F + 1) rs) ∧ Below w.heap.size w w' := by
  have HS := hide (BI.start (F := F) hr hn)
  have hmk := run_make_t w rs.length hn
  have HF := hide hF
  have HB := hide hbound
  clear hr hF hbound
  go_enter Tryz.func34, Tryz.ntmps34
  go_wp2_with fail
  clear hmk
  go_loopw [4, 15] (fun nv i wr => ∃ (k : Nat) (tvr : Value) (Tr : List Tm), k ≤ rs.length ∧ i = .int .i64 k ∧ Hid (BI w rs g cap F k nv tvr Tr wr)) (fun _ i _ => rs.length - (intOf i).toNat)
  case atStart => exact ⟨0, _, _, Nat.zero_le _, rfl, HS⟩
  case round =>
    obtain ⟨k, tvr, Tr, hk, rfl, HI⟩ := hrel
    rename_i nv _
    by_cases hlt : k < rs.length
    · have hi0 : rs[k]? = some rs[k] := List.getElem?_eq_getElem hlt
      have hst := buildL_step (rs := rs) (F := F + 1) (Tr := Tr) hlt
      have htk := List.take_succ_eq_append_getElem hlt
      have hlr := (unhide HI).bd.rules.lt
      obtain ⟨ao', n', cp', ⟨h', hk'⟩, a0, a1, a2, a3, a4, a6, a7, a8, _⟩ := (unhide HI).bd.rules.at k _ hi0
      have hkF := hk'.deep (unhide HF) hi0
      generalize rs[k] = r at *
      have hbd : (termN rs (F + 1) r.body Tr).2.length ≤ 100000 := by
        have h1 := unhide HB
        rw [(unhide HI).pur, hst] at h1
        have h2 := buildL_mono rs (F + 1) (rs.drop (k + 1)) (k + 1) ((termN rs (F + 1) r.body Tr).2.set k (termN rs (F + 1) r.body Tr).1)
        rw [List.length_set] at h2
        omega
      have hmono := termN_mono rs (F + 1) r.body Tr
      have hlen := (unhide HI).len
      have hol := (unhide HI).own.lt
      have HC := hide (term_all (w.heap.size + 1) w.heap.size rs g cap F (wr.alloc (.cells #[.string r.name, .int .i64 r.at_, .int .i64 r.body.kind, .int .i64 r.body.at_, .string r.body.text, .slice ao' n' cp', .bool r.empty, .int .i64 r.begins] 120)) r.body ao' n' cp' _ tvr Tr ((unhide HI).bd.below ((Below.refl _ _).alloc (Nat.le_refl _) _)) (fun b hb => by have := (hol b hb).2; simp; omega) (hkF.turn fun b hS hz => ⟨hS, Below.heap_alloc _ _ _ hz⟩) hbd)
      have HST := hide hst
      have HTK := hide htk
      clear hi0 hst htk hk' hkF
      go_wp2_with fail
      go_at_call 60
      refine (unhide HC).mono ?_
      generalize termN rs (F + 1) r.body Tr = t at *
      rintro e w2 ⟨ao2, n2, cp2, tv2, rfl, hir, hbd2, hbut2, hch2⟩
      obtain ⟨gt, cpt, rfl⟩ : ∃ gt cpt, tv2 = .slice (some ⟨gt, 0, none⟩) t.2.length cpt := by
        obtain ⟨xs, hx1, _⟩ := hbd2.terms
        rcases hx1.2 with ⟨_, hz⟩ | ⟨gt, cpt, cur, hv, _⟩
        · omega
        · exact ⟨gt, cpt, hv⟩
      obtain ⟨aon, cpn, rfl⟩ := own_shape (unhide HI).own
      obtain ⟨i, hi, hz, hsz, hby⟩ := info_parts infoStr
      have hz2 := hbut2.size
      simp at hz2
      have hvl := (unhide HI).bd.terms.own_lt
      have htl := hbd2.terms.own_lt gt rfl
      have hbz := (unhide HI).bel.size
      have hch3 : some gt = tvr.ownBlock ∨ wr.heap.size + 1 ≤ gt := by
        rcases hch2 with e | ⟨j, e, hj⟩
        · exact .inl e
        · have e' : gt = j := by injection e
          simp at hj
          exact .inr (by omega)
      have hgw : gt ≠ wr.heap.size := by
        rintro rfl
        rcases hch3 with e | e
        · have := hvl _ e.symm; omega
        · omega
      have hqw : w.heap.size + 1 ≠ wr.heap.size := by have := (unhide HI).bd.lt; omega
      have hw8 : w2.heap[wr.heap.size]? = _ := (hbut2.block wr.heap.size (by simp) (fun e => hqw e.symm) (fun e => by have := hvl _ e; omega)).trans (heap_alloc_new wr _)
      obtain ⟨v0, v1, v2, v3, v4, v5, v6, v7, vf, hv⟩ := eight hw8
      obtain ⟨c0, c1, cf⟩ := hbd2.cells
      have hlq2 := hbd2.lt
      have hgq : gt ≠ w.heap.size + 1 := fun e => hbd2.own (by rw [e]; rfl)
      obtain ⟨xs, hx1, hx2⟩ := hbd2.terms
      have hkt : k < t.2.length := by omega
      have f0 := hx1.cellAt (k * 3) (by omega)
      have f1 := hx1.cellAt (k * 3 + 1) (by omega)
      have f2 := hx1.cellAt (k * 3 + 2) (by omega)
      have hxl := hx1.1
      rw [List.getElem?_eq_getElem (by omega)] at f0 f1 f2
      have ff := hx1.frozenAt
      have hkt' : (k : Int) < t.2.length := by omega
      have HB2 := hide hbd2
      have HIR := hide hir
      have HBU := hide hbut2
      have HCH := hide hch3
      have HOn := hide (own_below (unhide HI).own ((Below.refl wr.heap.size wr).alloc (Nat.le_refl _) (.cells #[.string r.name, .int .i64 r.at_, .int .i64 r.body.kind, .int .i64 r.body.at_, .string r.body.text, .slice ao' n' cp', .bool r.empty, .int .i64 r.begins] 120)))
      clear hbd2 hir hbut2 hch2 hch3 hx1 hx2 hw8 v1 v2 v3 v4 v5 v6 v7
      have HKB := hide (unhide HI).own.lt
      have HO5 : Hid ((W5 w2 gt k t.1 (.slice ao2 n2 cp2) (.cells #[.int .i64 t.1.kind, .string t.1.text, .slice ao2 n2 cp2] 89) (.cells #[.string r.name] 9)).ownsRow (w.heap.size + 2) 9 1 (.slice aon k cpn) k ((rs.take k).map fun r => Value.string r.name)) := by
        refine own_keep (unhide HOn) fun b hb => ?_
        have h1 := unhide HKB b hb
        have h2 := (unhide HI).apart b hb
        have h3 : b ≠ gt := by
          rintro rfl
          rcases unhide HCH with e | e
          · exact h2.1 e.symm
          · omega
        exact (W5_block (by omega) h3).trans ((unhide HBU).block b (by simp; omega) h2.2 h2.1)
      have HN5 : Hid (∀ j u, [Value.string r.name][j]? = some u → (W5 w2 gt k t.1 (.slice ao2 n2 cp2) (.cells #[.int .i64 t.1.kind, .string t.1.text, .slice ao2 n2 cp2] 89) (.cells #[.string r.name] 9)).cell? ((⟨w2.heap.size + 1, 0, none⟩ : Addr).add j) = some u) := by
        have h := heap_alloc_new ((((w2.setCell ⟨gt, k * 3, none⟩ (.int .i64 t.1.kind)).setCell ⟨gt, k * 3 + 1, none⟩ (.string t.1.text)).setCell ⟨gt, k * 3 + 2, none⟩ (.slice ao2 n2 cp2)).alloc (.cells #[.int .i64 t.1.kind, .string t.1.text, .slice ao2 n2 cp2] 89)) (.cells #[.string r.name] 9)
        rw [show ((((w2.setCell ⟨gt, k * 3, none⟩ (.int .i64 t.1.kind)).setCell ⟨gt, k * 3 + 1, none⟩ (.string t.1.text)).setCell ⟨gt, k * 3 + 2, none⟩ (.slice ao2 n2 cp2)).alloc (.cells #[.int .i64 t.1.kind, .string t.1.text, .slice ao2 n2 cp2] 89)).heap.size = w2.heap.size + 1 from by simp [World.setCell]] at h
        exact World.news_of_block h
      have hS5 := hide (W5_size w2 gt k t.1 (.slice ao2 n2 cp2) (.cells #[.int .i64 t.1.kind, .string t.1.text, .slice ao2 n2 cp2] 89) (.cells #[.string r.name] 9))
      go_wp2_with (first | (at_builtin; refine wpList_append_lies (W5 w2 gt k t.1 (.slice ao2 n2 cp2) (.cells #[.int .i64 t.1.kind, .string t.1.text, .slice ao2 n2 cp2] 89) (.cells #[.string r.name] 9)) rfl (.tmp 28) (.tmp 31) 27 rfl (w.heap.size + 2) 9 i _ 1 16 Tryz.underlying27 hi hz hsz hby rfl (by omega) (.slice aon k cpn) k _ rfl (unhide HO5) ⟨w2.heap.size + 1, 0, none⟩ 1 1 [.string r.name] rfl rfl (unhide HN5) (by simp; rfl) (by omega) (by unfold maxLen; omega) (by omega) (by rw [unhide hS5]; omega) (w2.heap.size + 2) (unhide hS5) ?_) | go_in)
      intro g6 cap6 w6 hown6 hgrow6 hat6 hlt6
      have HNX := hide ((unhide HI).next hlt (unhide HIR) (unhide HB2) (unhide HBU) (unhide HCH) (by omega) ((unhide HI).pur.trans (unhide HST)) (by rw [unhide HTK, List.map_append, List.map_take]; exact hown6) hgrow6 hat6)
      clear hown6 hgrow6 hat6
      go_wp2_with fail
      go_roundw
      case rel => exact ⟨k + 1, _, _, by omega, by go_num, HNX⟩
      case measure => simp [intOf]; omega
    · have hkk : k = rs.length := by omega
      subst hkk
      obtain ⟨aon, cpn, rfl⟩ := own_shape (unhide HI).own
      obtain ⟨aot, cpt, rfl⟩ := (unhide HI).bd.terms.shape
      obtain ⟨c0, c1, cf⟩ := (unhide HI).bd.cells
      have hlq := (unhide HI).bd.lt
      go_wp2
      go_ret
      have hI := unhide HI
      have hp := hI.pur
      rw [List.drop_eq_nil_of_le (Nat.le_refl _), buildL] at hp
      obtain ⟨xs, hx1, hx2⟩ := hI.bd.terms
      have hA : Below wr.heap.size wr (wr.alloc (.cells #[.slice aon rs.length cpn, .slice aot Tr.length cpt] 57)) := (Below.refl _ _).alloc (Nat.le_refl _) _
      refine ⟨wr.heap.size, _, _, rfl, ⟨hI.bel.size, heap_alloc_new wr _, ?_, xs, ?_, ?_⟩, hI.bel.trans (hA.mono hI.bel.size)⟩
      · have h1 := hI.own
        rw [List.take_of_length_le (Nat.le_refl _)] at h1
        have h2 := (RowIn.of_owns h1).turn (S' := fun b => w.heap.size ≤ b) fun b hb hz => ⟨by omega, hA.block b hz⟩
        simpa [Function.comp_def] using h2
      · rw [hp]
        exact (RowIn.of_owns hx1).turn fun b hb hz => ⟨hb, hA.block b hz⟩
      · rw [hp]
        exact CellsT.imp (fun _ _ kk => RowIn.turn kk fun b hS hz => ⟨hS.1, hA.block b hz⟩) hx2
end Go.Proofs.YtbojcemamhiodaaGreatDoor
