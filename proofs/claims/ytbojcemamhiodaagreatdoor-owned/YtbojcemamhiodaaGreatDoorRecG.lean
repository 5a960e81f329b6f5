import Derived.Test.YtbojcemamhiodaaGreatDoorRecF
namespace Go.Proofs.YtbojcemamhiodaaGreatDoor
open Go.RowKit

/-- the contract of row at depth d -/
def SaidW (s : ByteArray) (q : Nat) (E : Tk → Int → Res) (d : Int) : Prop :=
  ∀ w t, TkOk s t → Ps w q s t d → Calls Tryz.prog 119 #[.pointer (some ⟨q, 0, none⟩)] w (Out s q w (rowF s E (s.size + 1) [] t d))

theorem rowsF_no {s : ByteArray} {E : Tk → Int → Res} {k : Nat} {acc : List Nd} {t : Tk} {d : Int} (h : t.k ≠ 6) : rowsF s E (k + 1) acc t d = ⟨0, joinF 6 acc, t, d⟩ := by rw [rowsF, if_neg h]
theorem rowsF_err {s : ByteArray} {E : Tk → Int → Res} {k : Nat} {acc : List Nd} {t : Tk} {d : Int} {r : Res} (h : t.k = 6) (hr : rowF s E (s.size + 1) [] (nextT s t.to) d = r) (he : r.err ≠ 0) : rowsF s E (k + 1) acc t d = errR r.err r.tk r.d := by rw [rowsF, if_pos h, hr, if_pos he]
theorem rowsF_yes {s : ByteArray} {E : Tk → Int → Res} {k : Nat} {acc : List Nd} {t : Tk} {d : Int} {r : Res} (h : t.k = 6) (hr : rowF s E (s.size + 1) [] (nextT s t.to) d = r) (he : r.err = 0) : rowsF s E (k + 1) acc t d = rowsF s E k (acc ++ [r.nd]) r.tk r.d := by rw [rowsF, if_pos h, hr, if_neg (by omega)]
theorem exprF_err {s : ByteArray} {E : Tk → Int → Res} {t : Tk} {d : Int} {r : Res} (hr : rowF s E (s.size + 1) [] t d = r) (he : r.err ≠ 0) : exprF s E t d = errR r.err r.tk r.d := by rw [exprF, hr, if_pos he]
theorem exprF_ok {s : ByteArray} {E : Tk → Int → Res} {t : Tk} {d : Int} {r : Res} (hr : rowF s E (s.size + 1) [] t d = r) (he : r.err = 0) : exprF s E t d = rowsF s E (s.size + 1) [r.nd] r.tk r.d := by rw [exprF, hr, if_neg (by omega)]

set_option maxHeartbeats 4000000 in
theorem expression_any (w : World) (q : Nat) (s : ByteArray) (t : Tk) (d : Int) (E : Tk → Int → Res) (hs : s.size ≤ 400) (ht : TkOk s t) (hp : Ps w q s t d)
    (hF : d < 12 → FineE s E (d + 1)) (hW : SaidW s q E d) :
    Calls Tryz.prog 82 #[.pointer (some ⟨q, 0, none⟩)] w (Out s q w (exprF s E t d)) := by
  have hlt := hp.lt
  have hne : w.heap.size ≠ q := by omega
  have HW := hide hW
  have HF := hide hF
  obtain ⟨hf, hf0⟩ := rowF_fine hF (s.size + 1) [] t ht (Int.le_refl _) (.nil (Int.le_refl _))
  clear hW hF
  go_enter Tryz.func82, Tryz.ntmps82
  go_wp2_with fail
  go_at_call 119
  refine (unhide HW _ _ ht (hp.alloc _)).mono ?_
  generalize hr : rowF s E (s.size + 1) [] t d = r at hf hf0 ⊢
  have Hr := hide hr
  clear hr
  rintro e w1 ⟨ao1, nk1, cp1, rfl, hk1, hp1, hb1⟩
  have hN1 := hide (hb1.keep (heap_alloc_new w _) hne)
  obtain ⟨r0, r1, r2, r3, rf, hz1⟩ := four (unhide hN1)
  have htk := hf.tk
  have hB1 := hide hb1.from_alloc
  have hzw := hb1.size
  simp at hzw
  have HA0 : Hid (AccOk 6 t.from_ (r.tk.from_ + 1) [r.nd] ∧ t.from_ ≤ r.tk.from_) := ⟨by have h := (AccOk.nil (k := 6) (a := t.from_) (b := t.from_) (Int.le_refl _)).snoc (c := r.tk.from_ + 1) (e := t.from_) hf.wide (by have := hf.ge; omega) hf.len (Int.le_refl _) (Int.le_refl _); simpa using h, hf.ge⟩
  clear hf0
  go_wp2_with fail
  go_loopw [5, 6] (fun e v wr => ∃ (ao : Option Addr) (n cp : Nat), v = .slice ao n cp ∧
      ((∃ r' : Res, e = .int .i64 r'.err ∧ (r'.err == 0) = false ∧ Hid (exprF s E t d = errR r'.err r'.tk r'.d) ∧ Hid (Ps wr q s r'.tk r'.d)) ∨
       (∃ (k : Nat) (acc : List Nd) (t' : Tk), e = .int .i64 0 ∧ Hid (n = acc.length) ∧ Hid (exprF s E t d = rowsF s E k acc t' d) ∧ TkOk s t' ∧ (s.size : Int) < k + t'.from_ ∧ (acc.length : Int) ≤ t'.from_ + 1 ∧ Hid (AccOk 6 t.from_ (t'.from_ + 1) acc ∧ t.from_ ≤ t'.from_) ∧
         Hid (Grow wr (w.heap.size + 1) (.slice ao n cp) acc) ∧ Hid (Ps wr q s t' d))) ∧
      Hid (wr.heap[w.heap.size]? = some (.cells #[.int .i64 0, .int .i64 0, .string ⟨#[]⟩, .slice none 0 0] 118)) ∧ Hid (But q w wr)) (fun _ _ wr => (s.size - fromIn0 q wr).toNat)
  case atStart =>
    refine ⟨_, 1, 1, rfl, ?_, heap_old (heap_old (unhide hN1)), ((unhide hB1).alloc _).alloc _⟩
    by_cases he : r.err ≠ 0
    · exact .inl ⟨r, rfl, by simpa using he, exprF_err (unhide Hr) he, (hp1.alloc _).alloc _⟩
    · have he' : r.err = 0 := by omega
      have hd := hf.dep he'
      have HX := exprF_ok (unhide Hr) he'
      rw [hd] at HX hp1
      refine .inr ⟨s.size + 1, [r.nd], r.tk, by rw [he'], rfl, HX, htk, by have := htk.from0; omega, by have := htk.from0; simp; omega, HA0, ?_, (hp1.alloc _).alloc _⟩
      have hG := Grow.one (w := w1.alloc (.cells #[.int .i64 r.nd.kind, .int .i64 r.nd.at_, .string r.nd.text, .slice ao1 nk1 cp1] 118)) (t := r.nd) (hk1.keeps (lo' := w.heap.size + 1) ((Keeps.refl _ _).alloc (Nat.le_refl _) _) (by simp)) (Nat.le_refl _) (by simp; omega)
      have e1 : (w1.alloc (.cells #[.int .i64 r.nd.kind, .int .i64 r.nd.at_, .string r.nd.text, .slice ao1 nk1 cp1] 118)).heap.size = w1.heap.size + 1 := by simp
      rw [e1] at hG
      exact hG
  case round =>
    clear r0 r1 r2 r3 rf
    obtain ⟨ao, n, cp, rfl, hcase, HN, HB⟩ := hrel
    obtain ⟨r0, r1, r2, r3, rf, hz2⟩ := four (unhide HN)
    rcases hcase with ⟨r', rfl, he', HX, HP⟩ | ⟨k, acc, t', rfl, Hn, HS, hok, hfu, hal, HA, HG, HP⟩
    · have b1 : (r'.err != 0) = true := by simpa using he'
      go_wp2
      refine bodyPost_ret (v := .tuple #[.agg #[.int .i64 0, .int .i64 0, .string ByteArray.empty, .slice none 0 0], .int .i64 r'.err]) (by simp [results, Tryz.results82, go_sem, r0, r1, r2, r3]; rfl) rfl ?_
      rw [unhide HX]
      exact ⟨none, 0, 0, rfl, Kids.nil _ _, (unhide HP).set4 hne, (unhide HB).set4 (Nat.le_refl _)⟩
    · obtain ⟨k, rfl⟩ : ∃ m, k = m + 1 := ⟨k - 1, by have := hok.le; have := hok.size; omega⟩
      obtain ⟨c0, c1, c2, c3, c4⟩ := (unhide HP).cells
      by_cases h6 : t'.k = 6
      · have b6 : (t'.k == 6) = true := by simp [h6]
        have hlt' := hok.lt (by omega)
        have hn := hok.next
        obtain ⟨hf2, hf3⟩ := rowF_fine (unhide HF) (s.size + 1) [] _ hn.1 (Int.le_refl _) (.nil (Int.le_refl _))
        have HY := hide (fun r => rowsF_yes (s := s) (E := E) (k := k) (acc := acc) (t := t') (d := d) (r := r) h6)
        have HX := hide (fun r => rowsF_err (s := s) (E := E) (k := k) (acc := acc) (t := t') (d := d) (r := r) h6)
        clear h6
        go_wp2_with fail
        go_at_call 118
        refine (step_any _ _ _ _ _ hs (by have := hok.from0; have := hok.le; omega) hok.size (unhide HP)).mono ?_
        rintro e w2 ⟨rfl, hp2, hb2⟩
        have hN2 := hide (hb2.keep (unhide HN) hne)
        clear r0 r1 r2 r3 rf c0 c1 c2 c3 c4
        go_wp2_with fail
        go_at_call 119
        refine (unhide HW _ _ hn.1 hp2).mono ?_
        generalize hr : rowF s E (s.size + 1) [] (nextT s t'.to) d = r5 at hf2 hf3 ⊢
        have Hr5 := hide hr
        clear hr
        rintro e w3 ⟨ao3, nk3, cp3, rfl, hk3, hp3, hb3⟩
        have hN3 := hide (hb3.keep (unhide hN2) hne)
        have hzz := hb2.size
        have hzy := hb3.size
        have hfg := hf2.ge
        have htk3 := hf2.tk
        have HA' : Hid (AccOk 6 t.from_ (r5.tk.from_ + 1) (acc ++ [r5.nd]) ∧ t.from_ ≤ r5.tk.from_) := ⟨(unhide HA).1.snoc (e := (nextT s t'.to).from_) hf2.wide (by omega) (by omega) (by omega) (by have := (unhide HA).2; omega), by have := (unhide HA).2; omega⟩
        clear hf3
        have hG3 := hide ((((unhide HG).keeps (hb2.keeps (by omega))).keeps (hb3.keeps (by omega))).keeps ((Keeps.refl _ _).alloc (Nat.le_refl _) (.cells #[.int .i64 r5.nd.kind, .int .i64 r5.nd.at_, .string r5.nd.text, .slice ao3 nk3 cp3] 118)))
        have hK3 := hide (hk3.keeps (lo' := _) ((Keeps.refl _ _).alloc (Nat.le_refl _) (.cells #[.int .i64 r5.nd.kind, .int .i64 r5.nd.at_, .string r5.nd.text, .slice ao3 nk3 cp3] 118)) (Nat.le_refl _))
        have hown := hide ((unhide HG).own_lt)
        have hn' := unhide Hn
        subst hn'
        go_wp2_with (first | (at_builtin; refine wpList_append_nd rfl (.tmp 33) (.tmp 35) rfl (w.heap.size + 1) (.slice ao acc.length cp) acc rfl r5.nd ao3 nk3 cp3 (by have := hok.le; have := hok.size; omega) _ (unhide hG3) (unhide hK3) (by omega) (fun k hk => by have := (unhide hown k hk).2; omega) (by simp; omega) _ (by simp) rfl ?_) | go_in)
        intro v' w4 hG4 hgr
        obtain ⟨ao4, cp4, hv4⟩ := hG4.shape
        subst hv4
        have hown' := unhide hown
        have hB4 := hide (((((unhide HB).trans hb2).trans hb3).alloc _).grown hgr (fun k hk => by have := (hown' k hk).1; omega))
        have hN4 := hide (grown_keep hgr (heap_old (unhide hN3)) (fun k hk => by have := (hown' k hk).1; omega))
        have hP4 : Hid (Ps w4 q s r5.tk r5.d) := grown_keep hgr (hp3.alloc _) (fun k hk => by have := (hown' k hk).1; omega)
        have hG4' := hide hG4
        clear hG4 hgr hown'
        go_wp2_with fail
        go_roundw
        case rel =>
          refine ⟨ao4, acc.length + 1, cp4, by simp, ?_, hN4, hB4⟩
          by_cases he : r5.err ≠ 0
          · exact .inl ⟨r5, rfl, by simpa using he, (unhide HS).trans (unhide HX r5 (unhide Hr5) he), hP4⟩
          · have he' : r5.err = 0 := by omega
            have hd := hf2.dep he'
            have HZ := (unhide HS).trans (unhide HY r5 (unhide Hr5) he')
            rw [hd] at HZ hP4
            exact .inr ⟨k, acc ++ [r5.nd], r5.tk, by rw [he'], by simp [Hid], HZ, htk3, by omega, by simp; omega, HA', by simpa using hG4', hP4⟩
        case measure => rw [(unhide hP4).fromIn0, (unhide HP).fromIn0]; have := hok.size; omega
      · have b6 : (t'.k == 6) = false := by simp [h6]
        have HE := hide ((unhide HS).trans (rowsF_no h6))
        clear h6
        have hsz := hok.size
        have hle := hok.le
        obtain ⟨ha1, ha2⟩ := unhide HA
        have hn' := unhide Hn
        subst hn'
        have hJ := hide (joined_any wr 6 _ acc (w.heap.size + 1) (unhide HG).kids (by omega) (fun n hn h6 => by have := ha1.wide n hn (.inr h6); omega) (by have := ha1.flat; have := ht.from0; omega))
        clear ha1 ha2
        go_wp2_with fail
        go_at_call 120
        refine (unhide hJ).mono ?_
        rintro e w5 ⟨ao5, n5, cp5, rfl, hk5, hb5⟩
        have hN5 := hide (below_keep hb5 (unhide HN) (Nat.le_refl _))
        have hB5 := hide hb5
        clear r0 r1 r2 r3 rf hb5
        obtain ⟨r0, r1, r2, r3, rf, hz5⟩ := four (unhide hN5)
        go_wp2
        refine bodyPost_ret (v := .tuple #[.agg #[.int .i64 (joinF 6 acc).kind, .int .i64 (joinF 6 acc).at_, .string (joinF 6 acc).text, .slice ao5 n5 cp5], .int .i64 0]) (by simp [results, Tryz.results82, go_sem, r0, r1, r2, r3]) rfl ?_
        rw [unhide HE]
        exact ⟨ao5, n5, cp5, rfl, hk5.keeps ((Keeps.refl _ _).set4 (by omega)) (by omega), ((unhide HP).but (unhide hB5)).set4 hne, ((unhide HB).below (unhide hB5) (unhide HB).size).set4 (Nat.le_refl _)⟩
end Go.Proofs.YtbojcemamhiodaaGreatDoor
