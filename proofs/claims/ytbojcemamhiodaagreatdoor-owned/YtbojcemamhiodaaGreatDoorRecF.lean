import Derived.Test.YtbojcemamhiodaaGreatDoorRecE
import Derived.Test.YtbojcemamhiodaaGreatDoorJnd2
namespace Go.Proofs.YtbojcemamhiodaaGreatDoor
open Go.RowKit

/-- the contract of item at depth d -/
def SaidI (s : ByteArray) (q : Nat) (E : Tk → Int → Res) (d : Int) : Prop :=
  ∀ w t, TkOk s t → 2 ≤ t.k → Ps w q s t d → Calls Tryz.prog 140 #[.pointer (some ⟨q, 0, none⟩)] w (Out s q w (itemF s E (s.size + 1) t d))

/-- the token's place, out of the parser's block -/
def fromIn0 (q : Nat) (w : World) : Int := intOf ((w.cell? ⟨q, 2, none⟩).getD (.bool false))
theorem Ps.fromIn0 {w : World} {q : Nat} {s : ByteArray} {t : Tk} {d : Int} (h : Ps w q s t d) : fromIn0 q w = t.from_ := by
  unfold Go.Proofs.YtbojcemamhiodaaGreatDoor.fromIn0
  rw [h.cells.2.2.1]
  rfl

theorem rowF_no {s : ByteArray} {E : Tk → Int → Res} {k : Nat} {acc : List Nd} {t : Tk} {d : Int} (h : atIt s t = false) : rowF s E (k + 1) acc t d = ⟨0, joinF 5 acc, t, d⟩ := by rw [rowF, if_neg (by simp [h])]
theorem rowF_err {s : ByteArray} {E : Tk → Int → Res} {k : Nat} {acc : List Nd} {t : Tk} {d : Int} {r : Res} (h : atIt s t = true) (hr : itemF s E (s.size + 1) t d = r) (he : r.err ≠ 0) : rowF s E (k + 1) acc t d = errR r.err r.tk r.d := by rw [rowF, if_pos h, hr, if_pos he]
theorem rowF_yes {s : ByteArray} {E : Tk → Int → Res} {k : Nat} {acc : List Nd} {t : Tk} {d : Int} {r : Res} (h : atIt s t = true) (hr : itemF s E (s.size + 1) t d = r) (he : r.err = 0) : rowF s E (k + 1) acc t d = rowF s E k (acc ++ [r.nd]) r.tk r.d := by rw [rowF, if_pos h, hr, if_neg (by omega)]

set_option maxHeartbeats 2000000 in
theorem row_any (w : World) (q : Nat) (s : ByteArray) (t : Tk) (d : Int) (E : Tk → Int → Res) (hs : s.size ≤ 400) (ht : TkOk s t) (hp : Ps w q s t d)
    (hF : d < 12 → FineE s E (d + 1)) (hI : SaidI s q E d) :
    Calls Tryz.prog 119 #[.pointer (some ⟨q, 0, none⟩)] w (Out s q w (rowF s E (s.size + 1) [] t d)) := by
  have hlt := hp.lt
  have hne : w.heap.size ≠ q := by omega
  have HI := hide hI
  have HF := hide hF
  clear hI hF
  go_enter Tryz.func119, Tryz.ntmps119
  go_wp2_with fail
  go_at_call 139
  refine (atItem_any _ _ _ _ _ hs ht (hp.alloc _)).mono ?_
  rintro e w1 ⟨rfl, hb1⟩
  have hB1 : But q (w.alloc _) w1 := .of_below hb1 (Nat.le_refl _)
  have hN1 := hide (hB1.keep (heap_alloc_new w _) hne)
  have hp1 := hide ((hp.alloc _).but hb1)
  have hB := hide hB1.from_alloc
  clear hb1 hB1
  go_wp2_with fail
  go_loopw [4, 5] (fun v b wr => ∃ (k : Nat) (acc : List Nd) (t' : Tk) (ao : Option Addr) (cp : Nat), v = .slice ao acc.length cp ∧ b = .bool (atIt s t') ∧ Hid (rowF s E (s.size + 1) [] t d = rowF s E k acc t' d) ∧ TkOk s t' ∧ (s.size : Int) < k + t'.from_ ∧ (acc.length : Int) ≤ t'.from_ ∧ Hid (AccOk 5 t.from_ t'.from_ acc ∧ t.from_ ≤ t'.from_) ∧
      Hid (wr.heap[w.heap.size]? = some (.cells #[.int .i64 0, .int .i64 0, .string ⟨#[]⟩, .slice none 0 0] 118)) ∧
      Hid (Grow wr (w.heap.size + 1) (.slice ao acc.length cp) acc) ∧ Hid (Ps wr q s t' d) ∧ Hid (But q w wr)) (fun _ _ wr => (s.size - fromIn0 q wr).toNat)
  case atStart =>
    exact ⟨s.size + 1, [], t, none, 0, rfl, rfl, rfl, ht, by have := ht.from0; omega, ht.from0, ⟨.nil (Int.le_refl _), Int.le_refl _⟩, hN1, Grow.nil _ _, hp1, hB⟩
  case round =>
    obtain ⟨k, acc, t', ao, cp, rfl, rfl, HS, hok, hfu, hal, HA, HN, HG, HP, HB⟩ := hrel
    obtain ⟨r0, r1, r2, r3, rf, hz2⟩ := four (unhide HN)
    obtain ⟨k, rfl⟩ : ∃ m, k = m + 1 := ⟨k - 1, by have := hok.le; have := hok.size; omega⟩
    cases hb : atIt s t'
    · have HE := hide ((unhide HS).trans (rowF_no hb))
      clear hb
      have hsz := hok.size
      have hle := hok.le
      obtain ⟨ha1, ha2⟩ := unhide HA
      have hJ := hide (joined_any wr 5 _ acc (w.heap.size + 1) (unhide HG).kids (by omega) (fun n hn h5 => by have := ha1.wide n hn (.inl h5); omega) (by have := ha1.flat; have := ht.from0; omega))
      clear ha1 ha2
      go_wp2_with fail
      go_at_call 120
      refine (unhide hJ).mono ?_
      rintro e w5 ⟨ao5, n5, cp5, rfl, hk5, hb5⟩
      have hN5 := hide (below_keep hb5 (unhide HN) (Nat.le_refl _))
      have hB5 := hide hb5
      clear r0 r1 r2 r3 rf hb5
      obtain ⟨r0, r1, r2, r3, rf, hz5⟩ := four (unhide hN5)
      go_wp2
      refine bodyPost_ret (v := .tuple #[.agg #[.int .i64 (joinF 5 acc).kind, .int .i64 (joinF 5 acc).at_, .string (joinF 5 acc).text, .slice ao5 n5 cp5], .int .i64 0]) (by simp [results, Tryz.results119, go_sem, r0, r1, r2, r3]) rfl ?_
      rw [unhide HE]
      exact ⟨ao5, n5, cp5, rfl, hk5.keeps ((Keeps.refl _ _).set4 (by omega)) (by omega), ((unhide HP).but (unhide hB5)).set4 hne, ((unhide HB).below (unhide hB5) (unhide HB).size).set4 (Nat.le_refl _)⟩
    · have h2 := atIt_ge hb
      have hf := itemF_fine (unhide HF) (s.size + 1) t' hok h2
      have HY := hide (fun r => rowF_yes (s := s) (E := E) (k := k) (acc := acc) (t := t') (d := d) (r := r) hb)
      have HX := hide (fun r => rowF_err (s := s) (E := E) (k := k) (acc := acc) (t := t') (d := d) (r := r) hb)
      have Hb := hide hb
      clear hb
      go_wp2_with fail
      go_at_call 140
      refine (unhide HI _ _ hok h2 (unhide HP)).mono ?_
      generalize hr : itemF s E (s.size + 1) t' d = r at hf ⊢
      have Hr := hide hr
      clear hr
      obtain ⟨hf1, hf2, hf3⟩ := hf
      rintro e w2 ⟨ao2, nk2, cp2, rfl, hk2, hp2, hb2⟩
      have hN2 := hide (hb2.keep (unhide HN) hne)
      clear r0 r1 r2 r3 rf
      obtain ⟨r0, r1, r2, r3, rf, hz3⟩ := four (unhide hN2)
      by_cases he : r.err ≠ 0
      · have b1 : (r.err != 0) = true := by simpa using he
        have HE := hide ((unhide HS).trans (unhide HX r (unhide Hr) he))
        clear he
        go_wp2
        refine bodyPost_ret (v := .tuple #[.agg #[.int .i64 0, .int .i64 0, .string ByteArray.empty, .slice none 0 0], .int .i64 r.err]) (by simp [results, Tryz.results119, go_sem, r0, r1, r2, r3, hz3]; rfl) rfl ?_
        rw [unhide HE]
        exact ⟨none, 0, 0, rfl, Kids.nil _ _, (hp2.set4 hne).alloc _, (((unhide HB).trans hb2).set4 (Nat.le_refl _)).alloc _⟩
      · have b1 : (r.err != 0) = false := by simpa using he
        have he' : r.err = 0 := by omega
        have hd := hf1.dep he'
        have hfl := hf2 he'
        have HE := hide ((unhide HS).trans (unhide HY r (unhide Hr) he'))
        rw [hd] at HE hp2
        have htk := hf1.tk
        obtain ⟨ha1, ha2⟩ := unhide HA
        have HA' : Hid (AccOk 5 t.from_ r.tk.from_ (acc ++ [r.nd]) ∧ t.from_ ≤ r.tk.from_) := ⟨ha1.snoc (e := t'.from_) hf1.wide (by omega) hf3 (Int.le_refl _) ha2, by omega⟩
        clear he he' hd ha1 ha2 hf3
        have hzw := hb2.size
        have hG2 := hide (((unhide HG).keeps (hb2.keeps (by omega))).keeps ((Keeps.refl _ _).alloc (Nat.le_refl _) (.cells #[.int .i64 r.nd.kind, .int .i64 r.nd.at_, .string r.nd.text, .slice ao2 nk2 cp2] 118)))
        have hK2 := hide (hk2.keeps (lo' := _) ((Keeps.refl _ _).alloc (Nat.le_refl _) (.cells #[.int .i64 r.nd.kind, .int .i64 r.nd.at_, .string r.nd.text, .slice ao2 nk2 cp2] 118)) (Nat.le_refl _))
        have hown := hide ((unhide HG).own_lt)
        go_wp2_with (first | (at_builtin; refine wpList_append_nd rfl (.tmp 20) (.tmp 22) rfl (w.heap.size + 1) (.slice ao acc.length cp) acc rfl r.nd ao2 nk2 cp2 (by have := hok.le; have := hok.size; omega) _ (unhide hG2) (unhide hK2) (by omega) (fun k hk => (unhide hown k hk).2) (by simp; omega) _ (by simp) rfl ?_) | go_in)
        intro v' w3 hG3 hgr
        obtain ⟨ao3, cp3, hv3⟩ := hG3.shape
        subst hv3
        have hown' := unhide hown
        have hB3 := hide ((((unhide HB).trans hb2).alloc _).grown hgr (fun k hk => by have := (hown' k hk).1; omega))
        have hN3 := hide (grown_keep hgr (heap_old (unhide hN2)) (fun k hk => by have := (hown' k hk).1; omega))
        have hP3 : Hid (Ps w3 q s r.tk d) := grown_keep hgr (hp2.alloc _) (fun k hk => by have := (hown' k hk).1; omega)
        have hG3' := hide hG3
        clear hG3 hgr hown' r0 r1 r2 r3 rf
        go_wp2_with fail
        go_at_call 139
        refine (atItem_any _ _ _ _ _ hs htk (unhide hP3)).mono ?_
        rintro e w4 ⟨rfl, hb4⟩
        have hB4 : But q w3 w4 := .of_below hb4 (Nat.le_refl _)
        have hP4 := hide ((unhide hP3).but hb4)
        have hN4 := hide (hB4.keep (unhide hN3) hne)
        have hG4 := hide ((unhide hG3').keeps (hB4.keeps (by omega)))
        have hB5 := hide ((unhide hB3).trans hB4)
        clear hb4 hB4
        go_wp2_with fail
        go_roundw
        case rel => exact ⟨k, acc ++ [r.nd], r.tk, ao3, cp3, by simp, rfl, HE, htk, by omega, by simp; omega, HA', hN4, hG4, hP4, hB5⟩
        case measure => rw [(unhide hP4).fromIn0, (unhide HP).fromIn0]; have := hok.size; have := hok.lt h2; omega
end Go.Proofs.YtbojcemamhiodaaGreatDoor
