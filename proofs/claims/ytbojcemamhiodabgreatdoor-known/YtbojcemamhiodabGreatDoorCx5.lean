import Derived.Test.YtbojcemamhiodabGreatDoorCx4
namespace Go.Proofs.YtbojcemamhiodabGreatDoor
open Go.RowKit

section
variable {S : Nat → Prop} {p nb lo cb sb : Nat} {tv : Value} {T : List Tm} {s : ByteArray} {m : Int → Int → Option Int} {c : Int → Int → Option (List Ct)}

theorem witC_len (o : List UInt8) (y : List Ct) : o.length ≤ (witC o y).length ∧ (y ≠ [] → (outC (o ++ [40]) y).length ≤ (witC o y).length) := by
  cases y with
  | nil => exact ⟨Nat.le_refl _, fun h => absurd rfl h⟩
  | cons q l =>
    have h1 := outC_len (q :: l) (o ++ [40])
    simp only [List.length_append, List.length_cons, List.length_nil] at h1
    constructor
    · show _ ≤ (outC (o ++ [40]) (q :: l) ++ [41]).length
      simp only [List.length_append, List.length_cons, List.length_nil]
      omega
    · intro _
      show _ ≤ (outC (o ++ [40]) (q :: l) ++ [41]).length
      simp only [List.length_append, List.length_cons, List.length_nil]
      omega

set_option maxRecDepth 4000 in
set_option maxHeartbeats 8000000 in
theorem cpart_any (hm : SaidX S p nb tv T s m) (hok : ∀ i a r : Int, m i a = some r → 0 ≤ a → a ≤ s.size → Ok s a r) (hrow : SaidC S p nb lo cb sb tv T s m 76 (rowC m c))
    (w : World) (ov : Value) (o : List UInt8) (kind : Int) (text : ByteArray) (ks : List Int) (ao : Option Addr) (n cp : Nat) (a r : Nat) (y : List Ct) (hC : Cx w S p nb lo cb sb tv T s m ov o) (hl : IntR w S (.slice ao n cp) ks) (h1 : a ≤ s.size) (hr1 : r ≤ s.size) (htx : text.size ≤ 400) (hx : rowM m ks a = some (r : Int)) (hr : rowC m c ks a = some y) (hb : (witC (headC o text.data.toList a r) y).length ≤ 70368744177664) :
    Calls Tryz.prog 75 #[.pointer (some ⟨cb, 0, none⟩), .agg #[.int .i64 kind, .string text, .slice ao n cp], .int .i64 a] w (OutX S p nb lo cb sb tv T s m w ov (witC (headC o text.data.toList a r) y)) := by
  have hsub : s.size ≤ 60 := by obtain ⟨_, h⟩ := hC.mt; exact h.sub
  have hA : Below w.heap.size w (w.alloc (.cells #[.int .i64 kind, .string text, .slice ao n cp] 80)) := (Below.refl _ _).alloc (Nat.le_refl _) _
  have hC0 := hC.below hA
  obtain ⟨N0, hN0⟩ := hC0.mt
  have hl0 : IntR (w.alloc (.cells #[.int .i64 kind, .string text, .slice ao n cp] 80)) S (.slice ao n cp) ks := RowIn.turn hl fun b hS hz => ⟨hS, hA.block b hz⟩
  have hwl := witC_len (headC o text.data.toList a r) y
  have hhl : (headC o text.data.toList a r).length ≤ 70368744177664 := by omega
  have HB1 := hide hhl
  have HB2 : Hid (y ≠ [] → (outC (headC o text.data.toList a r ++ [40]) y).length ≤ 70368744177664) := fun h => Nat.le_trans (hwl.2 h) hb
  unfold headC at hhl
  have hol : (btwC o).length ≤ 140737488355328 := by simp only [List.length_append] at hhl; omega
  have HX := hide (fun W (hB : Below (w.alloc (.cells #[.int .i64 kind, .string text, .slice ao n cp] 80)).heap.size (w.alloc (.cells #[.int .i64 kind, .string text, .slice ao n cp] 80)) W) => mrow_any hm hok W N0 ks ao n cp a r (hN0.below hB) (RowIn.turn hl0 fun b hS hz => ⟨hS, hB.block b hz⟩) (by omega) (by omega) hx)
  obtain ⟨d0, d1, d2, df, hdb⟩ := hC0.cells
  have HC := hide hC
  have HC0 := hide hC0
  have HA := hide hA
  have HL := hide hl0
  have HR := hide hr
  have Hrow := hide hrow
  clear hm hok hrow hl hl0 hx hr hA hC0 hN0 hwl hb
  go_enter Tryz.func75, Tryz.ntmps75
  go_wp2_with fail
  go_region_held3 (fun w' => w'.cell? ⟨cb, 0, none⟩ = some (.pointer (some ⟨p, 0, none⟩)) ∧ w'.cell? ⟨w.heap.size, 2, none⟩ = some (.slice ao n cp)) (go_keep)
    (first | (go_at_call 50; refine (unhide HX _ (Below.refl _ _).drew).mono ?_; rintro e w4 ⟨N4, rfl, hM4, hB4⟩; have HM4 := hide hM4; have HB4 := hide hB4.from_drew; clear hM4 hB4; have q1 := ((unhide HC0).but ⟨N4, unhide HM4⟩ (unhide HB4)).cells.1; have q2 := (three_x (box_keep hC (Fx.of_but (cb := cb) (sb := sb) (ov := ov) (unhide HB4)))).2.2.1))
  have hC4 := (unhide HC0).but ⟨N4, unhide HM4⟩ (unhide HB4)
  have hF4 : Fx nb cb sb ov ov (w.alloc (.cells #[.int .i64 kind, .string text, .slice ao n cp] 80)) w4 := Fx.of_but (unhide HB4)
  have HBT := hide (between_any hC4 hol)
  have HF4 := hide hF4
  clear hC4 hF4 d0 d1 d2 df hdb q1 q2
  go_wp2_with fail
  go_at_call 73
  refine (unhide HBT).mono ?_
  rintro e w5 ⟨v5, rfl, hC5, hF5⟩
  have hF5' := (unhide HF4).trans hF5
  obtain ⟨k0, k1, k2, kz⟩ := three_x (box_keep hC hF5')
  clear hF5
  by_cases he : text = ByteArray.empty
  · subst he
    unfold headC at HB1 HB2 ⊢
    rw [show ByteArray.empty.data.toList = [] from rfl, if_pos rfl] at HB1 HB2 hhl ⊢
    have hC6 : Cx w5 S p nb lo cb sb tv T s m v5 (btwC o ++ []) := by rw [List.append_nil]; exact hC5
    have hF6 := hF5'
    clear hC5 hF5'
    go_upto_region 6 with fail

    -- the numbers and what is within
    have hC6' := hC6
    obtain ⟨k0, k1, k2, kz⟩ := three_x (box_keep hC hF6)
    have HN1 := hide (cnumber_any hC6' a (by omega) (by simp only [List.length_append, List.length_cons, List.length_nil] at hhl ⊢; omega))
    have HF6 := hide hF6
    clear hC6 hC6' hF6 k0 k1 k2 kz
    go_wp2_with fail
    go_at_call 74
    refine (unhide HN1).mono ?_
    rintro e w7 ⟨v7, rfl, hC7, hF7⟩
    have HF7 := hide ((unhide HF6).trans hF7)
    obtain ⟨o7, ho7⟩ : ∃ o7, btwC o ++ [] ++ decC a = o7 := ⟨_, rfl⟩
    rw [ho7] at hC7
    obtain ⟨c0, c1, c2, cf, hcb⟩ := hC7.cells
    obtain ⟨ao7, cp7, rfl, _, _⟩ := hC7.shape
    have hlo7 := hC7.lt.2.2.2.2
    have HO7 := hide hC7.out
    have HC7 := hide hC7
    have hlen7' : o7.length + 4 ≤ 140737488355328 := by rw [← ho7]; simp only [List.length_append, List.length_cons, List.length_nil] at hhl ⊢; omega
    have hlen7 : o7.length + 1 ≤ 140737488355328 := by omega
    have Ho7 := hide ho7
    clear ho7
    clear hC7 hF7
    go_wp2_with (first | (at_builtin; refine wpList_append1 rfl (.tmp 46) (.tmp 47) rfl lo _ o7 rfl 45 45 rfl _ (unhide HO7) _ rfl rfl hlen7 hlo7 ?_) | fail)
    intro v8 w8 hown hgr hob
    have HP8 := hide ((unhide HC7).put hgr hown hob)
    obtain ⟨k2, kf⟩ := (unhide HC7).keepC hgr
    obtain ⟨_, _, _, hsh⟩ := hown.shape
    subst hsh
    clear hown hgr hob c0 c1 c2 cf
    have HN9 := hide (cnumber_any (unhide HP8).1 r (by omega) (by simp only [List.length_append, List.length_cons, List.length_nil]; omega))
    go_wp2_with fail
    go_at_call 74
    refine (unhide HN9).mono ?_
    rintro e w9 ⟨v9, rfl, hC9, hF9⟩
    rw [← unhide Ho7] at hC9
    have hF9' := ((unhide HF7).trans (unhide HP8).2).trans hF9
    obtain ⟨k0, k1, k3, kz⟩ := three_x (box_keep (unhide HC) hF9')
    have HW9 := hide (cwithin_any (unhide Hrow) w9 v9 _ ks ao n cp a y hC9 ((unhide HL).fx (unhide HC0) hF9') (by omega) (by omega) (unhide HR) (unhide HB1) (unhide HB2))
    have HF9 := hide hF9'
    clear hC9 hF9 hF9' k2 kf
    go_wp2_with fail
    go_at_call 88
    refine (unhide HW9).mono ?_
    rintro e w10 ⟨v10, rfl, hC10, hF10⟩
    have HC10 := hide hC10
    have HF10 := hide ((Fx.of_below (unhide HA) (Nat.le_refl _)).trans ((unhide HF9).trans hF10))
    clear hC10 hF10 k0 k1 k3 kz
    go_wp2
    go_end0
    exact ⟨_, rfl, unhide HC10, unhide HF10⟩
  · unfold headC at HB1 HB2 ⊢
    have hne : ¬ text.data.toList = [] := fun e => he (by apply ByteArray.ext; apply Array.ext'; simpa using e)
    rw [if_neg hne] at HB1 HB2 hhl ⊢
    have hemp : text.toList.isEmpty = false := by rw [ByteArray.toList_eq]; cases hq : text.data.toList with | nil => exact absurd hq hne | cons => rfl
    obtain ⟨W5, hW5⟩ : ∃ W, W = w5.drew := ⟨_, rfl⟩
    have hB5 : Below w5.heap.size w5 W5 := by rw [hW5]; exact (Below.refl _ _).drew
    have hC5W := hC5.below hB5
    have hF5W := hF5'.trans (Fx.of_below hB5 (Nat.le_refl _))
    obtain ⟨c0, c1, c2, cf, hcb⟩ := hC5.cells
    obtain ⟨ao5, cp5, rfl, _, _⟩ := hC5.shape
    have hlo5 := hC5W.lt.2.2.2.2
    have HO5 := hide hC5W.out
    have HC5 := hide hC5W
    have HF5 := hide hF5W
    have HW5 := hide hW5
    have hlen5 : (btwC o).length + text.size + 8 ≤ 140737488355328 := by have := hhl; simp only [List.length_append, List.length_cons, List.length_nil] at this; omega
    have hlen5' : (btwC o).length + text.size ≤ 140737488355328 := by omega
    have HNE := hide hne
    clear hC5 hC5W hF5' hF5W hW5 hB5 hne
    go_wp2_with fail
    go_region_law
      ((rw [← unhide HW5]; refine step_appendS (w := W5) (by rfl) (.tmp 24) (.tmp 26) (by rfl) lo _ (btwC o) (by rfl) (unhide HO5) text (by rfl) hlen5' hlo5 ?_; intro v6 w6 hown hgr hob; have HP6 := hide ((unhide HC5).put hgr hown hob); obtain ⟨k6, kf6⟩ := (unhide HC5).keepC hgr; obtain ⟨_, _, _, hsh⟩ := hown.shape; subst hsh; clear hown hgr hob))
    all_goals
      have hC6a := (unhide HP6).1
      have hF6a := (unhide HF5).trans (unhide HP6).2
      obtain ⟨o6, ho6⟩ : ∃ o6, btwC o ++ text.data.toList = o6 := ⟨_, rfl⟩
      rw [ho6] at hC6a
      clear k0 k1 k2 kz c0 c1 c2 cf hcb k6 kf6
      obtain ⟨c0, c1, c2, cf, hcb⟩ := hC6a.cells
      obtain ⟨ao6, cp6, hq6, _, _⟩ := hC6a.shape
      injection hq6 with e1 e2 e3
      subst e1
      subst e2
      subst e3
      have hlo6 := hC6a.lt.2.2.2.2
      have HO6 := hide hC6a.out
      have HC6a := hide hC6a
      have HF6a := hide hF6a
      have hlen6 : o6.length + 1 ≤ 140737488355328 := by rw [← ho6, List.length_append, show text.data.toList.length = text.size from rfl]; omega
      have Ho6 := hide ho6
      clear ho6
      clear hC6a hF6a
      go_wp2_with (first | (at_builtin; refine wpList_append1 rfl (.tmp 34) (.tmp 35) rfl lo _ o6 rfl 61 61 rfl _ (unhide HO6) w6.heap.size (by simp [World.setCell]) rfl hlen6 hlo6 ?_) | fail)
      intro v6 w6 hown hgr hob
      have HP6 := hide ((unhide HC6a).put hgr hown (fun k hk => by have h6 := unhide hob k hk; simpa [World.setCell] using h6))
      obtain ⟨k6, kf6⟩ := (unhide HC6a).keepC hgr
      obtain ⟨_, _, _, hsh⟩ := hown.shape
      subst hsh
      clear hown hgr hob c0 c1 c2 cf
      go_upto_region 6 with fail
      have hC6 := (unhide HP6).1
      rw [← unhide Ho6, List.append_assoc] at hC6
      have hF6 := (unhide HF6a).trans (unhide HP6).2

      -- the numbers and what is within
      have hC6' := hC6
      obtain ⟨k0, k1, k2, kz⟩ := three_x (box_keep hC hF6)
      have HN1 := hide (cnumber_any hC6' a (by omega) (by simp only [List.length_append, List.length_cons, List.length_nil] at hhl ⊢; omega))
      have HF6 := hide hF6
      clear hC6 hC6' hF6 k0 k1 k2 kz
      go_wp2_with fail
      go_at_call 74
      refine (unhide HN1).mono ?_
      rintro e w7 ⟨v7, rfl, hC7, hF7⟩
      have HF7 := hide ((unhide HF6).trans hF7)
      obtain ⟨o7, ho7⟩ : ∃ o7, btwC o ++ (text.data.toList ++ [61]) ++ decC a = o7 := ⟨_, rfl⟩
      rw [ho7] at hC7
      obtain ⟨c0, c1, c2, cf, hcb⟩ := hC7.cells
      obtain ⟨ao7, cp7, rfl, _, _⟩ := hC7.shape
      have hlo7 := hC7.lt.2.2.2.2
      have HO7 := hide hC7.out
      have HC7 := hide hC7
      have hlen7' : o7.length + 4 ≤ 140737488355328 := by rw [← ho7]; simp only [List.length_append, List.length_cons, List.length_nil] at hhl ⊢; omega
      have hlen7 : o7.length + 1 ≤ 140737488355328 := by omega
      have Ho7 := hide ho7
      clear ho7
      clear hC7 hF7
      go_wp2_with (first | (at_builtin; refine wpList_append1 rfl (.tmp 46) (.tmp 47) rfl lo _ o7 rfl 45 45 rfl _ (unhide HO7) _ rfl rfl hlen7 hlo7 ?_) | fail)
      intro v8 w8 hown hgr hob
      have HP8 := hide ((unhide HC7).put hgr hown hob)
      obtain ⟨k2, kf⟩ := (unhide HC7).keepC hgr
      obtain ⟨_, _, _, hsh⟩ := hown.shape
      subst hsh
      clear hown hgr hob c0 c1 c2 cf
      have HN9 := hide (cnumber_any (unhide HP8).1 r (by omega) (by simp only [List.length_append, List.length_cons, List.length_nil]; omega))
      go_wp2_with fail
      go_at_call 74
      refine (unhide HN9).mono ?_
      rintro e w9 ⟨v9, rfl, hC9, hF9⟩
      rw [← unhide Ho7] at hC9
      have hF9' := ((unhide HF7).trans (unhide HP8).2).trans hF9
      obtain ⟨k0, k1, k3, kz⟩ := three_x (box_keep (unhide HC) hF9')
      have HW9 := hide (cwithin_any (unhide Hrow) w9 v9 _ ks ao n cp a y hC9 ((unhide HL).fx (unhide HC0) hF9') (by omega) (by omega) (unhide HR) (unhide HB1) (unhide HB2))
      have HF9 := hide hF9'
      clear hC9 hF9 hF9' k2 kf
      go_wp2_with fail
      go_at_call 88
      refine (unhide HW9).mono ?_
      rintro e w10 ⟨v10, rfl, hC10, hF10⟩
      have HC10 := hide hC10
      have HF10 := hide ((Fx.of_below (unhide HA) (Nat.le_refl _)).trans ((unhide HF9).trans hF10))
      clear hC10 hF10 k0 k1 k3 kz
      go_wp2
      go_end0
      exact ⟨_, rfl, by unfold headC; rw [if_neg (unhide HNE)]; exact unhide HC10, unhide HF10⟩
end
end Go.Proofs.YtbojcemamhiodabGreatDoor
