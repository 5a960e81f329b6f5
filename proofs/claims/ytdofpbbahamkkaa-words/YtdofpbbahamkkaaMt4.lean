import Derived.Test.YtdofpbbahamkkaaMt3
namespace Go.Proofs.Ytdofpbbahamkkaa
open Go.RowKit

section
variable {S : Nat → Prop} {p nb : Nat} {tv : Value} {T : List Tm} {s : ByteArray} {m : Int → Int → Option Int}

theorem OutM.from_alloc {w w' : World} {o : Obj} {r : Int} {e : Ending} (h : OutM S p nb tv T s (w.alloc o) r e w') : OutM S p nb tv T s w r e w' := by
  obtain ⟨N, h1, h2, h3⟩ := h
  exact ⟨N, h1, h2, h3.from_alloc⟩

theorem three_b {w w' : World} {nb : Nat} {a b c : Value} (hb : But nb (w.alloc (.cells #[a, b, c] 92)) w') (hn : nb < w.heap.size) : w'.cell? ⟨w.heap.size, 0, none⟩ = some a := by
  have h := (hb.block w.heap.size (by simp) (by omega)).trans (heap_alloc_new w _)
  simp [World.cell?, h]

set_option maxRecDepth 4000 in
set_option maxHeartbeats 4000000 in
theorem run_any (hm : SaidX S p nb tv T s m) (hok : ∀ i a r : Int, m i a = some r → 0 ≤ a → a ≤ s.size → Ok s a r) (w : World) (N : List Int) (t : Tm) (ao : Option Addr) (n cp : Nat) (a r : Int)
    (hM : Mt w S p nb tv T s N) (hk : IntR w S (.slice ao n cp) t.kids) (h0 : 0 ≤ a) (h1 : a ≤ s.size) (htx : t.text.size ≤ 400) (hr : runN m s (s.size + 2) t a = some r) :
    Calls Try.prog 42 #[.pointer (some ⟨p, 0, none⟩), .agg #[.int .i64 t.kind, .string t.text, .slice ao n cp], .int .i64 a] w (OutM S p nb tv T s w r) := by
  have hA : Below w.heap.size w (w.alloc (.cells #[.int .i64 t.kind, .string t.text, .slice ao n cp] 92)) := (Below.refl _ _).alloc (Nat.le_refl _) _
  have hM1 := hM.below hA
  have hk1 : IntR (w.alloc (.cells #[.int .i64 t.kind, .string t.text, .slice ao n cp] 92)) S (.slice ao n cp) t.kids := RowIn.turn hk fun b hS hz => ⟨hS, hA.block b hz⟩
  have hrow := mrow_any hm hok
  have hrok := rowM_ok hok
  have HB := hide (But.of_below (q := nb) hA (Nat.le_refl _))
  unfold runN at hr
  by_cases k0 : t.kind = 0
  · rw [if_pos k0] at hr
    injection hr with hr
    have b0 : (t.kind == 0) = true := by simp [k0]
    have HC := hide (word_any _ S p nb tv T s N t.text a htx h0 h1 hM1)
    have HM := hide hM1
    subst hr
    clear hM hk hM1 hk1 hrow hrok hm hok k0 hA
    go_enter Try.func42, Try.ntmps42
    go_wp2_with fail
    go_at_call 61
    refine (unhide HC).mono ?_
    rintro e w2 ⟨rfl, hb2⟩
    have HM2 := hide ((unhide HM).below hb2)
    have HB2 := hide ((unhide HB).below hb2 (unhide HB).size)
    clear hb2
    go_wp2
    go_ret
    exact ⟨N, rfl, unhide HM2, unhide HB2⟩
  rw [if_neg k0] at hr
  have b0 : (t.kind == 0) = false := by simp [k0]
  by_cases k1 : t.kind = 1
  · rw [if_pos k1] at hr
    injection hr with hr
    have b1 : (t.kind == 1) = true := by simp [k1]
    have HC := hide (oneOf_any _ S p nb tv T s N t.text a htx h0 h1 hM1)
    have HM := hide hM1
    subst hr
    clear hM hk hM1 hk1 hrow hrok hm hok k0 k1 hA
    go_enter Try.func42, Try.ntmps42
    go_wp2_with fail
    go_at_call 62
    refine (unhide HC).mono ?_
    rintro e w2 ⟨rfl, hb2⟩
    have HM2 := hide ((unhide HM).below hb2)
    have HB2 := hide ((unhide HB).below hb2 (unhide HB).size)
    clear hb2
    go_wp2
    go_ret
    exact ⟨N, rfl, unhide HM2, unhide HB2⟩
  rw [if_neg k1] at hr
  have b1 : (t.kind == 1) = false := by simp [k1]
  by_cases k3 : t.kind = 3
  · rw [if_pos k3] at hr
    injection hr with hr
    have b3 : (t.kind == 3) = true := by simp [k3]
    have HM := hide hM1
    subst hr
    clear hM hk hM1 hk1 hrow hrok hm hok k0 k1 k3 hA
    go_enter Try.func42, Try.ntmps42
    go_wp2
    go_ret
    exact ⟨N, rfl, unhide HM, unhide HB⟩
  rw [if_neg k3] at hr
  have b3 : (t.kind == 3) = false := by simp [k3]
  by_cases kr : t.kind = 2 ∨ t.kind = 4 ∨ t.kind = 5
  · rw [if_pos kr] at hr
    have HC := hide ((hrow) _ N t.kids ao n cp a r hM1 hk1 h0 h1 hr)
    have bor : ((t.kind == 2) = true) ∨ ((t.kind == 2) = false ∧ (t.kind == 4) = true) ∨ ((t.kind == 2) = false ∧ (t.kind == 4) = false ∧ (t.kind == 5) = true) := by
      rcases kr with e | e | e <;> simp [e]
    clear hM hk hM1 hk1 hrow hrok hm hok hr hA k0 k1 k3 kr
    rcases bor with b2 | ⟨b2, b4⟩ | ⟨b2, b4, b5⟩
    all_goals
      go_enter Try.func42, Try.ntmps42
      go_wp2_with fail
      go_at_call 63
      refine (unhide HC).mono ?_
      rintro e w2 ⟨N2, rfl, hM2, hB2⟩
      have HM2 := hide hM2
      have HB2 := hide hB2.from_alloc
      clear hM2 hB2
      go_wp2
      go_ret
      exact ⟨N2, rfl, unhide HM2, unhide HB2⟩
  rw [if_neg kr] at hr
  have b2 : (t.kind == 2) = false := by simp; omega
  have b4 : (t.kind == 4) = false := by simp; omega
  have b5 : (t.kind == 5) = false := by simp; omega
  by_cases k6 : t.kind = 6
  · rw [if_pos k6] at hr
    have HC := hide ((mchoice_any hm) _ N t.kids ao n cp a r hM1 hk1 h0 h1 hr)
    have b6 : (t.kind == 6) = true := by simp [k6]
    clear hM hk hM1 hk1 hrow hrok hm hok hr hA k0 k1 k3 kr k6
    go_enter Try.func42, Try.ntmps42
    go_wp2_with fail
    go_at_call 64
    refine (unhide HC).mono ?_
    rintro e w2 ⟨N2, rfl, hM2, hB2⟩
    have HM2 := hide hM2
    have HB2 := hide hB2.from_alloc
    clear hM2 hB2
    go_wp2
    go_ret
    exact ⟨N2, rfl, unhide HM2, unhide HB2⟩
  rw [if_neg k6] at hr
  have b6 : (t.kind == 6) = false := by simp [k6]
  by_cases k7 : t.kind = 7
  · rw [if_pos k7] at hr
    have HC := hide ((mand_any hrow) _ N t.kids ao n cp a r hM1 hk1 h0 h1 hr)
    have b7 : (t.kind == 7) = true := by simp [k7]
    clear hM hk hM1 hk1 hrow hrok hm hok hr hA k0 k1 k3 kr k6 k7
    go_enter Try.func42, Try.ntmps42
    go_wp2_with fail
    go_at_call 65
    refine (unhide HC).mono ?_
    rintro e w2 ⟨N2, rfl, hM2, hB2⟩
    have HM2 := hide hM2
    have HB2 := hide hB2.from_alloc
    clear hM2 hB2
    go_wp2
    go_ret
    exact ⟨N2, rfl, unhide HM2, unhide HB2⟩
  rw [if_neg k7] at hr
  have b7 : (t.kind == 7) = false := by simp [k7]
  by_cases k8 : t.kind = 8
  · rw [if_pos k8] at hr
    have HC := hide ((mnot_any hrow) _ N t.kids ao n cp a r hM1 hk1 h0 h1 hr)
    have b8 : (t.kind == 8) = true := by simp [k8]
    clear hM hk hM1 hk1 hrow hrok hm hok hr hA k0 k1 k3 kr k6 k7 k8
    go_enter Try.func42, Try.ntmps42
    go_wp2_with fail
    go_at_call 66
    refine (unhide HC).mono ?_
    rintro e w2 ⟨N2, rfl, hM2, hB2⟩
    have HM2 := hide hM2
    have HB2 := hide hB2.from_alloc
    clear hM2 hB2
    go_wp2
    go_ret
    exact ⟨N2, rfl, unhide HM2, unhide HB2⟩
  rw [if_neg k8] at hr
  have b8 : (t.kind == 8) = false := by simp [k8]
  by_cases k9 : t.kind = 9
  · rw [if_pos k9] at hr
    have HC := hide ((mstar_any (s.size + 2) hrow hrok) _ N t.kids ao n cp a r hM1 hk1 h0 h1 hr)
    have b9 : (t.kind == 9) = true := by simp [k9]
    clear hM hk hM1 hk1 hrow hrok hm hok hr hA k0 k1 k3 kr k6 k7 k8 k9
    go_enter Try.func42, Try.ntmps42
    go_wp2_with fail
    go_at_call 67
    refine (unhide HC).mono ?_
    rintro e w2 ⟨N2, rfl, hM2, hB2⟩
    have HM2 := hide hM2
    have HB2 := hide hB2.from_alloc
    clear hM2 hB2
    go_wp2
    go_ret
    exact ⟨N2, rfl, unhide HM2, unhide HB2⟩
  rw [if_neg k9] at hr
  have b9 : (t.kind == 9) = false := by simp [k9]
  by_cases k10 : t.kind = 10
  · rw [if_pos k10] at hr
    have HC := hide ((mplus_any (s.size + 2) hrow hrok (mstar_any (s.size + 2) hrow hrok)) _ N t.kids ao n cp a r hM1 hk1 h0 h1 hr)
    have b10 : (t.kind == 10) = true := by simp [k10]
    clear hM hk hM1 hk1 hrow hrok hm hok hr hA k0 k1 k3 kr k6 k7 k8 k9 k10
    go_enter Try.func42, Try.ntmps42
    go_wp2_with fail
    go_at_call 68
    refine (unhide HC).mono ?_
    rintro e w2 ⟨N2, rfl, hM2, hB2⟩
    have HM2 := hide hM2
    have HB2 := hide hB2.from_alloc
    clear hM2 hB2
    go_wp2
    go_ret
    exact ⟨N2, rfl, unhide HM2, unhide HB2⟩
  rw [if_neg k10] at hr
  have b10 : (t.kind == 10) = false := by simp [k10]
  by_cases k11 : t.kind = 11
  · rw [if_pos k11] at hr
    have HC := hide ((mquery_any hrow) _ N t.kids ao n cp a r hM1 hk1 h0 h1 hr)
    have b11 : (t.kind == 11) = true := by simp [k11]
    clear hM hk hM1 hk1 hrow hrok hm hok hr hA k0 k1 k3 kr k6 k7 k8 k9 k10 k11
    go_enter Try.func42, Try.ntmps42
    go_wp2_with fail
    go_at_call 69
    refine (unhide HC).mono ?_
    rintro e w2 ⟨N2, rfl, hM2, hB2⟩
    have HM2 := hide hM2
    have HB2 := hide hB2.from_alloc
    clear hM2 hB2
    go_wp2
    go_ret
    exact ⟨N2, rfl, unhide HM2, unhide HB2⟩
  rw [if_neg k11] at hr
  have b11 : (t.kind == 11) = false := by simp [k11]
  injection hr with hr
  have HM := hide hM1
  subst hr
  clear hM hk hM1 hk1 hrow hrok hm hok k0 k1 k3 kr k6 k7 k8 k9 k10 k11 hA
  go_enter Try.func42, Try.ntmps42
  go_wp2
  go_ret
  exact ⟨N, rfl, unhide HM, unhide HB⟩
end
end Go.Proofs.Ytdofpbbahamkkaa
