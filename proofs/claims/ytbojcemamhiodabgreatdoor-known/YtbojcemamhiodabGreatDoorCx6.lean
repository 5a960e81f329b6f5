import Derived.Test.YtbojcemamhiodabGreatDoorCx5
namespace Go.Proofs.YtbojcemamhiodabGreatDoor
open Go.RowKit

section
variable {S : Nat → Prop} {p nb lo cb sb : Nat} {tv : Value} {T : List Tm} {s : ByteArray} {m : Int → Int → Option Int} {c : Int → Int → Option (List Ct)}

set_option maxRecDepth 4000 in
set_option maxHeartbeats 8000000 in
theorem cwalk_any (hm : SaidX S p nb tv T s m) (hok : ∀ i a r : Int, m i a = some r → 0 ≤ a → a ≤ s.size → Ok s a r) (hc : SaidTm S p nb lo cb sb tv T s m c) (hcok : ∀ i a r, c i a = some r → 0 ≤ a → a ≤ s.size → ∀ x ∈ r, CtOk x)
    (w : World) (ov : Value) (o : List UInt8) (t : Tm) (ao : Option Addr) (n cp : Nat) (a : Nat) (l : List Ct) (hC : Cx w S p nb lo cb sb tv T s m ov o) (hk : IntR w S (.slice ao n cp) t.kids) (h1 : a ≤ s.size) (htx : t.text.size ≤ 400) (hp : t.kind = 4 → ∃ r : Nat, r ≤ s.size ∧ rowM m t.kids a = some (r : Int)) (hw : walkC m c (s.size + 2) t a = some l) (hb : l ≠ [] → (outC o l).length ≤ 70368744177664) :
    Calls Tryz.prog 57 #[.pointer (some ⟨cb, 0, none⟩), .agg #[.int .i64 t.kind, .string t.text, .slice ao n cp], .int .i64 a] w (OutX S p nb lo cb sb tv T s m w ov (outC o l)) := by
  have hsub : s.size ≤ 60 := by obtain ⟨_, h⟩ := hC.mt; exact h.sub
  have hA : Below w.heap.size w (w.alloc (.cells #[.int .i64 t.kind, .string t.text, .slice ao n cp] 80)) := (Below.refl _ _).alloc (Nat.le_refl _) _
  have hC0 := hC.below hA
  have hk0 : IntR (w.alloc (.cells #[.int .i64 t.kind, .string t.text, .slice ao n cp] 80)) S (.slice ao n cp) t.kids := RowIn.turn hk fun b hS hz => ⟨hS, hA.block b hz⟩
  have hrow := crow_any hm hok hc
  have HA := hide hA
  unfold walkC at hw
  by_cases k3 : t.kind = 3
  · rw [if_pos k3] at hw
    have hw' : [Ct.mk a (-1) [] []] = l := by injection hw
    have b3 : (t.kind == 3) = true := by simp [k3]
    have ho : outC o l = btwC o ++ decC a := by rw [← hw']; show btwC o ++ wrC _ = _; rw [wrC_place]
    have hbb := hb (by rw [← hw']; simp)
    rw [ho] at hbb ⊢
    have hbt : (btwC o).length ≤ 70368744177664 := by simp only [List.length_append] at hbb; omega
    have HB := hide (between_any hC0 (by omega))
    clear hC hk hC0 hk0 hrow hm hok hc hcok hA hw k3 hw' ho hbb hp hb
    go_enter Tryz.func57, Tryz.ntmps57
    go_wp2_with fail
    go_at_call 73
    refine (unhide HB).mono ?_
    rintro e w1 ⟨v1, rfl, hC1, hF1⟩
    have HN := hide (cnumber_any hC1 a (by omega) (by omega))
    have HF1 := hide hF1
    clear hC1 hF1
    go_wp2_with fail
    go_at_call 74
    refine (unhide HN).mono ?_
    rintro e w2 ⟨v2, rfl, hC2, hF2⟩
    have HC2 := hide hC2
    have HF2 := hide ((Fx.of_below (unhide HA) (Nat.le_refl _)).trans ((unhide HF1).trans hF2))
    clear hC2 hF2
    go_wp2
    go_end0
    exact ⟨_, rfl, unhide HC2, unhide HF2⟩
  rw [if_neg k3] at hw
  have b3 : (t.kind == 3) = false := by simp [k3]
  by_cases k4 : t.kind = 4
  · rw [if_pos k4] at hw
    obtain ⟨r, hr60, hr⟩ := hp k4
    obtain ⟨x, y, hx, hy, hl⟩ := partC_some hw
    rw [hr] at hx
    have hx' : (r : Int) = x := by injection hx
    subst hx'
    have hyok := rowC_ok hok hcok _ _ _ hy (by omega) (by omega)
    have b4 : (t.kind == 4) = true := by simp [k4]
    have hbb := hb (by rw [hl]; simp)
    rw [hl, ← part_out hyok] at hbb ⊢
    have HC := hide (cpart_any hm hok hrow _ ov o t.kind t.text t.kids ao n cp a r y hC0 hk0 h1 hr60 htx hr hy hbb)
    clear hC hk hC0 hk0 hrow hm hok hc hcok hA hw k3 k4 hb hp hl hx hy hr hyok hbb
    go_enter Tryz.func57, Tryz.ntmps57
    go_wp2_with fail
    go_at_call 75
    refine (unhide HC).mono ?_
    rintro e w2 ⟨v2, rfl, hC2, hF2⟩
    have HC2 := hide hC2
    have HF2 := hide ((Fx.of_below (unhide HA) (Nat.le_refl _)).trans hF2)
    clear hC2 hF2
    go_wp2
    go_end0
    exact ⟨_, rfl, unhide HC2, unhide HF2⟩
  rw [if_neg k4] at hw
  have b4 : (t.kind == 4) = false := by simp [k4]
  clear hp
  by_cases kr : t.kind = 2 ∨ t.kind = 5 ∨ t.kind = 11
  · rw [if_pos kr] at hw
    have HC := hide (hrow _ ov o t.kids ao n cp a l hC0 hk0 (by omega) (by omega) hw hb)
    have bor : ((t.kind == 2) = true) ∨ ((t.kind == 2) = false ∧ (t.kind == 5) = true) ∨ ((t.kind == 2) = false ∧ (t.kind == 5) = false ∧ (t.kind == 11) = true) := by
      rcases kr with e | e | e <;> simp [e]
    clear hC hk hC0 hk0 hrow hm hok hc hcok hA hw k3 k4 kr hb
    rcases bor with b2 | ⟨b2, b5⟩ | ⟨b2, b5, b11⟩
    all_goals
      go_enter Tryz.func57, Tryz.ntmps57
      go_wp2_with fail
      go_at_call 76
      refine (unhide HC).mono ?_
      rintro e w2 ⟨v2, rfl, hC2, hF2⟩
      have HC2 := hide hC2
      have HF2 := hide ((Fx.of_below (unhide HA) (Nat.le_refl _)).trans hF2)
      clear hC2 hF2
      go_wp2
      go_end0
      exact ⟨_, rfl, unhide HC2, unhide HF2⟩
  rw [if_neg kr] at hw
  have b2 : (t.kind == 2) = false := by simp; omega
  have b5 : (t.kind == 5) = false := by simp; omega
  have b11 : (t.kind == 11) = false := by simp; omega
  by_cases k6 : t.kind = 6
  · rw [if_pos k6] at hw
    have HC := hide ((cchoice_any hm hc) _ ov o t.kids ao n cp a l hC0 hk0 (by omega) (by omega) hw hb)
    have b6 : (t.kind == 6) = true := by simp [k6]
    clear hC hk hC0 hk0 hrow hm hok hc hcok hA hw k3 k4 kr k6 hb
    go_enter Tryz.func57, Tryz.ntmps57
    go_wp2_with fail
    go_at_call 77
    refine (unhide HC).mono ?_
    rintro e w2 ⟨v2, rfl, hC2, hF2⟩
    have HC2 := hide hC2
    have HF2 := hide ((Fx.of_below (unhide HA) (Nat.le_refl _)).trans hF2)
    clear hC2 hF2
    go_wp2
    go_end0
    exact ⟨_, rfl, unhide HC2, unhide HF2⟩
  rw [if_neg k6] at hw
  have b6 : (t.kind == 6) = false := by simp [k6]
  by_cases k9 : t.kind = 9 ∨ t.kind = 10
  · rw [if_pos k9] at hw
    have HC := hide ((crounds_any (s.size + 2) hm hok hrow) _ ov o t.kids ao n cp a l hC0 hk0 (by omega) (by omega) hw hb)
    have bor : ((t.kind == 9) = true) ∨ ((t.kind == 9) = false ∧ (t.kind == 10) = true) := by
      rcases k9 with e | e <;> simp [e]
    clear hC hk hC0 hk0 hrow hm hok hc hcok hA hw k3 k4 kr k6 k9 hb
    rcases bor with b9 | ⟨b9, b10⟩
    all_goals
      go_enter Tryz.func57, Tryz.ntmps57
      go_wp2_with fail
      go_at_call 78
      refine (unhide HC).mono ?_
      rintro e w2 ⟨v2, rfl, hC2, hF2⟩
      have HC2 := hide hC2
      have HF2 := hide ((Fx.of_below (unhide HA) (Nat.le_refl _)).trans hF2)
      clear hC2 hF2
      go_wp2
      go_end0
      exact ⟨_, rfl, unhide HC2, unhide HF2⟩
  rw [if_neg k9] at hw
  have b9 : (t.kind == 9) = false := by simp; omega
  have b10 : (t.kind == 10) = false := by simp; omega
  have hl : [] = l := by injection hw
  subst hl
  have HC := hide hC0
  clear hC hk hC0 hk0 hrow hm hok hc hcok hA hw k3 k4 kr k6 k9 hb
  go_enter Tryz.func57, Tryz.ntmps57
  go_wp2
  go_end0
  exact ⟨_, rfl, unhide HC, Fx.of_below (unhide HA) (Nat.le_refl _)⟩

/-- it is noted whether a term is silent at a place -/
theorem Cx.setSil {w : World} {ov : Value} {o : List UInt8} (h : Cx w S p nb lo cb sb tv T s m ov o) {k a : Nat} (v : Bool) (hk : k < T.length) (ha : a ≤ s.size) (hv : v = true → ∃ F, catN T s m F k a = some []) :
    Cx (w.setCell ⟨sb, k * (s.size + 1) + a, none⟩ (.bool v)) S p nb lo cb sb tv T s m ov o ∧ Fx nb cb sb ov ov w (w.setCell ⟨sb, k * (s.size + 1) + a, none⟩ (.bool v)) := by
  obtain ⟨l1, l2, l3, l4, l5⟩ := h.lt
  obtain ⟨n1, n2, n3, n4, n5⟩ := h.ne
  have key : ∀ b, b ≠ sb → (w.setCell ⟨sb, k * (s.size + 1) + a, none⟩ (.bool v)).heap[b]? = w.heap[b]? := fun b hb => Below.heap_setCell _ _ _ _ (by simpa using hb)
  have hsz : (w.setCell ⟨sb, k * (s.size + 1) + a, none⟩ (.bool v)).heap.size = w.heap.size := by simp [World.setCell]
  obtain ⟨N, hN⟩ := h.mt
  obtain ⟨xs, t1, t2⟩ := hN.terms
  obtain ⟨L, s1, s2, s3⟩ := h.sil
  have hS : ∀ b, S b → (w.setCell ⟨sb, k * (s.size + 1) + a, none⟩ (.bool v)).heap[b]? = w.heap[b]? := fun b hb => key b (h.Sl b hb).2.2
  refine ⟨⟨⟨N, (key p (by omega)).trans hN.cell, (key nb (by omega)).trans hN.notes, ⟨xs, t1.turn fun b hb _ => ⟨hb, hS b hb⟩, CellsT.imp (fun _ _ q => RowIn.turn q fun b hb _ => ⟨hb, hS b hb⟩) t2⟩, hN.apart, hN.pn, hN.len, hN.sub, hN.few, hN.txt, hN.right⟩, ⟨l1, l2, l3, l4, by omega⟩, h.Sl, h.ne, (key cb (by omega)).trans h.cell, ⟨L.set (k * (s.size + 1) + a) v, ?_, by rw [List.length_set]; exact s2, ?_⟩, ?_⟩, ⟨rfl, rfl, rfl, by omega, fun b hb b1 b2 b3 b4 => key b b3, fun _ e => .inl e⟩⟩
  · simp [World.setCell, Array.getElem?_modify, s1, bls, List.map_set]
  · intro i b hi hb hx
    by_cases he : i * (s.size + 1) + b = k * (s.size + 1) + a
    · have e1 : i = k := by
        have h3 : (i * (s.size + 1) + b) / (s.size + 1) = i := by rw [Nat.mul_comm, Nat.mul_add_div (by omega), Nat.div_eq_of_lt (by omega)]; omega
        have h4 : (k * (s.size + 1) + a) / (s.size + 1) = k := by rw [Nat.mul_comm, Nat.mul_add_div (by omega), Nat.div_eq_of_lt (by omega)]; omega
        rw [← h3, he, h4]
      subst e1
      have e2 : b = a := by omega
      subst e2
      have hl : i * (s.size + 1) + b < L.length := by
        rw [s2]
        have := Nat.mul_le_mul_right (s.size + 1) (Nat.succ_le_of_lt hi)
        rw [Nat.succ_mul] at this
        omega
      rw [List.getElem?_set_self hl] at hx
      injection hx with hx
      exact hv hx
    · rw [List.getElem?_set_ne (fun e => he e.symm)] at hx
      exact s3 i b hi hb hx
  · exact (RowIn.of_owns h.out).turn (S' := fun b => lo ≤ b) fun b hS' _ => ⟨hS', key b (by have hS'' : lo ≤ b := hS'; omega)⟩
theorem Cx.silCell {w : World} {ov : Value} {o : List UInt8} (h : Cx w S p nb lo cb sb tv T s m ov o) {k a : Nat} (hk : k < T.length) (ha : a ≤ s.size) : ∃ v : Bool, w.cell? ⟨sb, k * (s.size + 1) + a, none⟩ = some (.bool v) ∧ w.frozen? ⟨sb, k * (s.size + 1) + a, none⟩ = false ∧ sb < w.heap.size ∧ (v = true → ∃ F, catN T s m F k a = some []) := by
  obtain ⟨L, s1, s2, s3⟩ := h.sil
  have hl : k * (s.size + 1) + a < L.length := by
    rw [s2]
    have := Nat.mul_le_mul_right (s.size + 1) (Nat.succ_le_of_lt hk)
    rw [Nat.succ_mul] at this
    omega
  refine ⟨L[k * (s.size + 1) + a], ?_, ?_, (Array.getElem?_eq_some_iff.1 s1).1, fun e => s3 k a hk ha (by rw [List.getElem?_eq_getElem hl, e])⟩
  · simp [World.cell?, s1, bls, hl]
  · simp [World.frozen?, s1]
end

section
variable {S : Nat → Prop} {p nb lo cb sb : Nat} {tv : Value} {T : List Tm} {s : ByteArray}
theorem match_in {F : Nat} {i a r : Int} (h : matchN T s F i a = some r) (hr : r ≠ -1) : ∃ (k b : Nat) (hk : k < T.length), i = k ∧ a = b ∧ b ≤ s.size ∧ (T[k].kind = 4 → rowM (matchN T s F) T[k].kids a = some r) := by
  cases F with
  | zero => cases h
  | succ F =>
    have h' := h
    rw [matchN] at h'
    split at h'
    · injection h' with h'
      exact absurd h'.symm hr
    · rename_i hin
      have hk : i.toNat < T.length := by omega
      refine ⟨i.toNat, a.toNat, hk, by omega, by omega, by omega, fun h4 => ?_⟩
      rw [List.getElem?_eq_getElem hk] at h'
      dsimp only at h'
      unfold runN at h'
      rw [if_neg (by omega), if_neg (by omega), if_neg (by omega), if_pos (.inr (.inl h4))] at h'
      exact rowM_le (fun _ _ _ q => matchN_succ T s F _ _ _ q) _ _ _ h'

set_option maxRecDepth 4000 in
set_option maxHeartbeats 8000000 in
theorem cterm_any (F0 F : Nat) (hc : SaidTm S p nb lo cb sb tv T s (matchN T s F0) (catN T s (matchN T s F0) F)) : SaidTm S p nb lo cb sb tv T s (matchN T s F0) (catN T s (matchN T s F0) (F + 1)) := by
  intro w ov o i a r l hC h0 h1 hmr hne hcl hb
  obtain ⟨k, b, hk, rfl, rfl, hbs, h4⟩ := match_in hmr hne
  obtain ⟨N, hN⟩ := hC.mt
  have hsub := hN.sub
  have hfew := hN.few
  have hok := matchN_ok T s F0
  have hor := hok _ _ _ hmr h0 h1
  obtain ⟨r', rfl⟩ : ∃ r' : Nat, r = r' := ⟨r.toNat, by unfold Ok at hor; omega⟩
  obtain ⟨c0, c1, c2, cf, hcb⟩ := hC.cells
  obtain ⟨m0, m1, m2, hmp⟩ := hN.cells
  obtain ⟨vs, s0, sf, hsb, hsil⟩ := hC.silCell hk hbs
  obtain ⟨q, hq⟩ : ∃ q : Nat, q = k * (s.size + 1) := ⟨_, rfl⟩
  have HN := hide (note_yes w N k b q hN hk hbs hq)
  have hqb : q ≤ 6200000 := by
    rw [hq]
    have := Nat.mul_le_mul (show k ≤ 100000 by omega) (show s.size + 1 ≤ 61 by omega)
    omega
  have hql : q + b < T.length * (s.size + 1) := by
    rw [hq]
    have := Nat.mul_le_mul_right (s.size + 1) (Nat.succ_le_of_lt hk)
    rw [Nat.succ_mul] at this
    omega
  rw [← hq] at s0 sf
  obtain ⟨Q, hQ⟩ : ∃ Q : Nat, Q = T.length * (s.size + 1) := ⟨_, rfl⟩
  rw [← hQ] at c1 hql
  have hQb : Q ≤ 6200000 := by
    rw [hQ]
    have := Nat.mul_le_mul hfew (show s.size + 1 ≤ 61 by omega)
    omega
  have hqI : ((q : Int) + b) < Q := by omega
  cases vs with
  | true =>
    obtain ⟨F', hF'⟩ := hsil rfl
    have hl := catN_det T s _ hcl hF'
    subst hl
    have HC := hide hC
    clear hC hN hmr hne hcl hb h4 hc hok hor hsil hF' hq hQ
    go_enter Tryz.func34, Tryz.ntmps34
    go_wp2_with fail
    go_at_call 32
    refine (unhide HN).mono ?_
    rintro e w1 ⟨rfl, hw⟩
    replace hw := hw.symm
    subst hw
    go_wp2
    go_end0
    exact ⟨_, rfl, unhide HC, Fx.refl _ _ _ _ _⟩
  | false =>
    have hcl0 := hcl
    rw [catN, if_neg (by omega), Int.toNat_natCast, List.getElem?_eq_getElem hk] at hcl
    dsimp only at hcl
    obtain ⟨g, cp, ao, n', cp', hsh, hcp, hg, hkid, t0, t1, t2⟩ := hN.term k hk
    have htx := hN.txt T[k] (List.getElem_mem hk)
    have hcok := catN_ok T hsub hok F
    have HW := hide (cwalk_any (match_all F0) hok hc hcok w ov o T[k] ao n' cp' b l hC hkid hbs htx (fun e => ⟨r', by unfold Ok at hor; omega, h4 e⟩) hcl hb)
    obtain ⟨aov, cpv, rfl, hcv, _⟩ := hC.shape
    have HS : Hid (∀ w2 ov2, Cx w2 S p nb lo cb sb tv T s (matchN T s F0) ov2 (outC o l) → Cx (w2.setCell ⟨sb, q + b, none⟩ (.bool (decide ((outC o l).length = o.length)))) S p nb lo cb sb tv T s (matchN T s F0) ov2 (outC o l) ∧ Fx nb cb sb ov2 ov2 w2 (w2.setCell ⟨sb, q + b, none⟩ (.bool (decide ((outC o l).length = o.length))))) := fun w2 ov2 h2 => by
      rw [hq]
      refine h2.setSil _ hk hbs fun e => ⟨F + 1, ?_⟩
      rw [hcl0, outC_same (of_decide_eq_true e)]
    have HD : Hid (∀ w2 ov2, Cx w2 S p nb lo cb sb tv T s (matchN T s F0) ov2 (outC o l) → ∃ v : Bool, w2.cell? ⟨sb, q + b, none⟩ = some (.bool v) ∧ w2.frozen? ⟨sb, q + b, none⟩ = false ∧ sb < w2.heap.size ∧ w2.cell? ⟨cb, 1, none⟩ = some (.slice (some ⟨sb, 0, none⟩) Q Q)) := fun w2 ov2 h2 => by
      obtain ⟨v, v0, v1, v2, _⟩ := h2.silCell hk hbs
      rw [← hq] at v0 v1
      exact ⟨v, v0, v1, v2, by rw [hQ]; exact h2.cells.2.1⟩
    have hkI : (k : Int) < T.length := by omega
    obtain ⟨z, hz⟩ : ∃ z, outC o l = z := ⟨_, rfl⟩
    rw [hz] at HW HS HD ⊢
    subst hsh
    generalize T[k] = t at *
    clear hC hN hmr hne hcl hcl0 hb h4 hc hok hor hsil hq hQ hcok htx hkid hz
    go_enter Tryz.func34, Tryz.ntmps34
    go_wp2_with fail
    go_at_call 32
    refine (unhide HN).mono ?_
    rintro e w1 ⟨rfl, hw⟩
    replace hw := hw.symm
    subst hw
    go_wp2_with fail
    go_at_call 57
    refine (unhide HW).mono ?_
    rintro e w2 ⟨ov2, rfl, hC2, hF2⟩
    obtain ⟨v, v0, v1, v2, v3⟩ := unhide HD _ _ hC2
    obtain ⟨d0, _, d2, df, hdb⟩ := hC2.cells
    obtain ⟨ao2, cp2, rfl, _, _⟩ := hC2.shape
    have HS2 := hide (unhide HS _ _ hC2)
    have ht : q + b = ((q : Int) + (b : Int)).toNat := by omega
    rw [ht] at HS2 v0 v1
    clear ht
    have HF2 := hide hF2
    clear hC2 hF2 c0 c1 c2 cf hcb m0 m1 m2 hmp s0 sf hsb t0 t1 t2
    by_cases hzo : z.length = o.length
    · have bz : ((z.length : Int) == (o.length : Int)) = true := by rw [hzo]; simp
      rw [decide_eq_true hzo] at HS2
      rw [hzo] at d2
      clear hzo bz
      go_wp2_with fail
      go_region_with (fail)
      all_goals
        go_wp2
        go_end0
        exact ⟨_, rfl, (unhide HS2).1.below (Below.refl _ _).drew, ((unhide HF2).trans (unhide HS2).2).of_drew⟩
    · have bz : ((z.length : Int) == (o.length : Int)) = false := by simp; omega
      rw [decide_eq_false hzo] at HS2
      clear hzo
      go_wp2_with fail
      go_region_with (fail)
      all_goals
        go_wp2
        go_end0
        exact ⟨_, rfl, (unhide HS2).1.below (Below.refl _ _).drew, ((unhide HF2).trans (unhide HS2).2).of_drew⟩

theorem cterm_all (F0 F : Nat) : SaidTm S p nb lo cb sb tv T s (matchN T s F0) (catN T s (matchN T s F0) F) := by
  induction F with
  | zero => intro w ov o i a r l _ _ _ _ _ h; cases h
  | succ F ih => exact cterm_any F0 F ih
end
end Go.Proofs.YtbojcemamhiodabGreatDoor
