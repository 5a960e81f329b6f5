import Derived.Test.YtbojcemamhiodabGreatDoorCx2
namespace Go.Proofs.YtbojcemamhiodabGreatDoor
open Go.RowKit

section
variable (S : Nat → Prop) (p nb lo cb sb : Nat) (tv : Value) (T : List Tm) (s : ByteArray) (m : Int → Int → Option Int)
/-- the contract of term, of what c tells -/
def SaidTm (c : Int → Int → Option (List Ct)) : Prop := ∀ (w : World) (ov : Value) (o : List UInt8) (i a r : Int) (l : List Ct), Cx w S p nb lo cb sb tv T s m ov o → 0 ≤ a → a ≤ s.size → m i a = some r → r ≠ -1 → c i a = some l → (l ≠ [] → (outC o l).length ≤ 70368744177664) →
  Calls Tryz.prog 34 #[.pointer (some ⟨cb, 0, none⟩), .int .i64 i, .int .i64 a] w (OutX S p nb lo cb sb tv T s m w ov (outC o l))
/-- the contract of a method over a list of terms -/
def SaidC (f : Nat) (g : List Int → Int → Option (List Ct)) : Prop := ∀ (w : World) (ov : Value) (o : List UInt8) (ks : List Int) (ao : Option Addr) (n cp : Nat) (a : Int) (l : List Ct), Cx w S p nb lo cb sb tv T s m ov o → IntR w S (.slice ao n cp) ks → 0 ≤ a → a ≤ s.size → g ks a = some l → (l ≠ [] → (outC o l).length ≤ 70368744177664) →
  Calls Tryz.prog f #[.pointer (some ⟨cb, 0, none⟩), .slice ao n cp, .int .i64 a] w (OutX S p nb lo cb sb tv T s m w ov (outC o l))
end

section
variable {S : Nat → Prop} {p nb lo cb sb : Nat} {tv : Value} {T : List Tm} {s : ByteArray} {m : Int → Int → Option Int} {c : Int → Int → Option (List Ct)} {ov ov' : Value} {w w' : World} {o : List UInt8}

/-- what lies in S has not turned -/
theorem IntR.fx {v : Value} {l : List Int} (h : IntR w S v l) (hC : Cx w S p nb lo cb sb tv T s m ov o) (hf : Fx nb cb sb ov ov' w w') : IntR w' S v l := by
  obtain ⟨N, hN⟩ := hC.mt
  refine RowIn.turn h fun b hb hz => ⟨hb, hf.block b hz (hN.apart b hb) (hC.Sl b hb).2.1 (hC.Sl b hb).2.2 fun e => ?_⟩
  have h1 := hC.outLt b e
  have h2 := (hC.Sl b hb).1
  omega
theorem bound_left {o : List UInt8} {x y : List Ct} (h : x ++ y ≠ [] → (outC o (x ++ y)).length ≤ 70368744177664) : x ≠ [] → (outC o x).length ≤ 70368744177664 := by
  intro hx
  have h1 := h (by simp [hx])
  rw [outC_app] at h1
  have h2 := outC_len y (outC o x)
  omega
theorem bound_right {o : List UInt8} {x y : List Ct} (h : x ++ y ≠ [] → (outC o (x ++ y)).length ≤ 70368744177664) : y ≠ [] → (outC (outC o x) y).length ≤ 70368744177664 := by
  intro hy
  rw [← outC_app]
  exact h (by simp [hy])

set_option maxRecDepth 4000 in
set_option maxHeartbeats 4000000 in
theorem crow_any (hm : SaidX S p nb tv T s m) (hok : ∀ i a r : Int, m i a = some r → 0 ≤ a → a ≤ s.size → Ok s a r) (hc : SaidTm S p nb lo cb sb tv T s m c) : SaidC S p nb lo cb sb tv T s m 76 (rowC m c) := by
  intro w ov o ks ao n cp a l hC hl h0 h1 hr hb
  obtain ⟨hn, hmx⟩ := hl.len
  subst hn
  obtain ⟨_, hN0⟩ := hC.mt
  have hsub := hN0.sub
  have HA := hide hN0.apart
  clear hN0
  have HCX := hide hC
  have HL := hide hl
  have HR0 := hide hr
  have Hm := hide hm
  have HO := hide hok
  have Hc := hide hc
  have HB := hide hb
  clear hC hl hr hm hok hc hb
  go_enter Tryz.func76, Tryz.ntmps76
  go_wp2_with fail
  go_loopw [2, 11] (fun b i wr => ∃ (k : Nat) (a' : Int) (y z : List Ct) (ov' : Value), k ≤ ks.length ∧ b = .int .i64 a' ∧ i = .int .i64 k ∧ Hid (rowC m c (ks.drop k) a' = some z) ∧ Hid (l = y ++ z) ∧ 0 ≤ a' ∧ a' ≤ s.size ∧ Hid (Cx wr S p nb lo cb sb tv T s m ov' (outC o y)) ∧ Hid (Fx nb cb sb ov ov' w wr)) (fun _ i _ => ks.length - (intOf i).toNat)
  case atStart => exact ⟨0, a, [], l, ov, Nat.zero_le _, rfl, rfl, HR0, rfl, h0, h1, HCX, Fx.refl _ _ _ _ _⟩
  case round =>
    obtain ⟨k, a', y, z, ov', hk, rfl, rfl, HR', HY, g0, g1, HC', HF⟩ := hrel
    by_cases hlt : k < ks.length
    · have hd : ks.drop k = ks[k] :: ks.drop (k + 1) := List.drop_eq_getElem_cons hlt
      have hr' := unhide HR'
      rw [hd] at hr'
      obtain ⟨x, hx, hcase⟩ := rowC_cons hr'
      obtain ⟨g, rfl, hg, hcp, hcell⟩ := ((unhide HL).fx (unhide HCX) (unhide HF)).at k hlt
      obtain ⟨N', hM'⟩ := (unhide HC').mt
      obtain ⟨d0, d1, d2, df, hdl⟩ := (unhide HC').cells
      have HX := hide (unhide Hm wr N' ks[k] a' x hM' g0 g1 hx)
      have hox := unhide HO _ _ _ hx g0 g1
      have HXX := hide hx
      clear hd hr' hM' hx
      obtain ⟨i, hi⟩ : ∃ i, ks[k] = i := ⟨_, rfl⟩
      rw [hi] at HX HXX hcase hcell
      clear hi
      go_wp2_with fail
      go_at_call 20
      refine (unhide HX).mono ?_
      rintro e w2 ⟨N2, rfl, hM2, hB2⟩
      have HC2 := hide ((unhide HC').but ⟨N2, hM2⟩ hB2)
      have HF2 := hide ((unhide HF).trans (Fx.of_but hB2))
      clear hM2 hB2 d0 d1 d2 df hdl
      rcases hcase with ⟨he, hz⟩ | ⟨he, yy, zz, hyy, hzz, hz⟩
      · subst he
        subst hz
        have hly := unhide HY
        rw [List.append_nil] at hly
        subst hly
        clear hox
        go_wp2
        go_end0
        exact ⟨_, rfl, unhide HC2, unhide HF2⟩
      · have b1 : (x == -1) = false := by simpa using he
        have hx0 : 0 ≤ x := by unfold Ok at hox; omega
        have hx1 : x ≤ s.size := by unfold Ok at hox; omega
        have hbd : y ++ z ≠ [] → (outC o (y ++ z)).length ≤ 70368744177664 := by have := unhide HB; rwa [unhide HY] at this
        have hb2 : z ≠ [] → (outC (outC o y) z).length ≤ 70368744177664 := bound_right hbd
        rw [hz] at hb2
        have HT := hide (unhide Hc w2 ov' (outC o y) i a' x yy (unhide HC2) g0 g1 (unhide HXX) he hyy (bound_left hb2))
        have HYtbojcemamhiodabGreatDoor := hide hzz
        have HYZ : Hid (l = (y ++ yy) ++ zz) := by unfold Hid; rw [unhide HY, hz, List.append_assoc]
        clear he hox hyy hzz hz hbd hb2
        go_wp2_with fail
        go_at_call 34
        refine (unhide HT).mono ?_
        rintro e w3 ⟨ov3, rfl, hC3, hF3⟩
        rw [← outC_app] at hC3
        have HC3 := hide hC3
        have HF3 := hide ((unhide HF2).trans hF3)
        clear hC3 hF3
        go_wp2_with fail
        go_roundw
        case rel => exact ⟨k + 1, x, y ++ yy, zz, ov3, by omega, rfl, by go_num, HYtbojcemamhiodabGreatDoor, HYZ, hx0, hx1, HC3, HF3⟩
        case measure => simp [intOf]; omega
    · have hr' := unhide HR'
      rw [List.drop_eq_nil_of_le (by omega)] at hr'
      have e : [] = z := by injection hr'
      clear hr'
      subst e
      have hly := unhide HY
      rw [List.append_nil] at hly
      subst hly
      go_wp2
      go_end0
      exact ⟨_, rfl, unhide HC', unhide HF⟩

set_option maxRecDepth 4000 in
set_option maxHeartbeats 4000000 in
theorem cchoice_any (hm : SaidX S p nb tv T s m) (hc : SaidTm S p nb lo cb sb tv T s m c) : SaidC S p nb lo cb sb tv T s m 77 (choiceC m c) := by
  intro w ov o ks ao n cp a l hC hl h0 h1 hr hb
  obtain ⟨hn, hmx⟩ := hl.len
  subst hn
  obtain ⟨_, hN0⟩ := hC.mt
  have hsub := hN0.sub
  clear hN0
  have HCX := hide hC
  have HL := hide hl
  have HR0 := hide hr
  have Hm := hide hm
  have Hc := hide hc
  have HB := hide hb
  clear hC hl hr hm hc hb
  go_enter Tryz.func77, Tryz.ntmps77
  go_wp2_with fail
  go_loopw [11] (fun i wr => ∃ (k : Nat), k ≤ ks.length ∧ i = .int .i64 k ∧ Hid (choiceC m c (ks.drop k) a = some l) ∧ Hid (Cx wr S p nb lo cb sb tv T s m ov o) ∧ Hid (Fx nb cb sb ov ov w wr)) (fun i _ => ks.length - (intOf i).toNat)
  case atStart => exact ⟨0, Nat.zero_le _, rfl, HR0, HCX, Fx.refl _ _ _ _ _⟩
  case round =>
    obtain ⟨k, hk, rfl, HR', HC', HF⟩ := hrel
    by_cases hlt : k < ks.length
    · have hd : ks.drop k = ks[k] :: ks.drop (k + 1) := List.drop_eq_getElem_cons hlt
      have hr' := unhide HR'
      rw [hd] at hr'
      obtain ⟨x, hx, hcase⟩ := choiceC_cons hr'
      obtain ⟨g, rfl, hg, hcp, hcell⟩ := ((unhide HL).fx (unhide HCX) (unhide HF)).at k hlt
      obtain ⟨N', hM'⟩ := (unhide HC').mt
      obtain ⟨d0, d1, d2, df, hdl⟩ := (unhide HC').cells
      have HX := hide (unhide Hm wr N' ks[k] a x hM' h0 h1 hx)
      have HXX := hide hx
      clear hd hr' hM' hx
      obtain ⟨i, hi⟩ : ∃ i, ks[k] = i := ⟨_, rfl⟩
      rw [hi] at HX HXX hcase hcell
      clear hi
      go_wp2_with fail
      go_at_call 20
      refine (unhide HX).mono ?_
      rintro e w2 ⟨N2, rfl, hM2, hB2⟩
      have HC2 := hide ((unhide HC').but ⟨N2, hM2⟩ hB2)
      have HF2 := hide ((unhide HF).trans (Fx.of_but hB2))
      clear hM2 hB2 d0 d1 d2 df hdl
      rcases hcase with ⟨he, hz⟩ | ⟨he, hz⟩
      · subst he
        have HZ := hide hz
        clear hz
        go_wp2_with fail
        go_roundw
        case rel => exact ⟨k + 1, by omega, by go_num, HZ, HC2, HF2⟩
        case measure => simp [intOf]; omega
      · have b1 : (x != -1) = true := by simpa using he
        have HT := hide (unhide Hc w2 ov o i a x l (unhide HC2) h0 h1 (unhide HXX) he hz (unhide HB))
        clear he hz
        go_wp2_with fail
        go_at_call 34
        refine (unhide HT).mono ?_
        rintro e w3 ⟨ov3, rfl, hC3, hF3⟩
        have HC3 := hide hC3
        have HF3 := hide ((unhide HF2).trans hF3)
        clear hC3 hF3
        go_wp2
        go_end0
        exact ⟨_, rfl, unhide HC3, unhide HF3⟩
    · have hr' := unhide HR'
      rw [List.drop_eq_nil_of_le (by omega)] at hr'
      have e : [] = l := by injection hr'
      clear hr'
      subst e
      go_wp2
      go_end0
      exact ⟨_, rfl, unhide HC', unhide HF⟩

def RndC (m : Int → Int → Option Int) (c : Int → Int → Option (List Ct)) (ks : List Int) (z : Nat) (a x : Int) (q : List Ct) : Prop := (a < x ∧ ∃ u v, rowC m c ks a = some u ∧ roundsC m c ks z x = some v ∧ q = u ++ v) ∨ (¬ a < x ∧ q = [])

set_option maxRecDepth 4000 in
set_option maxHeartbeats 4000000 in
theorem crounds_any (z : Nat) (hm : SaidX S p nb tv T s m) (hok : ∀ i a r : Int, m i a = some r → 0 ≤ a → a ≤ s.size → Ok s a r) (hrow : SaidC S p nb lo cb sb tv T s m 76 (rowC m c)) : SaidC S p nb lo cb sb tv T s m 78 (fun l a => roundsC m c l z a) := by
  intro w ov o ks ao n cp a l hC hl h0 h1 hr hb
  cases z with
  | zero => cases hr
  | succ z =>
  obtain ⟨N0, hN0⟩ := hC.mt
  have hsub := hN0.sub
  have hmrow := mrow_any hm hok
  have hrok := rowM_ok hok
  obtain ⟨x, hx, hcase⟩ := roundsC_succ hr
  have hox := hrok ks a x hx h0 h1
  have HC1 := hide (hmrow w N0 ks ao n cp a x hN0 hl h0 h1 hx)
  obtain ⟨d0, d1, d2, df, hdl⟩ := hC.cells
  have HCX := hide hC
  have HL := hide hl
  have HROW := hide hrow
  have HMR := hide hmrow
  have HO := hide hrok
  have HB := hide hb
  have HK : Hid (RndC m c ks z a x l) := hcase
  clear hC hl hr hm hrow hb hN0 hmrow hrok hok hcase hx
  go_enter Tryz.func78, Tryz.ntmps78
  go_wp2_with fail
  go_at_call 50
  refine (unhide HC1).mono ?_
  rintro e w2 ⟨N2, rfl, hM2, hB2⟩
  have HC2 := hide ((unhide HCX).but ⟨N2, hM2⟩ hB2)
  have HF2 : Hid (Fx nb cb sb ov ov w w2) := hide (Fx.of_but hB2)
  clear hM2 hB2 d0 d1 d2 df hdl
  go_wp2_with fail
  go_loopw [2, 6] (fun b t wr => ∃ (a' x' : Int) (z' : Nat) (y q : List Ct) (ov' : Value), b = .int .i64 a' ∧ t = .int .i64 x' ∧ Hid (RndC m c ks z' a' x' q) ∧ Hid (l = y ++ q) ∧ 0 ≤ a' ∧ a' ≤ s.size ∧ Ok s a' x' ∧ Hid (Cx wr S p nb lo cb sb tv T s m ov' (outC o y)) ∧ Hid (Fx nb cb sb ov ov' w wr)) (fun b _ _ => (s.size - intOf b).toNat)
  case atStart => exact ⟨a, x, z, [], l, ov, rfl, rfl, HK, rfl, h0, h1, hox, HC2, HF2⟩
  case round =>
    obtain ⟨a', x', z', y, q, ov', rfl, rfl, HK', HY, g0, g1, gok, HC', HF⟩ := hrel
    by_cases hlt : a' < x'
    · rcases unhide HK' with ⟨_, u, v, hu, hv, hq⟩ | ⟨hno, _⟩
      · have hx0 : 0 ≤ x' := by omega
        have hx1 : x' ≤ s.size := by unfold Ok at gok; omega
        have hbd : y ++ q ≠ [] → (outC o (y ++ q)).length ≤ 70368744177664 := by have := unhide HB; rwa [unhide HY] at this
        have hb2 : q ≠ [] → (outC (outC o y) q).length ≤ 70368744177664 := bound_right hbd
        rw [hq] at hb2
        have HT := hide (unhide HROW wr ov' (outC o y) ks ao n cp a' u (unhide HC') ((unhide HL).fx (unhide HCX) (unhide HF)) g0 g1 hu (bound_left hb2))
        have HYZ : Hid (l = (y ++ u) ++ v) := by unfold Hid; rw [unhide HY, hq, List.append_assoc]
        have HV := hide hv
        cases z' with
        | zero => cases hv
        | succ z' =>
        clear hu hv hq hbd hb2 gok
        go_wp2_with fail
        go_at_call 76
        refine (unhide HT).mono ?_
        rintro e w3 ⟨ov3, rfl, hC3, hF3⟩
        rw [← outC_app] at hC3
        obtain ⟨N3, hM3⟩ := hC3.mt
        obtain ⟨d0, d1, d2, df, hdl⟩ := hC3.cells
        have HF3 := hide ((unhide HF).trans hF3)
        obtain ⟨x2, hx2, hcase⟩ := roundsC_succ (unhide HV)
        have HR3 := hide (unhide HMR w3 N3 ks ao n cp x' x2 hM3 ((unhide HL).fx (unhide HCX) (unhide HF3)) hx0 hx1 hx2)
        have HOX := hide (unhide HO ks x' x2 hx2 hx0 hx1)
        have HK3 : Hid (RndC m c ks z' x' x2 v) := hcase
        have HC3 := hide hC3
        clear hC3 hF3 hcase hx2 hM3
        go_wp2_with fail
        go_at_call 50
        refine (unhide HR3).mono ?_
        rintro e w4 ⟨N4, rfl, hM4, hB4⟩
        have HC4 := hide ((unhide HC3).but ⟨N4, hM4⟩ hB4)
        have HF4 := hide ((unhide HF3).trans (Fx.of_but hB4))
        clear hM4 hB4 d0 d1 d2 df hdl
        go_wp2_with fail
        go_roundw
        case rel => exact ⟨x', x2, z', y ++ u, v, ov3, rfl, rfl, HK3, HYZ, hx0, hx1, unhide HOX, HC4, HF4⟩
        case measure => simp [intOf]; omega
      · exact absurd hlt hno
    · have hq : q = [] := by
        rcases unhide HK' with ⟨h, _⟩ | ⟨_, h⟩
        · exact absurd h hlt
        · exact h
      subst hq
      have hly := unhide HY
      rw [List.append_nil] at hly
      subst hly
      clear gok
      go_wp2
      go_end0
      exact ⟨_, rfl, unhide HC', unhide HF⟩
end
end Go.Proofs.YtbojcemamhiodabGreatDoor
