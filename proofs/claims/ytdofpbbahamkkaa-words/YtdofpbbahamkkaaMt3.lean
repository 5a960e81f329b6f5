import Derived.Test.YtdofpbbahamkkaaMt2
namespace Go.Proofs.Ytdofpbbahamkkaa
open Go.RowKit

theorem bind_some' {o : Option Int} {f : Int → Option Int} {r : Int} (h : o.bind f = some r) : ∃ x, o = some x ∧ f x = some r := by
  cases o with
  | none => cases h
  | some x => exact ⟨x, rfl, h⟩

section
variable {S : Nat → Prop} {p nb : Nat} {tv : Value} {T : List Tm} {s : ByteArray} {m : Int → Int → Option Int}

set_option maxHeartbeats 1000000 in
theorem mand_any (hr : SaidList S p nb tv T s 63 (rowM m)) : SaidList S p nb tv T s 65 (andM m) := by
  intro w N l ao n cp a r hM hl h0 h1 hx
  obtain ⟨x, hx1, hx2⟩ := bind_some' hx
  have HC := hide (hr w N l ao n cp a x hM hl h0 h1 hx1)
  clear hr hx hx1
  go_enter Try.func65, Try.ntmps65
  go_wp2_with fail
  go_at_call 63
  refine (unhide HC).mono ?_
  rintro e w2 ⟨N2, rfl, hM2, hB2⟩
  have HM2 := hide hM2
  have HB2 := hide hB2
  clear hM2 hB2
  split at hx2
  · rename_i he
    injection hx2 with hx2
    subst hx2
    subst he
    go_wp2
    go_ret
    exact ⟨N2, rfl, unhide HM2, unhide HB2⟩
  · rename_i he
    injection hx2 with hx2
    subst hx2
    have b1 : (x == -1) = false := by simpa using he
    clear he
    go_wp2
    go_ret
    exact ⟨N2, rfl, unhide HM2, unhide HB2⟩

set_option maxHeartbeats 1000000 in
theorem mnot_any (hr : SaidList S p nb tv T s 63 (rowM m)) : SaidList S p nb tv T s 66 (notM m) := by
  intro w N l ao n cp a r hM hl h0 h1 hx
  obtain ⟨x, hx1, hx2⟩ := bind_some' hx
  have HC := hide (hr w N l ao n cp a x hM hl h0 h1 hx1)
  clear hr hx hx1
  go_enter Try.func66, Try.ntmps66
  go_wp2_with fail
  go_at_call 63
  refine (unhide HC).mono ?_
  rintro e w2 ⟨N2, rfl, hM2, hB2⟩
  have HM2 := hide hM2
  have HB2 := hide hB2
  clear hM2 hB2
  split at hx2
  · rename_i he
    injection hx2 with hx2
    subst hx2
    subst he
    go_wp2
    go_ret
    exact ⟨N2, rfl, unhide HM2, unhide HB2⟩
  · rename_i he
    injection hx2 with hx2
    subst hx2
    have b1 : (x == -1) = false := by simpa using he
    clear he
    go_wp2
    go_ret
    exact ⟨N2, rfl, unhide HM2, unhide HB2⟩

set_option maxHeartbeats 1000000 in
theorem mquery_any (hr : SaidList S p nb tv T s 63 (rowM m)) : SaidList S p nb tv T s 69 (queryM m) := by
  intro w N l ao n cp a r hM hl h0 h1 hx
  obtain ⟨x, hx1, hx2⟩ := bind_some' hx
  have HC := hide (hr w N l ao n cp a x hM hl h0 h1 hx1)
  clear hr hx hx1
  go_enter Try.func69, Try.ntmps69
  go_wp2_with fail
  go_at_call 63
  refine (unhide HC).mono ?_
  rintro e w2 ⟨N2, rfl, hM2, hB2⟩
  have HM2 := hide hM2
  have HB2 := hide hB2
  clear hM2 hB2
  split at hx2
  · rename_i he
    injection hx2 with hx2
    subst hx2
    subst he
    go_wp2
    go_ret
    exact ⟨N2, rfl, unhide HM2, unhide HB2⟩
  · rename_i he
    injection hx2 with hx2
    subst hx2
    have b1 : (x == -1) = false := by simpa using he
    clear he
    go_wp2
    go_ret
    exact ⟨N2, rfl, unhide HM2, unhide HB2⟩

set_option maxRecDepth 4000 in
set_option maxHeartbeats 2000000 in
theorem mstar_any (z : Nat) (hr : SaidList S p nb tv T s 63 (rowM m)) (hok : ∀ (l : List Int) (a r : Int), rowM m l a = some r → 0 ≤ a → a ≤ s.size → Ok s a r) : SaidList S p nb tv T s 67 (fun l a => starM m l z a) := by
  intro w N l ao n cp a r hM hl h0 h1 hx
  have hsub := hM.sub
  have HA := hide hM.apart
  cases z with
  | zero => cases hx
  | succ z =>
  obtain ⟨x, hx1, hx2⟩ := bind_some' hx
  have hox := hok l a x hx1 h0 h1
  have HC := hide (hr w N l ao n cp a x hM hl h0 h1 hx1)
  have Hr := hide hr
  have HO := hide hok
  have HL := hide hl
  have HX := hide hx2
  clear hr hok hl hx hx1 hx2 hM
  go_enter Try.func67, Try.ntmps67
  go_wp2_with fail
  go_at_call 63
  refine (unhide HC).mono ?_
  rintro e w2 ⟨N2, rfl, hM2, hB2⟩
  have HM2 := hide hM2
  have HB2 := hide hB2
  clear hM2 hB2
  go_wp2_with fail
  go_loopw [2, 7] (fun b t wr => ∃ (a' x' : Int) (z' : Nat) (N' : List Int), b = .int .i64 a' ∧ t = .int .i64 x' ∧ Hid ((if a' < x' then starM m l z' x' else some a') = some r) ∧ 0 ≤ a' ∧ a' ≤ s.size ∧ Ok s a' x' ∧ Hid (Mt wr S p nb tv T s N') ∧ Hid (But nb w wr)) (fun b _ _ => (s.size - intOf b).toNat)
  case atStart => exact ⟨a, x, z, N2, rfl, rfl, HX, h0, h1, hox, HM2, HB2⟩
  case round =>
    obtain ⟨a', x', z', N', rfl, rfl, HR', g0, g1, gok, HM', HB⟩ := hrel
    by_cases hlt : a' < x'
    · have hr' := unhide HR'
      rw [if_pos hlt] at hr'
      have hx0 : 0 ≤ x' := by omega
      have hx1 : x' ≤ s.size := by unfold Ok at gok; omega
      cases z' with
      | zero => cases hr'
      | succ z' =>
      obtain ⟨y, hy1, hy2⟩ := bind_some' hr'
      have hoy := unhide HO l x' y hy1 hx0 hx1
      have HC' := hide (unhide Hr wr N' l ao n cp x' y (unhide HM') ((unhide HL).but (unhide HB) (unhide HA)) hx0 hx1 hy1)
      have HY := hide hy2
      have HOY := hide hoy
      clear hr' hy1 hy2 gok hoy
      go_wp2_with fail
      go_at_call 63
      refine (unhide HC').mono ?_
      rintro e w3 ⟨N3, rfl, hM3, hB3⟩
      have HM3 := hide hM3
      have HB3 := hide ((unhide HB).trans hB3)
      clear hM3 hB3
      go_wp2_with fail
      go_roundw
      case rel => exact ⟨x', y, z', N3, rfl, rfl, HY, hx0, hx1, unhide HOY, HM3, HB3⟩
      case measure => simp [intOf]; omega
    · have hr' := unhide HR'
      rw [if_neg hlt] at hr'
      have e : a' = r := by injection hr'
      clear hr' gok
      subst e
      go_wp2
      go_ret
      exact ⟨N', rfl, unhide HM', unhide HB⟩

set_option maxHeartbeats 1000000 in
theorem mplus_any (z : Nat) (hr : SaidList S p nb tv T s 63 (rowM m)) (hok : ∀ (l : List Int) (a r : Int), rowM m l a = some r → 0 ≤ a → a ≤ s.size → Ok s a r) (hst : SaidList S p nb tv T s 67 (fun l a => starM m l z a)) : SaidList S p nb tv T s 68 (fun l a => plusM m l z a) := by
  intro w N l ao n cp a r hM hl h0 h1 hx
  have HA := hide hM.apart
  obtain ⟨x, hx1, hx2⟩ := bind_some' hx
  have hox := hok l a x hx1 h0 h1
  have HC := hide (hr w N l ao n cp a x hM hl h0 h1 hx1)
  have HL := hide hl
  have HS := hide hst
  clear hr hok hl hx hx1 hst hM
  go_enter Try.func68, Try.ntmps68
  go_wp2_with fail
  go_at_call 63
  refine (unhide HC).mono ?_
  rintro e w2 ⟨N2, rfl, hM2, hB2⟩
  have HM2 := hide hM2
  have HB2 := hide hB2
  clear hM2 hB2
  split at hx2
  · rename_i he
    injection hx2 with hx2
    subst hx2
    subst he
    clear hox
    go_wp2
    go_ret
    exact ⟨N2, rfl, unhide HM2, unhide HB2⟩
  · rename_i he
    have b1 : (x == -1) = false := by simpa using he
    have hx0 : 0 ≤ x := by unfold Ok at hox; omega
    have hx1 : x ≤ s.size := by unfold Ok at hox; omega
    have HC2 := hide (unhide HS w2 N2 l ao n cp x r (unhide HM2) ((unhide HL).but (unhide HB2) (unhide HA)) hx0 hx1 hx2)
    clear he hox hx2
    go_wp2_with fail
    go_at_call 67
    refine (unhide HC2).mono ?_
    rintro e w3 ⟨N3, rfl, hM3, hB3⟩
    have HB3 := hide ((unhide HB2).trans hB3)
    have HM3 := hide hM3
    clear hB3 hM3
    go_wp2
    go_ret
    exact ⟨N3, rfl, unhide HM3, unhide HB3⟩
end
end Go.Proofs.Ytdofpbbahamkkaa
