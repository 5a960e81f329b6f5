import Derived.Test.YtdofpbbahamkkaaMt
namespace Go.Proofs.Ytdofpbbahamkkaa
open Go.RowKit

section
variable (S : Nat → Prop) (p nb : Nat) (tv : Value) (T : List Tm) (s : ByteArray)
/-- what a method of the matcher leaves -/
def OutM (w : World) (r : Int) (e : Ending) (w' : World) : Prop := ∃ N', e = .returned (.int .i64 r) ∧ Mt w' S p nb tv T s N' ∧ But nb w w'
/-- the contract of match, of what m tells -/
def SaidX (m : Int → Int → Option Int) : Prop := ∀ (w : World) (N : List Int) (i a r : Int), Mt w S p nb tv T s N → 0 ≤ a → a ≤ s.size → m i a = some r →
  Calls Try.prog 25 #[.pointer (some ⟨p, 0, none⟩), .int .i64 i, .int .i64 a] w (OutM S p nb tv T s w r)
/-- the contract of a method over a list of terms -/
def SaidList (f : Nat) (g : List Int → Int → Option Int) : Prop := ∀ (w : World) (N l : List Int) (ao : Option Addr) (n cp : Nat) (a r : Int), Mt w S p nb tv T s N → IntR w S (.slice ao n cp) l → 0 ≤ a → a ≤ s.size → g l a = some r →
  Calls Try.prog f #[.pointer (some ⟨p, 0, none⟩), .slice ao n cp, .int .i64 a] w (OutM S p nb tv T s w r)
end

theorem IntR.at {w : World} {S : Nat → Prop} {ao : Option Addr} {n cp : Nat} {l : List Int} (h : IntR w S (.slice ao n cp) l) (k : Nat) (hk : k < l.length) : ∃ g, ao = some ⟨g, 0, none⟩ ∧ g < w.heap.size ∧ n ≤ cp ∧ w.cell? ⟨g, k, none⟩ = some (.int .i64 l[k]) := by
  rcases h.2 with ⟨_, hz⟩ | ⟨g, cap, cur, hv, hS, hh, hle, hcm, hcs, ht⟩
  · omega
  · injection hv with e1 e2 e3
    refine ⟨g, e1, (Array.getElem?_eq_some_iff.1 hh).1, by omega, ?_⟩
    have h1 : cur.toList[k]? = some (.int .i64 l[k]) := by
      have h2 : (cur.toList.take (l.length * 1))[k]? = some (.int .i64 l[k]) := by
        rw [ht]
        simp [ints, hk]
      rw [List.getElem?_take] at h2
      rw [if_pos (by omega)] at h2
      exact h2
    simpa [World.cell?, hh] using h1
theorem IntR.len {w : World} {S : Nat → Prop} {ao : Option Addr} {n cp : Nat} {l : List Int} (h : IntR w S (.slice ao n cp) l) : n = l.length ∧ l.length ≤ 2 ^ 63 - 1 := by
  rcases h.2 with ⟨hv, hz⟩ | ⟨g, cap, cur, hv, hS, hh, hle, hcm, hcs, ht⟩
  · injection hv with _ e2 _
    exact ⟨by omega, by omega⟩
  · injection hv with e1 e2 e3
    unfold maxLen at hcm
    exact ⟨e2, by omega⟩
theorem IntR.but {w w' : World} {S : Nat → Prop} {nb : Nat} {v : Value} {l : List Int} (h : IntR w S v l) (hb : But nb w w') (hS : ∀ b, S b → b ≠ nb) : IntR w' S v l := RowIn.turn h fun b hb' hz => ⟨hb', hb.block b hz (hS b hb')⟩

theorem rowM_cons {m : Int → Int → Option Int} {i : Int} {l : List Int} {a r : Int} (h : rowM m (i :: l) a = some r) : ∃ x, m i a = some x ∧ ((x = -1 ∧ r = -1) ∨ (x ≠ -1 ∧ rowM m l x = some r)) := by
  unfold rowM at h
  cases hx : m i a with
  | none => rw [hx] at h; cases h
  | some x =>
    rw [hx] at h
    refine ⟨x, rfl, ?_⟩
    simp only [Option.bind_some] at h
    split at h
    · rename_i he
      injection h with h
      exact .inl ⟨he, h.symm⟩
    · rename_i he
      exact .inr ⟨he, h⟩
theorem choiceM_cons {m : Int → Int → Option Int} {i : Int} {l : List Int} {a r : Int} (h : choiceM m (i :: l) a = some r) : ∃ x, m i a = some x ∧ ((x = -1 ∧ choiceM m l a = some r) ∨ (x ≠ -1 ∧ r = x)) := by
  unfold choiceM at h
  cases hx : m i a with
  | none => rw [hx] at h; cases h
  | some x =>
    rw [hx] at h
    refine ⟨x, rfl, ?_⟩
    simp only [Option.bind_some] at h
    split at h
    · rename_i he
      exact .inl ⟨he, h⟩
    · rename_i he
      injection h with h
      exact .inr ⟨he, h.symm⟩

section
variable {S : Nat → Prop} {p nb : Nat} {tv : Value} {T : List Tm} {s : ByteArray} {m : Int → Int → Option Int}

set_option maxRecDepth 4000 in
set_option maxHeartbeats 2000000 in
theorem mrow_any (hm : SaidX S p nb tv T s m) (hok : ∀ i a r : Int, m i a = some r → 0 ≤ a → a ≤ s.size → Ok s a r) : SaidList S p nb tv T s 63 (rowM m) := by
  intro w N l ao n cp a r hM hl h0 h1 hr
  obtain ⟨hn, hmx⟩ := hl.len
  subst hn
  have hsub := hM.sub
  have HA := hide hM.apart
  have HM := hide hM
  have HL := hide hl
  have HR := hide hr
  have Hm := hide hm
  have HO := hide hok
  clear hM hl hr hm hok
  go_enter Try.func63, Try.ntmps63
  go_wp2_with fail
  go_loopw [2, 11] (fun b i wr => ∃ (k : Nat) (a' : Int) (N' : List Int), k ≤ l.length ∧ b = .int .i64 a' ∧ i = .int .i64 k ∧ Hid (rowM m (l.drop k) a' = some r) ∧ 0 ≤ a' ∧ a' ≤ s.size ∧ Hid (Mt wr S p nb tv T s N') ∧ Hid (But nb w wr)) (fun _ i _ => l.length - (intOf i).toNat)
  case atStart => exact ⟨0, a, N, Nat.zero_le _, rfl, rfl, HR, h0, h1, HM, But.refl _ _⟩
  case round =>
    obtain ⟨k, a', N', hk, rfl, rfl, HR', g0, g1, HM', HB⟩ := hrel
    by_cases hlt : k < l.length
    · have hd : l.drop k = l[k] :: l.drop (k + 1) := List.drop_eq_getElem_cons hlt
      have hr' := unhide HR'
      rw [hd] at hr'
      obtain ⟨x, hx, hcase⟩ := rowM_cons hr'
      obtain ⟨g, rfl, hg, hcp, hc⟩ := ((unhide HL).but (unhide HB) (unhide HA)).at k hlt
      have hox := unhide HO _ _ _ hx g0 g1
      have HC := hide (unhide Hm wr N' l[k] a' x (unhide HM') g0 g1 hx)
      generalize l[k] = i at *
      clear hd hr' hx
      go_wp2_with fail
      go_at_call 25
      refine (unhide HC).mono ?_
      rintro e w2 ⟨N2, rfl, hM2, hB2⟩
      have HM2 := hide hM2
      have HB2 := hide ((unhide HB).trans hB2)
      clear hM2 hB2
      rcases hcase with ⟨he, hr2⟩ | ⟨he, hr2⟩
      · subst he
        subst hr2
        clear hox
        go_wp2
        go_ret
        exact ⟨N2, rfl, unhide HM2, unhide HB2⟩
      · have b1 : (x == -1) = false := by simpa using he
        have HR2 := hide hr2
        have hx0 : 0 ≤ x := by unfold Ok at hox; omega
        have hx1 : x ≤ s.size := by unfold Ok at hox; omega
        clear he hr2 hox
        go_wp2_with fail
        go_roundw
        case rel => exact ⟨k + 1, x, N2, by omega, rfl, by go_num, HR2, hx0, hx1, HM2, HB2⟩
        case measure => simp [intOf]; omega
    · have hr' := unhide HR'
      rw [List.drop_eq_nil_of_le (by omega)] at hr'
      have e : a' = r := by injection hr'
      clear hr'
      subst e
      go_wp2
      go_ret
      exact ⟨N', rfl, unhide HM', unhide HB⟩

set_option maxRecDepth 4000 in
set_option maxHeartbeats 2000000 in
theorem mchoice_any (hm : SaidX S p nb tv T s m) : SaidList S p nb tv T s 64 (choiceM m) := by
  intro w N l ao n cp a r hM hl h0 h1 hr
  obtain ⟨hn, hmx⟩ := hl.len
  subst hn
  have hsub := hM.sub
  have HA := hide hM.apart
  have HM := hide hM
  have HL := hide hl
  have HR := hide hr
  have Hm := hide hm
  clear hM hl hr hm
  go_enter Try.func64, Try.ntmps64
  go_wp2_with fail
  go_loopw [12] (fun i wr => ∃ (k : Nat) (N' : List Int), k ≤ l.length ∧ i = .int .i64 k ∧ Hid (choiceM m (l.drop k) a = some r) ∧ Hid (Mt wr S p nb tv T s N') ∧ Hid (But nb w wr)) (fun i _ => l.length - (intOf i).toNat)
  case atStart => exact ⟨0, N, Nat.zero_le _, rfl, HR, HM, But.refl _ _⟩
  case round =>
    obtain ⟨k, N', hk, rfl, HR', HM', HB⟩ := hrel
    by_cases hlt : k < l.length
    · have hd : l.drop k = l[k] :: l.drop (k + 1) := List.drop_eq_getElem_cons hlt
      have hr' := unhide HR'
      rw [hd] at hr'
      obtain ⟨x, hx, hcase⟩ := choiceM_cons hr'
      obtain ⟨g, rfl, hg, hcp, hc⟩ := ((unhide HL).but (unhide HB) (unhide HA)).at k hlt
      have HC := hide (unhide Hm wr N' l[k] a x (unhide HM') h0 h1 hx)
      generalize l[k] = i at *
      clear hd hr' hx
      go_wp2_with fail
      go_at_call 25
      refine (unhide HC).mono ?_
      rintro e w2 ⟨N2, rfl, hM2, hB2⟩
      have HM2 := hide hM2
      have HB2 := hide ((unhide HB).trans hB2)
      clear hM2 hB2
      rcases hcase with ⟨he, hr2⟩ | ⟨he, hr2⟩
      · subst he
        have HR2 := hide hr2
        clear hr2
        go_wp2_with fail
        go_roundw
        case rel => exact ⟨k + 1, N2, by omega, by go_num, HR2, HM2, HB2⟩
        case measure => simp [intOf]; omega
      · have b1 : (x != -1) = true := by simpa using he
        subst hr2
        clear he
        go_wp2
        go_ret
        exact ⟨N2, rfl, unhide HM2, unhide HB2⟩
    · have hr' := unhide HR'
      rw [List.drop_eq_nil_of_le (by omega)] at hr'
      have e : -1 = r := by injection hr'
      clear hr'
      subst e
      go_wp2
      go_ret
      exact ⟨N', rfl, unhide HM', unhide HB⟩
end
end Go.Proofs.Ytdofpbbahamkkaa
