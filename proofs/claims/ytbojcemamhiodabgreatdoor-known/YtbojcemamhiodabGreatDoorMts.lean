import Derived.Test.YtbojcemamhiodabGreatDoorCats
import Derived.Test.YtbojcemamhiodabGreatDoorBui2
import Derived.Test.YtbojcemamhiodabGreatDoorParse
namespace Go.Proofs.YtbojcemamhiodabGreatDoor
open Go.RowKit

/-- the matcher in block p, its notes in block nb; what it reads besides lies in blocks of S -/
structure Mt (w : World) (S : Nat → Prop) (p nb : Nat) (tv : Value) (T : List Tm) (s : ByteArray) (N : List Int) : Prop where
  cell : w.heap[p]? = some (.cells #[tv, .string s, .slice (some ⟨nb, 0, none⟩) N.length N.length] 56)
  notes : w.heap[nb]? = some (.cells (ints N).toArray 3)
  terms : ∃ xs, RowIn w S 80 3 tv T.length xs ∧ CellsT (IntR w S) xs T
  apart : ∀ b, S b → b ≠ nb
  pn : p ≠ nb
  len : N.length = T.length * (s.size + 1)
  sub : s.size ≤ 60
  few : T.length ≤ 100000
  txt : ∀ t ∈ T, t.text.size ≤ 400
  right : ∀ (i a : Nat), i < T.length → a ≤ s.size → ∀ x, N[i * (s.size + 1) + a]? = some x → x ≠ 0 → ∃ F, matchN T s F i a = some (x - 2)

section
variable {w w' : World} {S : Nat → Prop} {p nb : Nat} {tv : Value} {T : List Tm} {s : ByteArray} {N : List Int}
theorem Mt.below (h : Mt w S p nb tv T s N) (hb : Below w.heap.size w w') : Mt w' S p nb tv T s N := by
  obtain ⟨xs, h1, h2⟩ := h.terms
  have hp := (Array.getElem?_eq_some_iff.1 h.cell).1
  have hn := (Array.getElem?_eq_some_iff.1 h.notes).1
  exact ⟨(hb.block p hp).trans h.cell, (hb.block nb hn).trans h.notes, ⟨xs, h1.turn fun b hS hz => ⟨hS, hb.block b hz⟩, CellsT.imp (fun _ _ k => RowIn.turn k fun b hS hz => ⟨hS, hb.block b hz⟩) h2⟩, h.apart, h.pn, h.len, h.sub, h.few, h.txt, h.right⟩
theorem Mt.cells (h : Mt w S p nb tv T s N) : w.cell? ⟨p, 0, none⟩ = some tv ∧ w.cell? ⟨p, 1, none⟩ = some (.string s) ∧ w.cell? ⟨p, 2, none⟩ = some (.slice (some ⟨nb, 0, none⟩) N.length N.length) ∧ p < w.heap.size := by
  refine ⟨?_, ?_, ?_, (Array.getElem?_eq_some_iff.1 h.cell).1⟩
  all_goals simp [World.cell?, h.cell]
end

theorem wordM_no {s u : ByteArray} {a : Int} {k : Nat} (hk : k < u.size) (h : bAt s (a + k) ≠ bAt u k) : wordM s u a = -1 := by
  unfold wordM
  rw [if_neg]
  intro hall
  have := List.all_eq_true.1 hall k (by simpa using hk)
  simp at this
  exact h this
theorem wordM_yes {s u : ByteArray} {a : Int} (h : ∀ k : Nat, k < u.size → bAt s (a + k) = bAt u k) : wordM s u a = a + u.size := by
  unfold wordM
  rw [if_pos]
  rw [List.all_eq_true]
  intro k hk
  simp at hk
  simp [h k hk]

set_option maxRecDepth 4000 in
set_option maxHeartbeats 2000000 in
theorem word_any (w : World) (S : Nat → Prop) (p nb : Nat) (tv : Value) (T : List Tm) (s : ByteArray) (N : List Int) (u : ByteArray) (a : Int) (hu : u.size ≤ 400) (h0 : 0 ≤ a) (h1 : a ≤ s.size) (hm : Mt w S p nb tv T s N) :
    Calls Tryz.prog 48 #[.pointer (some ⟨p, 0, none⟩), .string u, .int .i64 a] w fun e w' => e = .returned (.int .i64 (wordM s u a)) ∧ Below w.heap.size w w' := by
  have hsub := hm.sub
  have HM := hide hm
  clear hm
  go_enter Tryz.func48, Tryz.ntmps48
  go_wp2_with fail
  go_loopw [7] (fun i wr => ∃ k : Nat, k ≤ u.size ∧ i = .int .i64 k ∧ Hid (∀ j : Nat, j < k → bAt s (a + j) = bAt u j) ∧ Hid (Below w.heap.size w wr)) (fun i _ => u.size - (intOf i).toNat)
  case atStart => exact ⟨0, Nat.zero_le _, rfl, fun j hj => by omega, Below.refl _ _⟩
  case round =>
    obtain ⟨k, hk, rfl, HA, HB⟩ := hrel
    obtain ⟨c0, c1, c2, hlt⟩ := ((unhide HM).below (unhide HB)).cells
    by_cases hku : k < u.size
    · by_cases hin : a + k < s.size
      · have hd : decide ((s.size : Int) ≤ a + k) = false := by simp; omega
        have hb1 : (0 : Int) ≤ a + k := by omega
        have hs1 : (a + (k : Int)).toNat < s.size := by omega
        have e1 : Hid (bAt s (a + k) = ((s[(a + (k : Int)).toNat]'hs1).toNat : Int)) := by unfold Hid; rw [bAt, dif_pos ⟨hb1, hin⟩]
        have e2 : Hid (bAt u k = ((u[k]'hku).toNat : Int)) := by
          unfold Hid
          rw [bAt, dif_pos ⟨by omega, by omega⟩]
          rfl
        go_wp2_with fail
        go_quiet (fail)
        by_cases he : bAt s (a + k) = bAt u k
        · have b1 : (((s[(a + (k : Int)).toNat]'hs1).toNat : Int) != ((u[k]'hku).toNat : Int)) = false := by rw [← unhide e1, ← unhide e2, he]; simp
          have HA' : Hid (∀ j : Nat, j < k + 1 → bAt s (a + j) = bAt u j) := fun j hj => by
            by_cases hjk : j < k
            · exact unhide HA j hjk
            · have e : j = k := by omega
              subst e
              exact he
          clear he
          go_wp2_with fail
          go_roundw
          case rel => exact ⟨k + 1, by omega, by go_num, HA', below_drewN (unhide HB) _⟩
          case measure => simp [intOf]; omega
        · have b1 : (((s[(a + (k : Int)).toNat]'hs1).toNat : Int) != ((u[k]'hku).toNat : Int)) = true := by rw [← unhide e1, ← unhide e2]; simpa using he
          have HR := hide (wordM_no hku he)
          clear he
          go_wp2
          go_ret
          exact ⟨ret_int (unhide HR).symm, below_drewN (unhide HB) _⟩
      · have hd : decide ((s.size : Int) ≤ a + k) = true := by simp; omega
        have hne : bAt s (a + k) ≠ bAt u k := by
          have h1 : bAt s (a + k) = -1 := by unfold bAt; rw [dif_neg (by omega)]
          have h2 : 0 ≤ bAt u k := by unfold bAt; rw [dif_pos ⟨by omega, by omega⟩]; omega
          omega
        have HR := hide (wordM_no hku hne)
        clear hne
        go_wp2_with fail
        go_quiet (fail)
        go_wp2
        go_ret
        exact ⟨ret_int (unhide HR).symm, below_drewN (unhide HB) _⟩
    · have HR := hide (wordM_yes (s := s) (u := u) (a := a) (fun j hj => unhide HA j (by omega)))
      go_wp2
      go_ret
      exact ⟨ret_int (unhide HR).symm, unhide HB⟩

theorem oneM_no {s u : ByteArray} {a : Int} (h : ∀ k : Nat, k < u.size → bAt s a ≠ bAt u k) : oneM s u a = -1 := by
  unfold oneM
  rw [if_neg]
  rintro ⟨_, hany⟩
  obtain ⟨k, hk, he⟩ := List.any_eq_true.1 hany
  simp at hk he
  exact h k hk he
theorem oneM_yes {s u : ByteArray} {a : Int} {k : Nat} (ha : a < s.size) (hk : k < u.size) (h : bAt s a = bAt u k) : oneM s u a = a + 1 := by
  unfold oneM
  rw [if_pos]
  refine ⟨ha, List.any_eq_true.2 ⟨k, by simpa using hk, by simp [h]⟩⟩
theorem oneM_end {s u : ByteArray} {a : Int} (ha : (s.size : Int) ≤ a) : oneM s u a = -1 := by
  unfold oneM
  rw [if_neg (by omega)]

set_option maxRecDepth 4000 in
set_option maxHeartbeats 2000000 in
theorem oneOf_any (w : World) (S : Nat → Prop) (p nb : Nat) (tv : Value) (T : List Tm) (s : ByteArray) (N : List Int) (u : ByteArray) (a : Int) (hu : u.size ≤ 400) (h0 : 0 ≤ a) (h1 : a ≤ s.size) (hm : Mt w S p nb tv T s N) :
    Calls Tryz.prog 49 #[.pointer (some ⟨p, 0, none⟩), .string u, .int .i64 a] w fun e w' => e = .returned (.int .i64 (oneM s u a)) ∧ Below w.heap.size w w' := by
  have hsub := hm.sub
  obtain ⟨c0, c1, c2, hlt⟩ := hm.cells
  have HM := hide hm
  clear hm
  by_cases hin : a < s.size
  · have hs1 : a.toNat < s.size := by omega
    have e1 : Hid (bAt s a = ((s[a.toNat]'hs1).toNat : Int)) := by unfold Hid; rw [bAt, dif_pos ⟨h0, hin⟩]
    go_enter Tryz.func49, Tryz.ntmps49
    go_wp2_with fail
    go_loopw [7] (fun i wr => ∃ k : Nat, k ≤ u.size ∧ i = .int .i64 k ∧ Hid (∀ j : Nat, j < k → bAt s a ≠ bAt u j) ∧ Hid (Below w.heap.size w wr)) (fun i _ => u.size - (intOf i).toNat)
    case atStart => exact ⟨0, Nat.zero_le _, rfl, fun j hj => by omega, Below.refl _ _⟩
    case round =>
      obtain ⟨k, hk, rfl, HA, HB⟩ := hrel
      clear c0 c1 c2 hlt
      obtain ⟨c0, c1, c2, hlt⟩ := ((unhide HM).below (unhide HB)).cells
      by_cases hku : k < u.size
      · have e2 : Hid (bAt u k = ((u[k]'hku).toNat : Int)) := by
          unfold Hid
          rw [bAt, dif_pos ⟨by omega, by omega⟩]
          rfl
        go_wp2_with fail
        go_quiet (fail)
        by_cases he : bAt s a = bAt u k
        · have b1 : (((s[a.toNat]'hs1).toNat : Int) == ((u[k]'hku).toNat : Int)) = true := by rw [← unhide e1, ← unhide e2, he]; simp
          have HR := hide (oneM_yes hin hku he)
          clear he
          go_wp2
          go_ret
          exact ⟨ret_int (unhide HR).symm, below_drewN (unhide HB) _⟩
        · have b1 : (((s[a.toNat]'hs1).toNat : Int) == ((u[k]'hku).toNat : Int)) = false := by rw [← unhide e1, ← unhide e2]; simpa using he
          have HA' : Hid (∀ j : Nat, j < k + 1 → bAt s a ≠ bAt u j) := fun j hj => by
            by_cases hjk : j < k
            · exact unhide HA j hjk
            · have e : j = k := by omega
              subst e
              exact he
          clear he
          go_wp2_with fail
          go_roundw
          case rel => exact ⟨k + 1, by omega, by go_num, HA', below_drewN (unhide HB) _⟩
          case measure => simp [intOf]; omega
      · have HR := hide (oneM_no (s := s) (u := u) (a := a) (fun j hj => unhide HA j (by omega)))
        go_wp2
        go_ret
        exact ⟨ret_int (unhide HR).symm, unhide HB⟩
  · have HR := hide (oneM_end (s := s) (u := u) (a := a) (by omega))
    have hge : (s.size : Int) ≤ a := by omega
    go_enter Tryz.func49, Tryz.ntmps49
    go_wp2
    go_ret
    exact ⟨ret_int (unhide HR).symm, Below.refl _ _⟩
end Go.Proofs.YtbojcemamhiodabGreatDoor
namespace Go.Proofs.YtbojcemamhiodabGreatDoor
open Go.RowKit

section
variable (S : Nat → Prop) (p nb : Nat) (tv : Value) (T : List Tm) (s : ByteArray)
/-- what a method of the matcher leaves -/
def OutM (w : World) (r : Int) (e : Ending) (w' : World) : Prop := ∃ N', e = .returned (.int .i64 r) ∧ Mt w' S p nb tv T s N' ∧ But nb w w'
/-- the contract of match, of what m tells -/
def SaidX (m : Int → Int → Option Int) : Prop := ∀ (w : World) (N : List Int) (i a r : Int), Mt w S p nb tv T s N → 0 ≤ a → a ≤ s.size → m i a = some r →
  Calls Tryz.prog 20 #[.pointer (some ⟨p, 0, none⟩), .int .i64 i, .int .i64 a] w (OutM S p nb tv T s w r)
/-- the contract of a method over a list of terms -/
def SaidList (f : Nat) (g : List Int → Int → Option Int) : Prop := ∀ (w : World) (N l : List Int) (ao : Option Addr) (n cp : Nat) (a r : Int), Mt w S p nb tv T s N → IntR w S (.slice ao n cp) l → 0 ≤ a → a ≤ s.size → g l a = some r →
  Calls Tryz.prog f #[.pointer (some ⟨p, 0, none⟩), .slice ao n cp, .int .i64 a] w (OutM S p nb tv T s w r)
end

theorem IntR.at {w : World} {S : Nat → Prop} {ao : Option Addr} {n cp : Nat} {l : List Int} (h : IntR w S (.slice ao n cp) l) (k : Nat) (hk : k < l.length) : ∃ g, ao = some ⟨g, 0, none⟩ ∧ g < w.heap.size ∧ n ≤ cp ∧ w.cell? ⟨g, k, none⟩ = some (.int .i64 l[k]) := by
  rcases h.2 with ⟨_, hz⟩ | ⟨g, cap, cur, hv, hS, hh, hle, hcm, hcs, ht⟩
  · omega
  · injection hv with e1 e2 e3
    refine ⟨g, e1, (Array.getElem?_eq_some_iff.1 hh).1, by omega, ?_⟩
    have h1 : cur.toList[k]? = some (.int .i64 l[k]) := by
      have h2 : (cur.toList.take (l.length * 1))[k]? = some (.int .i64 l[k]) := by
        rw [ht]
        simp [ints, hk]
      rw [List.getElem?_take] at h2
      rw [if_pos (by omega)] at h2
      exact h2
    simpa [World.cell?, hh] using h1
theorem IntR.len {w : World} {S : Nat → Prop} {ao : Option Addr} {n cp : Nat} {l : List Int} (h : IntR w S (.slice ao n cp) l) : n = l.length ∧ l.length ≤ 2 ^ 63 - 1 := by
  rcases h.2 with ⟨hv, hz⟩ | ⟨g, cap, cur, hv, hS, hh, hle, hcm, hcs, ht⟩
  · injection hv with _ e2 _
    exact ⟨by omega, by omega⟩
  · injection hv with e1 e2 e3
    unfold maxLen at hcm
    exact ⟨e2, by omega⟩
theorem IntR.but {w w' : World} {S : Nat → Prop} {nb : Nat} {v : Value} {l : List Int} (h : IntR w S v l) (hb : But nb w w') (hS : ∀ b, S b → b ≠ nb) : IntR w' S v l := RowIn.turn h fun b hb' hz => ⟨hb', hb.block b hz (hS b hb')⟩

theorem rowM_cons {m : Int → Int → Option Int} {i : Int} {l : List Int} {a r : Int} (h : rowM m (i :: l) a = some r) : ∃ x, m i a = some x ∧ ((x = -1 ∧ r = -1) ∨ (x ≠ -1 ∧ rowM m l x = some r)) := by
  unfold rowM at h
  cases hx : m i a with
  | none => rw [hx] at h; cases h
  | some x =>
    rw [hx] at h
    refine ⟨x, rfl, ?_⟩
    simp only [Option.bind_some] at h
    split at h
    · rename_i he
      injection h with h
      exact .inl ⟨he, h.symm⟩
    · rename_i he
      exact .inr ⟨he, h⟩
theorem choiceM_cons {m : Int → Int → Option Int} {i : Int} {l : List Int} {a r : Int} (h : choiceM m (i :: l) a = some r) : ∃ x, m i a = some x ∧ ((x = -1 ∧ choiceM m l a = some r) ∨ (x ≠ -1 ∧ r = x)) := by
  unfold choiceM at h
  cases hx : m i a with
  | none => rw [hx] at h; cases h
  | some x =>
    rw [hx] at h
    refine ⟨x, rfl, ?_⟩
    simp only [Option.bind_some] at h
    split at h
    · rename_i he
      exact .inl ⟨he, h⟩
    · rename_i he
      injection h with h
      exact .inr ⟨he, h.symm⟩

section
variable {S : Nat → Prop} {p nb : Nat} {tv : Value} {T : List Tm} {s : ByteArray} {m : Int → Int → Option Int}

set_option maxRecDepth 4000 in
set_option maxHeartbeats 2000000 in
theorem mrow_any (hm : SaidX S p nb tv T s m) (hok : ∀ i a r : Int, m i a = some r → 0 ≤ a → a ≤ s.size → Ok s a r) : SaidList S p nb tv T s 50 (rowM m) := by
  intro w N l ao n cp a r hM hl h0 h1 hr
  obtain ⟨hn, hmx⟩ := hl.len
  subst hn
  have hsub := hM.sub
  have HA := hide hM.apart
  have HM := hide hM
  have HL := hide hl
  have HR := hide hr
  have Hm := hide hm
  have HO := hide hok
  clear hM hl hr hm hok
  go_enter Tryz.func50, Tryz.ntmps50
  go_wp2_with fail
  go_loopw [2, 11] (fun b i wr => ∃ (k : Nat) (a' : Int) (N' : List Int), k ≤ l.length ∧ b = .int .i64 a' ∧ i = .int .i64 k ∧ Hid (rowM m (l.drop k) a' = some r) ∧ 0 ≤ a' ∧ a' ≤ s.size ∧ Hid (Mt wr S p nb tv T s N') ∧ Hid (But nb w wr)) (fun _ i _ => l.length - (intOf i).toNat)
  case atStart => exact ⟨0, a, N, Nat.zero_le _, rfl, rfl, HR, h0, h1, HM, But.refl _ _⟩
  case round =>
    obtain ⟨k, a', N', hk, rfl, rfl, HR', g0, g1, HM', HB⟩ := hrel
    by_cases hlt : k < l.length
    · have hd : l.drop k = l[k] :: l.drop (k + 1) := List.drop_eq_getElem_cons hlt
      have hr' := unhide HR'
      rw [hd] at hr'
      obtain ⟨x, hx, hcase⟩ := rowM_cons hr'
      obtain ⟨g, rfl, hg, hcp, hc⟩ := ((unhide HL).but (unhide HB) (unhide HA)).at k hlt
      have hox := unhide HO _ _ _ hx g0 g1
      have HC := hide (unhide Hm wr N' l[k] a' x (unhide HM') g0 g1 hx)
      generalize l[k] = i at *
      clear hd hr' hx
      go_wp2_with fail
      go_at_call 20
      refine (unhide HC).mono ?_
      rintro e w2 ⟨N2, rfl, hM2, hB2⟩
      have HM2 := hide hM2
      have HB2 := hide ((unhide HB).trans hB2)
      clear hM2 hB2
      rcases hcase with ⟨he, hr2⟩ | ⟨he, hr2⟩
      · subst he
        subst hr2
        clear hox
        go_wp2
        go_ret
        exact ⟨N2, rfl, unhide HM2, unhide HB2⟩
      · have b1 : (x == -1) = false := by simpa using he
        have HR2 := hide hr2
        have hx0 : 0 ≤ x := by unfold Ok at hox; omega
        have hx1 : x ≤ s.size := by unfold Ok at hox; omega
        clear he hr2 hox
        go_wp2_with fail
        go_roundw
        case rel => exact ⟨k + 1, x, N2, by omega, rfl, by go_num, HR2, hx0, hx1, HM2, HB2⟩
        case measure => simp [intOf]; omega
    · have hr' := unhide HR'
      rw [List.drop_eq_nil_of_le (by omega)] at hr'
      have e : a' = r := by injection hr'
      clear hr'
      subst e
      go_wp2
      go_ret
      exact ⟨N', rfl, unhide HM', unhide HB⟩

set_option maxRecDepth 4000 in
set_option maxHeartbeats 2000000 in
theorem mchoice_any (hm : SaidX S p nb tv T s m) : SaidList S p nb tv T s 51 (choiceM m) := by
  intro w N l ao n cp a r hM hl h0 h1 hr
  obtain ⟨hn, hmx⟩ := hl.len
  subst hn
  have hsub := hM.sub
  have HA := hide hM.apart
  have HM := hide hM
  have HL := hide hl
  have HR := hide hr
  have Hm := hide hm
  clear hM hl hr hm
  go_enter Tryz.func51, Tryz.ntmps51
  go_wp2_with fail
  go_loopw [12] (fun i wr => ∃ (k : Nat) (N' : List Int), k ≤ l.length ∧ i = .int .i64 k ∧ Hid (choiceM m (l.drop k) a = some r) ∧ Hid (Mt wr S p nb tv T s N') ∧ Hid (But nb w wr)) (fun i _ => l.length - (intOf i).toNat)
  case atStart => exact ⟨0, N, Nat.zero_le _, rfl, HR, HM, But.refl _ _⟩
  case round =>
    obtain ⟨k, N', hk, rfl, HR', HM', HB⟩ := hrel
    by_cases hlt : k < l.length
    · have hd : l.drop k = l[k] :: l.drop (k + 1) := List.drop_eq_getElem_cons hlt
      have hr' := unhide HR'
      rw [hd] at hr'
      obtain ⟨x, hx, hcase⟩ := choiceM_cons hr'
      obtain ⟨g, rfl, hg, hcp, hc⟩ := ((unhide HL).but (unhide HB) (unhide HA)).at k hlt
      have HC := hide (unhide Hm wr N' l[k] a x (unhide HM') h0 h1 hx)
      generalize l[k] = i at *
      clear hd hr' hx
      go_wp2_with fail
      go_at_call 20
      refine (unhide HC).mono ?_
      rintro e w2 ⟨N2, rfl, hM2, hB2⟩
      have HM2 := hide hM2
      have HB2 := hide ((unhide HB).trans hB2)
      clear hM2 hB2
      rcases hcase with ⟨he, hr2⟩ | ⟨he, hr2⟩
      · subst he
        have HR2 := hide hr2
        clear hr2
        go_wp2_with fail
        go_roundw
        case rel => exact ⟨k + 1, N2, by omega, by go_num, HR2, HM2, HB2⟩
        case measure => simp [intOf]; omega
      · have b1 : (x != -1) = true := by simpa using he
        subst hr2
        clear he
        go_wp2
        go_ret
        exact ⟨N2, rfl, unhide HM2, unhide HB2⟩
    · have hr' := unhide HR'
      rw [List.drop_eq_nil_of_le (by omega)] at hr'
      have e : -1 = r := by injection hr'
      clear hr'
      subst e
      go_wp2
      go_ret
      exact ⟨N', rfl, unhide HM', unhide HB⟩
end
end Go.Proofs.YtbojcemamhiodabGreatDoor
namespace Go.Proofs.YtbojcemamhiodabGreatDoor
open Go.RowKit

theorem bind_some' {o : Option Int} {f : Int → Option Int} {r : Int} (h : o.bind f = some r) : ∃ x, o = some x ∧ f x = some r := by
  cases o with
  | none => cases h
  | some x => exact ⟨x, rfl, h⟩

section
variable {S : Nat → Prop} {p nb : Nat} {tv : Value} {T : List Tm} {s : ByteArray} {m : Int → Int → Option Int}

set_option maxHeartbeats 1000000 in
theorem mand_any (hr : SaidList S p nb tv T s 50 (rowM m)) : SaidList S p nb tv T s 52 (andM m) := by
  intro w N l ao n cp a r hM hl h0 h1 hx
  obtain ⟨x, hx1, hx2⟩ := bind_some' hx
  have HC := hide (hr w N l ao n cp a x hM hl h0 h1 hx1)
  clear hr hx hx1
  go_enter Tryz.func52, Tryz.ntmps52
  go_wp2_with fail
  go_at_call 50
  refine (unhide HC).mono ?_
  rintro e w2 ⟨N2, rfl, hM2, hB2⟩
  have HM2 := hide hM2
  have HB2 := hide hB2
  clear hM2 hB2
  split at hx2
  · rename_i he
    injection hx2 with hx2
    subst hx2
    subst he
    go_wp2
    go_ret
    exact ⟨N2, rfl, unhide HM2, unhide HB2⟩
  · rename_i he
    injection hx2 with hx2
    subst hx2
    have b1 : (x == -1) = false := by simpa using he
    clear he
    go_wp2
    go_ret
    exact ⟨N2, rfl, unhide HM2, unhide HB2⟩

set_option maxHeartbeats 1000000 in
theorem mnot_any (hr : SaidList S p nb tv T s 50 (rowM m)) : SaidList S p nb tv T s 53 (notM m) := by
  intro w N l ao n cp a r hM hl h0 h1 hx
  obtain ⟨x, hx1, hx2⟩ := bind_some' hx
  have HC := hide (hr w N l ao n cp a x hM hl h0 h1 hx1)
  clear hr hx hx1
  go_enter Tryz.func53, Tryz.ntmps53
  go_wp2_with fail
  go_at_call 50
  refine (unhide HC).mono ?_
  rintro e w2 ⟨N2, rfl, hM2, hB2⟩
  have HM2 := hide hM2
  have HB2 := hide hB2
  clear hM2 hB2
  split at hx2
  · rename_i he
    injection hx2 with hx2
    subst hx2
    subst he
    go_wp2
    go_ret
    exact ⟨N2, rfl, unhide HM2, unhide HB2⟩
  · rename_i he
    injection hx2 with hx2
    subst hx2
    have b1 : (x == -1) = false := by simpa using he
    clear he
    go_wp2
    go_ret
    exact ⟨N2, rfl, unhide HM2, unhide HB2⟩

set_option maxHeartbeats 1000000 in
theorem mquery_any (hr : SaidList S p nb tv T s 50 (rowM m)) : SaidList S p nb tv T s 56 (queryM m) := by
  intro w N l ao n cp a r hM hl h0 h1 hx
  obtain ⟨x, hx1, hx2⟩ := bind_some' hx
  have HC := hide (hr w N l ao n cp a x hM hl h0 h1 hx1)
  clear hr hx hx1
  go_enter Tryz.func56, Tryz.ntmps56
  go_wp2_with fail
  go_at_call 50
  refine (unhide HC).mono ?_
  rintro e w2 ⟨N2, rfl, hM2, hB2⟩
  have HM2 := hide hM2
  have HB2 := hide hB2
  clear hM2 hB2
  split at hx2
  · rename_i he
    injection hx2 with hx2
    subst hx2
    subst he
    go_wp2
    go_ret
    exact ⟨N2, rfl, unhide HM2, unhide HB2⟩
  · rename_i he
    injection hx2 with hx2
    subst hx2
    have b1 : (x == -1) = false := by simpa using he
    clear he
    go_wp2
    go_ret
    exact ⟨N2, rfl, unhide HM2, unhide HB2⟩

set_option maxRecDepth 4000 in
set_option maxHeartbeats 2000000 in
theorem mstar_any (z : Nat) (hr : SaidList S p nb tv T s 50 (rowM m)) (hok : ∀ (l : List Int) (a r : Int), rowM m l a = some r → 0 ≤ a → a ≤ s.size → Ok s a r) : SaidList S p nb tv T s 54 (fun l a => starM m l z a) := by
  intro w N l ao n cp a r hM hl h0 h1 hx
  have hsub := hM.sub
  have HA := hide hM.apart
  cases z with
  | zero => cases hx
  | succ z =>
  obtain ⟨x, hx1, hx2⟩ := bind_some' hx
  have hox := hok l a x hx1 h0 h1
  have HC := hide (hr w N l ao n cp a x hM hl h0 h1 hx1)
  have Hr := hide hr
  have HO := hide hok
  have HL := hide hl
  have HX := hide hx2
  clear hr hok hl hx hx1 hx2 hM
  go_enter Tryz.func54, Tryz.ntmps54
  go_wp2_with fail
  go_at_call 50
  refine (unhide HC).mono ?_
  rintro e w2 ⟨N2, rfl, hM2, hB2⟩
  have HM2 := hide hM2
  have HB2 := hide hB2
  clear hM2 hB2
  go_wp2_with fail
  go_loopw [2, 7] (fun b t wr => ∃ (a' x' : Int) (z' : Nat) (N' : List Int), b = .int .i64 a' ∧ t = .int .i64 x' ∧ Hid ((if a' < x' then starM m l z' x' else some a') = some r) ∧ 0 ≤ a' ∧ a' ≤ s.size ∧ Ok s a' x' ∧ Hid (Mt wr S p nb tv T s N') ∧ Hid (But nb w wr)) (fun b _ _ => (s.size - intOf b).toNat)
  case atStart => exact ⟨a, x, z, N2, rfl, rfl, HX, h0, h1, hox, HM2, HB2⟩
  case round =>
    obtain ⟨a', x', z', N', rfl, rfl, HR', g0, g1, gok, HM', HB⟩ := hrel
    by_cases hlt : a' < x'
    · have hr' := unhide HR'
      rw [if_pos hlt] at hr'
      have hx0 : 0 ≤ x' := by omega
      have hx1 : x' ≤ s.size := by unfold Ok at gok; omega
      cases z' with
      | zero => cases hr'
      | succ z' =>
      obtain ⟨y, hy1, hy2⟩ := bind_some' hr'
      have hoy := unhide HO l x' y hy1 hx0 hx1
      have HC' := hide (unhide Hr wr N' l ao n cp x' y (unhide HM') ((unhide HL).but (unhide HB) (unhide HA)) hx0 hx1 hy1)
      have HY := hide hy2
      have HOY := hide hoy
      clear hr' hy1 hy2 gok hoy
      go_wp2_with fail
      go_at_call 50
      refine (unhide HC').mono ?_
      rintro e w3 ⟨N3, rfl, hM3, hB3⟩
      have HM3 := hide hM3
      have HB3 := hide ((unhide HB).trans hB3)
      clear hM3 hB3
      go_wp2_with fail
      go_roundw
      case rel => exact ⟨x', y, z', N3, rfl, rfl, HY, hx0, hx1, unhide HOY, HM3, HB3⟩
      case measure => simp [intOf]; omega
    · have hr' := unhide HR'
      rw [if_neg hlt] at hr'
      have e : a' = r := by injection hr'
      clear hr' gok
      subst e
      go_wp2
      go_ret
      exact ⟨N', rfl, unhide HM', unhide HB⟩

set_option maxHeartbeats 1000000 in
theorem mplus_any (z : Nat) (hr : SaidList S p nb tv T s 50 (rowM m)) (hok : ∀ (l : List Int) (a r : Int), rowM m l a = some r → 0 ≤ a → a ≤ s.size → Ok s a r) (hst : SaidList S p nb tv T s 54 (fun l a => starM m l z a)) : SaidList S p nb tv T s 55 (fun l a => plusM m l z a) := by
  intro w N l ao n cp a r hM hl h0 h1 hx
  have HA := hide hM.apart
  obtain ⟨x, hx1, hx2⟩ := bind_some' hx
  have hox := hok l a x hx1 h0 h1
  have HC := hide (hr w N l ao n cp a x hM hl h0 h1 hx1)
  have HL := hide hl
  have HS := hide hst
  clear hr hok hl hx hx1 hst hM
  go_enter Tryz.func55, Tryz.ntmps55
  go_wp2_with fail
  go_at_call 50
  refine (unhide HC).mono ?_
  rintro e w2 ⟨N2, rfl, hM2, hB2⟩
  have HM2 := hide hM2
  have HB2 := hide hB2
  clear hM2 hB2
  split at hx2
  · rename_i he
    injection hx2 with hx2
    subst hx2
    subst he
    clear hox
    go_wp2
    go_ret
    exact ⟨N2, rfl, unhide HM2, unhide HB2⟩
  · rename_i he
    have b1 : (x == -1) = false := by simpa using he
    have hx0 : 0 ≤ x := by unfold Ok at hox; omega
    have hx1 : x ≤ s.size := by unfold Ok at hox; omega
    have HC2 := hide (unhide HS w2 N2 l ao n cp x r (unhide HM2) ((unhide HL).but (unhide HB2) (unhide HA)) hx0 hx1 hx2)
    clear he hox hx2
    go_wp2_with fail
    go_at_call 54
    refine (unhide HC2).mono ?_
    rintro e w3 ⟨N3, rfl, hM3, hB3⟩
    have HB3 := hide ((unhide HB2).trans hB3)
    have HM3 := hide hM3
    clear hB3 hM3
    go_wp2
    go_ret
    exact ⟨N3, rfl, unhide HM3, unhide HB3⟩
end
end Go.Proofs.YtbojcemamhiodabGreatDoor
namespace Go.Proofs.YtbojcemamhiodabGreatDoor
open Go.RowKit

section
variable {S : Nat → Prop} {p nb : Nat} {tv : Value} {T : List Tm} {s : ByteArray} {m : Int → Int → Option Int}

theorem OutM.from_alloc {w w' : World} {o : Obj} {r : Int} {e : Ending} (h : OutM S p nb tv T s (w.alloc o) r e w') : OutM S p nb tv T s w r e w' := by
  obtain ⟨N, h1, h2, h3⟩ := h
  exact ⟨N, h1, h2, h3.from_alloc⟩

theorem three_b {w w' : World} {nb : Nat} {a b c : Value} (hb : But nb (w.alloc (.cells #[a, b, c] 80)) w') (hn : nb < w.heap.size) : w'.cell? ⟨w.heap.size, 0, none⟩ = some a := by
  have h := (hb.block w.heap.size (by simp) (by omega)).trans (heap_alloc_new w _)
  simp [World.cell?, h]

set_option maxRecDepth 4000 in
set_option maxHeartbeats 4000000 in
theorem run_any (hm : SaidX S p nb tv T s m) (hok : ∀ i a r : Int, m i a = some r → 0 ≤ a → a ≤ s.size → Ok s a r) (w : World) (N : List Int) (t : Tm) (ao : Option Addr) (n cp : Nat) (a r : Int)
    (hM : Mt w S p nb tv T s N) (hk : IntR w S (.slice ao n cp) t.kids) (h0 : 0 ≤ a) (h1 : a ≤ s.size) (htx : t.text.size ≤ 400) (hr : runN m s (s.size + 2) t a = some r) :
    Calls Tryz.prog 33 #[.pointer (some ⟨p, 0, none⟩), .agg #[.int .i64 t.kind, .string t.text, .slice ao n cp], .int .i64 a] w (OutM S p nb tv T s w r) := by
  have hA : Below w.heap.size w (w.alloc (.cells #[.int .i64 t.kind, .string t.text, .slice ao n cp] 80)) := (Below.refl _ _).alloc (Nat.le_refl _) _
  have hM1 := hM.below hA
  have hk1 : IntR (w.alloc (.cells #[.int .i64 t.kind, .string t.text, .slice ao n cp] 80)) S (.slice ao n cp) t.kids := RowIn.turn hk fun b hS hz => ⟨hS, hA.block b hz⟩
  have hrow := mrow_any hm hok
  have hrok := rowM_ok hok
  have HB := hide (But.of_below (q := nb) hA (Nat.le_refl _))
  unfold runN at hr
  by_cases k0 : t.kind = 0
  · rw [if_pos k0] at hr
    injection hr with hr
    have b0 : (t.kind == 0) = true := by simp [k0]
    have HC := hide (word_any _ S p nb tv T s N t.text a htx h0 h1 hM1)
    have HM := hide hM1
    subst hr
    clear hM hk hM1 hk1 hrow hrok hm hok k0 hA
    go_enter Tryz.func33, Tryz.ntmps33
    go_wp2_with fail
    go_at_call 48
    refine (unhide HC).mono ?_
    rintro e w2 ⟨rfl, hb2⟩
    have HM2 := hide ((unhide HM).below hb2)
    have HB2 := hide ((unhide HB).below hb2 (unhide HB).size)
    clear hb2
    go_wp2
    go_ret
    exact ⟨N, rfl, unhide HM2, unhide HB2⟩
  rw [if_neg k0] at hr
  have b0 : (t.kind == 0) = false := by simp [k0]
  by_cases k1 : t.kind = 1
  · rw [if_pos k1] at hr
    injection hr with hr
    have b1 : (t.kind == 1) = true := by simp [k1]
    have HC := hide (oneOf_any _ S p nb tv T s N t.text a htx h0 h1 hM1)
    have HM := hide hM1
    subst hr
    clear hM hk hM1 hk1 hrow hrok hm hok k0 k1 hA
    go_enter Tryz.func33, Tryz.ntmps33
    go_wp2_with fail
    go_at_call 49
    refine (unhide HC).mono ?_
    rintro e w2 ⟨rfl, hb2⟩
    have HM2 := hide ((unhide HM).below hb2)
    have HB2 := hide ((unhide HB).below hb2 (unhide HB).size)
    clear hb2
    go_wp2
    go_ret
    exact ⟨N, rfl, unhide HM2, unhide HB2⟩
  rw [if_neg k1] at hr
  have b1 : (t.kind == 1) = false := by simp [k1]
  by_cases k3 : t.kind = 3
  · rw [if_pos k3] at hr
    injection hr with hr
    have b3 : (t.kind == 3) = true := by simp [k3]
    have HM := hide hM1
    subst hr
    clear hM hk hM1 hk1 hrow hrok hm hok k0 k1 k3 hA
    go_enter Tryz.func33, Tryz.ntmps33
    go_wp2
    go_ret
    exact ⟨N, rfl, unhide HM, unhide HB⟩
  rw [if_neg k3] at hr
  have b3 : (t.kind == 3) = false := by simp [k3]
  by_cases kr : t.kind = 2 ∨ t.kind = 4 ∨ t.kind = 5
  · rw [if_pos kr] at hr
    have HC := hide ((hrow) _ N t.kids ao n cp a r hM1 hk1 h0 h1 hr)
    have bor : ((t.kind == 2) = true) ∨ ((t.kind == 2) = false ∧ (t.kind == 4) = true) ∨ ((t.kind == 2) = false ∧ (t.kind == 4) = false ∧ (t.kind == 5) = true) := by
      rcases kr with e | e | e <;> simp [e]
    clear hM hk hM1 hk1 hrow hrok hm hok hr hA k0 k1 k3 kr
    rcases bor with b2 | ⟨b2, b4⟩ | ⟨b2, b4, b5⟩
    all_goals
      go_enter Tryz.func33, Tryz.ntmps33
      go_wp2_with fail
      go_at_call 50
      refine (unhide HC).mono ?_
      rintro e w2 ⟨N2, rfl, hM2, hB2⟩
      have HM2 := hide hM2
      have HB2 := hide hB2.from_alloc
      clear hM2 hB2
      go_wp2
      go_ret
      exact ⟨N2, rfl, unhide HM2, unhide HB2⟩
  rw [if_neg kr] at hr
  have b2 : (t.kind == 2) = false := by simp; omega
  have b4 : (t.kind == 4) = false := by simp; omega
  have b5 : (t.kind == 5) = false := by simp; omega
  by_cases k6 : t.kind = 6
  · rw [if_pos k6] at hr
    have HC := hide ((mchoice_any hm) _ N t.kids ao n cp a r hM1 hk1 h0 h1 hr)
    have b6 : (t.kind == 6) = true := by simp [k6]
    clear hM hk hM1 hk1 hrow hrok hm hok hr hA k0 k1 k3 kr k6
    go_enter Tryz.func33, Tryz.ntmps33
    go_wp2_with fail
    go_at_call 51
    refine (unhide HC).mono ?_
    rintro e w2 ⟨N2, rfl, hM2, hB2⟩
    have HM2 := hide hM2
    have HB2 := hide hB2.from_alloc
    clear hM2 hB2
    go_wp2
    go_ret
    exact ⟨N2, rfl, unhide HM2, unhide HB2⟩
  rw [if_neg k6] at hr
  have b6 : (t.kind == 6) = false := by simp [k6]
  by_cases k7 : t.kind = 7
  · rw [if_pos k7] at hr
    have HC := hide ((mand_any hrow) _ N t.kids ao n cp a r hM1 hk1 h0 h1 hr)
    have b7 : (t.kind == 7) = true := by simp [k7]
    clear hM hk hM1 hk1 hrow hrok hm hok hr hA k0 k1 k3 kr k6 k7
    go_enter Tryz.func33, Tryz.ntmps33
    go_wp2_with fail
    go_at_call 52
    refine (unhide HC).mono ?_
    rintro e w2 ⟨N2, rfl, hM2, hB2⟩
    have HM2 := hide hM2
    have HB2 := hide hB2.from_alloc
    clear hM2 hB2
    go_wp2
    go_ret
    exact ⟨N2, rfl, unhide HM2, unhide HB2⟩
  rw [if_neg k7] at hr
  have b7 : (t.kind == 7) = false := by simp [k7]
  by_cases k8 : t.kind = 8
  · rw [if_pos k8] at hr
    have HC := hide ((mnot_any hrow) _ N t.kids ao n cp a r hM1 hk1 h0 h1 hr)
    have b8 : (t.kind == 8) = true := by simp [k8]
    clear hM hk hM1 hk1 hrow hrok hm hok hr hA k0 k1 k3 kr k6 k7 k8
    go_enter Tryz.func33, Tryz.ntmps33
    go_wp2_with fail
    go_at_call 53
    refine (unhide HC).mono ?_
    rintro e w2 ⟨N2, rfl, hM2, hB2⟩
    have HM2 := hide hM2
    have HB2 := hide hB2.from_alloc
    clear hM2 hB2
    go_wp2
    go_ret
    exact ⟨N2, rfl, unhide HM2, unhide HB2⟩
  rw [if_neg k8] at hr
  have b8 : (t.kind == 8) = false := by simp [k8]
  by_cases k9 : t.kind = 9
  · rw [if_pos k9] at hr
    have HC := hide ((mstar_any (s.size + 2) hrow hrok) _ N t.kids ao n cp a r hM1 hk1 h0 h1 hr)
    have b9 : (t.kind == 9) = true := by simp [k9]
    clear hM hk hM1 hk1 hrow hrok hm hok hr hA k0 k1 k3 kr k6 k7 k8 k9
    go_enter Tryz.func33, Tryz.ntmps33
    go_wp2_with fail
    go_at_call 54
    refine (unhide HC).mono ?_
    rintro e w2 ⟨N2, rfl, hM2, hB2⟩
    have HM2 := hide hM2
    have HB2 := hide hB2.from_alloc
    clear hM2 hB2
    go_wp2
    go_ret
    exact ⟨N2, rfl, unhide HM2, unhide HB2⟩
  rw [if_neg k9] at hr
  have b9 : (t.kind == 9) = false := by simp [k9]
  by_cases k10 : t.kind = 10
  · rw [if_pos k10] at hr
    have HC := hide ((mplus_any (s.size + 2) hrow hrok (mstar_any (s.size + 2) hrow hrok)) _ N t.kids ao n cp a r hM1 hk1 h0 h1 hr)
    have b10 : (t.kind == 10) = true := by simp [k10]
    clear hM hk hM1 hk1 hrow hrok hm hok hr hA k0 k1 k3 kr k6 k7 k8 k9 k10
    go_enter Tryz.func33, Tryz.ntmps33
    go_wp2_with fail
    go_at_call 55
    refine (unhide HC).mono ?_
    rintro e w2 ⟨N2, rfl, hM2, hB2⟩
    have HM2 := hide hM2
    have HB2 := hide hB2.from_alloc
    clear hM2 hB2
    go_wp2
    go_ret
    exact ⟨N2, rfl, unhide HM2, unhide HB2⟩
  rw [if_neg k10] at hr
  have b10 : (t.kind == 10) = false := by simp [k10]
  by_cases k11 : t.kind = 11
  · rw [if_pos k11] at hr
    have HC := hide ((mquery_any hrow) _ N t.kids ao n cp a r hM1 hk1 h0 h1 hr)
    have b11 : (t.kind == 11) = true := by simp [k11]
    clear hM hk hM1 hk1 hrow hrok hm hok hr hA k0 k1 k3 kr k6 k7 k8 k9 k10 k11
    go_enter Tryz.func33, Tryz.ntmps33
    go_wp2_with fail
    go_at_call 56
    refine (unhide HC).mono ?_
    rintro e w2 ⟨N2, rfl, hM2, hB2⟩
    have HM2 := hide hM2
    have HB2 := hide hB2.from_alloc
    clear hM2 hB2
    go_wp2
    go_ret
    exact ⟨N2, rfl, unhide HM2, unhide HB2⟩
  rw [if_neg k11] at hr
  have b11 : (t.kind == 11) = false := by simp [k11]
  injection hr with hr
  have HM := hide hM1
  subst hr
  clear hM hk hM1 hk1 hrow hrok hm hok k0 k1 k3 kr k6 k7 k8 k9 k10 k11 hA
  go_enter Tryz.func33, Tryz.ntmps33
  go_wp2
  go_ret
  exact ⟨N, rfl, unhide HM, unhide HB⟩
end
end Go.Proofs.YtbojcemamhiodabGreatDoor
namespace Go.Proofs.YtbojcemamhiodabGreatDoor
open Go.RowKit

section
variable {S : Nat → Prop} {p nb : Nat} {tv : Value} {T : List Tm} {s : ByteArray} {w : World} {N : List Int}

/-- the cells of term k -/
theorem Mt.term (h : Mt w S p nb tv T s N) (k : Nat) (hk : k < T.length) : ∃ g cp ao n' cp', tv = .slice (some ⟨g, 0, none⟩) T.length cp ∧ T.length ≤ cp ∧ g < w.heap.size ∧ IntR w S (.slice ao n' cp') T[k].kids ∧
    w.cell? ⟨g, k * 3, none⟩ = some (.int .i64 T[k].kind) ∧ w.cell? ⟨g, k * 3 + 1, none⟩ = some (.string T[k].text) ∧ w.cell? ⟨g, k * 3 + 2, none⟩ = some (.slice ao n' cp') := by
  obtain ⟨xs, h1, h2⟩ := h.terms
  obtain ⟨kv, k1, k2⟩ := h2.at k T[k] (List.getElem?_eq_getElem hk)
  rcases h1.2 with ⟨_, hz⟩ | ⟨g, cap, cur, hv, hS, hh, hle, hcm, hcs, ht⟩
  · omega
  · have hsh : ∃ ao n' cp', kv = .slice ao n' cp' := by
      rcases k1.2 with ⟨e, _⟩ | ⟨_, _, _, e, _⟩
      · exact ⟨_, _, _, e⟩
      · exact ⟨_, _, _, e⟩
    obtain ⟨ao, n', cp', rfl⟩ := hsh
    have hc : ∀ j < 3, w.cell? ⟨g, k * 3 + j, none⟩ = (T[k].cs (.slice ao n' cp'))[j]? := by
      intro j hj
      rw [← k2 j hj, ← ht, List.getElem?_take, if_pos (by omega)]
      simp [World.cell?, hh]
    exact ⟨g, cap, ao, n', cp', hv, hle, (Array.getElem?_eq_some_iff.1 hh).1, k1, (hc 0 (by omega)).trans rfl, (hc 1 (by omega)).trans rfl, (hc 2 (by omega)).trans rfl⟩
theorem Mt.note (h : Mt w S p nb tv T s N) (j : Nat) (hj : j < N.length) : w.cell? ⟨nb, j, none⟩ = some (.int .i64 N[j]) ∧ w.frozen? ⟨nb, j, none⟩ = false ∧ nb < w.heap.size := by
  refine ⟨?_, ?_, (Array.getElem?_eq_some_iff.1 h.notes).1⟩
  · simp [World.cell?, h.notes, ints, hj]
  · simp [World.frozen?, h.notes]
/-- an answer is noted -/
theorem Mt.set (h : Mt w S p nb tv T s N) {k a : Nat} {F : Nat} {r : Int} (hk : k < T.length) (ha : a ≤ s.size) (hr : matchN T s F k a = some r) :
    Mt (w.setCell ⟨nb, k * (s.size + 1) + a, none⟩ (.int .i64 (r + 2))) S p nb tv T s (N.set (k * (s.size + 1) + a) (r + 2)) := by
  obtain ⟨xs, h1, h2⟩ := h.terms
  have key : ∀ b, b ≠ nb → (w.setCell ⟨nb, k * (s.size + 1) + a, none⟩ (.int .i64 (r + 2))).heap[b]? = w.heap[b]? := fun b hb => Below.heap_setCell _ _ _ _ (by simpa using hb)
  refine ⟨by rw [List.length_set]; exact (key p h.pn).trans h.cell, ?_, ⟨xs, h1.turn fun b hS _ => ⟨hS, key b (h.apart b hS)⟩, CellsT.imp (fun _ _ kk => RowIn.turn kk fun b hS _ => ⟨hS, key b (h.apart b hS)⟩) h2⟩, h.apart, h.pn, by rw [List.length_set]; exact h.len, h.sub, h.few, h.txt, ?_⟩
  · simp [World.setCell, Array.getElem?_modify, h.notes, ints, List.map_set]
  · intro i b hi hb x hx hx0
    by_cases he : i * (s.size + 1) + b = k * (s.size + 1) + a
    · have e1 : i = k := by
        have h3 : (i * (s.size + 1) + b) / (s.size + 1) = i := by rw [Nat.mul_comm, Nat.mul_add_div (by omega), Nat.div_eq_of_lt (by omega)]; omega
        have h4 : (k * (s.size + 1) + a) / (s.size + 1) = k := by rw [Nat.mul_comm, Nat.mul_add_div (by omega), Nat.div_eq_of_lt (by omega)]; omega
        rw [← h3, he, h4]
      subst e1
      have e2 : b = a := by omega
      subst e2
      have hl : i * (s.size + 1) + b < N.length := by
        rw [h.len]
        have := Nat.mul_le_mul_right (s.size + 1) (Nat.succ_le_of_lt hi)
        rw [Nat.succ_mul] at this
        omega
      rw [List.getElem?_set_self hl] at hx
      injection hx with hx
      exact ⟨F, by rw [hr]; congr 1; omega⟩
    · rw [List.getElem?_set_ne (fun e => he e.symm)] at hx
      exact h.right i b hi hb x hx hx0
end

section
variable {S : Nat → Prop} {p nb : Nat} {tv : Value} {T : List Tm} {s : ByteArray}

theorem note_lt {T : List Tm} {s : ByteArray} {N : List Int} (hl : N.length = T.length * (s.size + 1)) {k a : Nat} (hk : k < T.length) (ha : a ≤ s.size) : k * (s.size + 1) + a < N.length := by
  rw [hl]
  have := Nat.mul_le_mul_right (s.size + 1) (Nat.succ_le_of_lt hk)
  rw [Nat.succ_mul] at this
  omega

theorem Mt.shape {w : World} {N : List Int} (hM : Mt w S p nb tv T s N) : ∃ ao cp, tv = .slice ao T.length cp := by
  obtain ⟨xs, hx1, _⟩ := hM.terms
  rcases hx1.2 with ⟨e, hz⟩ | ⟨_, _, _, e, _⟩
  · exact ⟨none, 0, by rw [e, hz]⟩
  · exact ⟨_, _, e⟩

set_option maxRecDepth 4000 in
set_option maxHeartbeats 1000000 in
theorem note_no (w : World) (N : List Int) (i a : Int) (hM : Mt w S p nb tv T s N) (h : i < 0 ∨ (T.length : Int) ≤ i) :
    Calls Tryz.prog 32 #[.pointer (some ⟨p, 0, none⟩), .int .i64 i, .int .i64 a] w fun e w' => e = .returned (.int .i64 (-1)) ∧ w' = w := by
  have hsub := hM.sub
  have hfew := hM.few
  obtain ⟨c0, c1, c2, hlt⟩ := hM.cells
  obtain ⟨ao, cp, rfl⟩ := hM.shape
  clear hM
  rcases h with h | h
  · go_enter Tryz.func32, Tryz.ntmps32
    go_wp2
    go_ret
    exact ⟨rfl, rfl⟩
  · have h' : 0 ≤ i := by omega
    go_enter Tryz.func32, Tryz.ntmps32
    go_wp2
    go_ret
    exact ⟨rfl, rfl⟩

set_option maxRecDepth 4000 in
set_option maxHeartbeats 1000000 in
theorem note_yes (w : World) (N : List Int) (k b q : Nat) (hM : Mt w S p nb tv T s N) (hk : k < T.length) (hb : b ≤ s.size) (hq : q = k * (s.size + 1)) :
    Calls Tryz.prog 32 #[.pointer (some ⟨p, 0, none⟩), .int .i64 k, .int .i64 b] w fun e w' => e = .returned (.int .i64 ((q : Int) + b)) ∧ w' = w := by
  have hsub := hM.sub
  have hfew := hM.few
  obtain ⟨c0, c1, c2, hlt⟩ := hM.cells
  obtain ⟨ao, cp, rfl⟩ := hM.shape
  have hqI : (k : Int) * ((s.size : Int) + 1) = q := by rw [hq]; simp
  have hqb : q ≤ 6200000 := by
    rw [hq]
    have := Nat.mul_le_mul (show k ≤ 100000 by omega) (show s.size + 1 ≤ 61 by omega)
    omega
  have hkI : (k : Int) < T.length := by omega
  have hbI : (b : Int) ≤ s.size := by omega
  clear hM hq
  go_enter Tryz.func32, Tryz.ntmps32
  go_wp2
  go_ret
  exact ⟨ret_int (by omega), rfl⟩

set_option maxRecDepth 4000 in
set_option maxHeartbeats 4000000 in
theorem match_any (F : Nat) (hm : SaidX S p nb tv T s (matchN T s F)) : SaidX S p nb tv T s (matchN T s (F + 1)) := by
  intro w N i a r hM h0 h1 hr
  have hsub := hM.sub
  have hfew := hM.few
  obtain ⟨c0, c1, c2, hlt⟩ := hM.cells
  have hr0 := hr
  rw [matchN] at hr
  by_cases hi0 : i < 0 ∨ (T.length : Int) ≤ i
  · rw [if_pos (by omega)] at hr
    injection hr with hr
    subst hr
    have HM := hide hM
    have HN := hide (note_no w N i a hM hi0)
    clear hM hm hr0 hi0
    go_enter Tryz.func20, Tryz.ntmps20
    go_wp2_with fail
    go_at_call 32
    refine (unhide HN).mono ?_
    rintro e w2 ⟨rfl, hw⟩
    replace hw := hw.symm
    subst hw
    go_wp2
    go_ret
    exact ⟨N, rfl, unhide HM, But.refl _ _⟩
  rw [if_neg (by omega)] at hr
  obtain ⟨k, rfl⟩ : ∃ k : Nat, i = k := ⟨i.toNat, by omega⟩
  obtain ⟨b, rfl⟩ : ∃ b : Nat, a = b := ⟨a.toNat, by omega⟩
  have hk : k < T.length := by omega
  have hb : b ≤ s.size := by omega
  rw [Int.toNat_natCast, List.getElem?_eq_getElem hk] at hr
  dsimp only at hr
  obtain ⟨g, cp, ao, n', cp', hsh, hcp, hg, hkid, t0, t1, t2⟩ := hM.term k hk
  have hnl := note_lt hM.len hk hb
  have htx := hM.txt T[k] (List.getElem_mem hk)
  have hok := matchN_ok T s (F + 1) k b r hr0 (by omega) (by omega)
  obtain ⟨q, hq⟩ : ∃ q : Nat, q = k * (s.size + 1) := ⟨_, rfl⟩
  have hqI : (k : Int) * ((s.size : Int) + 1) = q := by rw [hq]; simp
  have hqb : q ≤ 6200000 := by
    rw [hq]
    have := Nat.mul_le_mul (show k ≤ 100000 by omega) (show s.size + 1 ≤ 61 by omega)
    omega
  have hnl2 : q + b < N.length := by rw [hq]; exact hnl
  have hright : ∀ x, N[q + b]? = some x → x ≠ 0 → ∃ F, matchN T s F k b = some (x - 2) := by rw [hq]; exact hM.right k b hk hb
  obtain ⟨v0, vf, hnb⟩ := hM.note _ hnl2
  generalize hx : N[q + b]'hnl2 = x at v0
  have hr3 : r ≤ 60 := by unfold Ok at hok; omega
  have hr4 : -1 ≤ r := by unfold Ok at hok; omega
  clear hok
  subst hsh
  have hnlI : ((q : Int) + b) < N.length := by omega
  have hkI : (k : Int) < T.length := by omega
  have hNl : N.length ≤ 6200000 := by
    rw [hM.len]
    have := Nat.mul_le_mul (show T.length ≤ 100000 by omega) (show s.size + 1 ≤ 61 by omega)
    omega
  have Hq := hide hq
  clear hq
  by_cases hx0 : x = 0
  · subst hx0
    have HC := hide (run_any hm (matchN_ok T s F) w N T[k] ao n' cp' b r hM hkid (by omega) (by omega) htx hr)
    have HR0 := hide hr0
    generalize T[k] = t at *
    have HN := hide (note_yes w N k b q hM hk hb (unhide Hq))
    clear hr hr0 hright hkid hm htx hM hi0 hx
    go_enter Tryz.func20, Tryz.ntmps20
    go_wp2_with fail
    go_at_call 32
    refine (unhide HN).mono ?_
    rintro e w1 ⟨rfl, hw⟩
    replace hw := hw.symm
    subst hw
    go_wp2_with fail
    go_at_call 33
    refine (unhide HC).mono ?_
    rintro e w2 ⟨N2, rfl, hM2, hB2⟩
    obtain ⟨d0, d1, d2, hlt2⟩ := hM2.cells
    have hnl3 : q + b < N2.length := by rw [unhide Hq]; exact note_lt hM2.len hk hb
    obtain ⟨y0, yf, hnb2⟩ := hM2.note _ hnl3
    have hnlI3 : ((q : Int) + b) < N2.length := by omega
    have HM3 := hM2.set hk hb (unhide HR0)
    rw [← unhide Hq] at HM3
    have HM3 := hide HM3
    have HB2 := hide hB2
    have hpn := hM2.pn
    clear hM2 hB2 c0 c1 c2 v0 vf t0 t1 t2
    go_wp2
    go_ret
    refine ⟨_, ret_int (by omega), unhide HM3, (unhide HB2).setCell (.inl rfl) _⟩
  · obtain ⟨F', hF'⟩ := hright x (by rw [List.getElem?_eq_getElem hnl2, hx]) hx0
    have hdet := matchN_det T s hF' hr0
    have b1 : (x == 0) = false := by simpa using hx0
    have HM := hide hM
    have Hdet := hide hdet
    have hx1 : x ≤ 62 := by omega
    have hx2 : 1 ≤ x := by omega
    have HN := hide (note_yes w N k b q hM hk hb (unhide Hq))
    clear hM hm hr hr0 hright hF' hx0 hkid hdet hi0 hx
    go_enter Tryz.func20, Tryz.ntmps20
    go_wp2_with fail
    go_at_call 32
    refine (unhide HN).mono ?_
    rintro e w1 ⟨rfl, hw⟩
    replace hw := hw.symm
    subst hw
    go_wp2
    go_ret
    exact ⟨N, ret_int (by have := unhide Hdet; omega), unhide HM, But.refl _ _⟩
theorem match_all (F : Nat) : SaidX S p nb tv T s (matchN T s F) := by
  induction F with
  | zero => intro w N i a r _ _ _ h; cases h
  | succ F ih => exact match_any F ih
end
end Go.Proofs.YtbojcemamhiodabGreatDoor
