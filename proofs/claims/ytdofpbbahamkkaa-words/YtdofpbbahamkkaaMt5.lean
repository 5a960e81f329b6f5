import Derived.Test.YtdofpbbahamkkaaMt4
namespace Go.Proofs.Ytdofpbbahamkkaa
open Go.RowKit

section
variable {S : Nat → Prop} {p nb : Nat} {tv : Value} {T : List Tm} {s : ByteArray} {w : World} {N : List Int}

/-- the cells of term k -/
theorem Mt.term (h : Mt w S p nb tv T s N) (k : Nat) (hk : k < T.length) : ∃ g cp ao n' cp', tv = .slice (some ⟨g, 0, none⟩) T.length cp ∧ T.length ≤ cp ∧ g < w.heap.size ∧ IntR w S (.slice ao n' cp') T[k].kids ∧
    w.cell? ⟨g, k * 3, none⟩ = some (.int .i64 T[k].kind) ∧ w.cell? ⟨g, k * 3 + 1, none⟩ = some (.string T[k].text) ∧ w.cell? ⟨g, k * 3 + 2, none⟩ = some (.slice ao n' cp') := by
  obtain ⟨xs, h1, h2⟩ := h.terms
  obtain ⟨kv, k1, k2⟩ := h2.at k T[k] (List.getElem?_eq_getElem hk)
  rcases h1.2 with ⟨_, hz⟩ | ⟨g, cap, cur, hv, hS, hh, hle, hcm, hcs, ht⟩
  · omega
  · have hsh : ∃ ao n' cp', kv = .slice ao n' cp' := by
      rcases k1.2 with ⟨e, _⟩ | ⟨_, _, _, e, _⟩
      · exact ⟨_, _, _, e⟩
      · exact ⟨_, _, _, e⟩
    obtain ⟨ao, n', cp', rfl⟩ := hsh
    have hc : ∀ j < 3, w.cell? ⟨g, k * 3 + j, none⟩ = (T[k].cs (.slice ao n' cp'))[j]? := by
      intro j hj
      rw [← k2 j hj, ← ht, List.getElem?_take, if_pos (by omega)]
      simp [World.cell?, hh]
    exact ⟨g, cap, ao, n', cp', hv, hle, (Array.getElem?_eq_some_iff.1 hh).1, k1, (hc 0 (by omega)).trans rfl, (hc 1 (by omega)).trans rfl, (hc 2 (by omega)).trans rfl⟩
theorem Mt.note (h : Mt w S p nb tv T s N) (j : Nat) (hj : j < N.length) : w.cell? ⟨nb, j, none⟩ = some (.int .i64 N[j]) ∧ w.frozen? ⟨nb, j, none⟩ = false ∧ nb < w.heap.size := by
  refine ⟨?_, ?_, (Array.getElem?_eq_some_iff.1 h.notes).1⟩
  · simp [World.cell?, h.notes, ints, hj]
  · simp [World.frozen?, h.notes]
/-- an answer is noted -/
theorem Mt.set (h : Mt w S p nb tv T s N) {k a : Nat} {F : Nat} {r : Int} (hk : k < T.length) (ha : a ≤ s.size) (hr : matchN T s F k a = some r) :
    Mt (w.setCell ⟨nb, k * (s.size + 1) + a, none⟩ (.int .i64 (r + 2))) S p nb tv T s (N.set (k * (s.size + 1) + a) (r + 2)) := by
  obtain ⟨xs, h1, h2⟩ := h.terms
  have key : ∀ b, b ≠ nb → (w.setCell ⟨nb, k * (s.size + 1) + a, none⟩ (.int .i64 (r + 2))).heap[b]? = w.heap[b]? := fun b hb => Below.heap_setCell _ _ _ _ (by simpa using hb)
  refine ⟨by rw [List.length_set]; exact (key p h.pn).trans h.cell, ?_, ⟨xs, h1.turn fun b hS _ => ⟨hS, key b (h.apart b hS)⟩, CellsT.imp (fun _ _ kk => RowIn.turn kk fun b hS _ => ⟨hS, key b (h.apart b hS)⟩) h2⟩, h.apart, h.pn, by rw [List.length_set]; exact h.len, h.sub, h.few, h.txt, ?_⟩
  · simp [World.setCell, Array.getElem?_modify, h.notes, ints, List.map_set]
  · intro i b hi hb x hx hx0
    by_cases he : i * (s.size + 1) + b = k * (s.size + 1) + a
    · have e1 : i = k := by
        have h3 : (i * (s.size + 1) + b) / (s.size + 1) = i := by rw [Nat.mul_comm, Nat.mul_add_div (by omega), Nat.div_eq_of_lt (by omega)]; omega
        have h4 : (k * (s.size + 1) + a) / (s.size + 1) = k := by rw [Nat.mul_comm, Nat.mul_add_div (by omega), Nat.div_eq_of_lt (by omega)]; omega
        rw [← h3, he, h4]
      subst e1
      have e2 : b = a := by omega
      subst e2
      have hl : i * (s.size + 1) + b < N.length := by
        rw [h.len]
        have := Nat.mul_le_mul_right (s.size + 1) (Nat.succ_le_of_lt hi)
        rw [Nat.succ_mul] at this
        omega
      rw [List.getElem?_set_self hl] at hx
      injection hx with hx
      exact ⟨F, by rw [hr]; congr 1; omega⟩
    · rw [List.getElem?_set_ne (fun e => he e.symm)] at hx
      exact h.right i b hi hb x hx hx0
end

section
variable {S : Nat → Prop} {p nb : Nat} {tv : Value} {T : List Tm} {s : ByteArray}

theorem note_lt {T : List Tm} {s : ByteArray} {N : List Int} (hl : N.length = T.length * (s.size + 1)) {k a : Nat} (hk : k < T.length) (ha : a ≤ s.size) : k * (s.size + 1) + a < N.length := by
  rw [hl]
  have := Nat.mul_le_mul_right (s.size + 1) (Nat.succ_le_of_lt hk)
  rw [Nat.succ_mul] at this
  omega

set_option maxRecDepth 4000 in
set_option maxHeartbeats 4000000 in
theorem match_any (F : Nat) (hm : SaidX S p nb tv T s (matchN T s F)) : SaidX S p nb tv T s (matchN T s (F + 1)) := by
  intro w N i a r hM h0 h1 hr
  have hsub := hM.sub
  have hfew := hM.few
  obtain ⟨c0, c1, c2, hlt⟩ := hM.cells
  have hr0 := hr
  rw [matchN] at hr
  by_cases hi0 : i < 0
  · rw [if_pos (.inl hi0)] at hr
    injection hr with hr
    subst hr
    have HM := hide hM
    clear hM hm hr0
    go_enter Try.func25, Try.ntmps25
    go_wp2
    go_ret
    exact ⟨N, rfl, unhide HM, But.refl _ _⟩
  by_cases hi1 : (T.length : Int) ≤ i
  · rw [if_pos (.inr (.inl hi1))] at hr
    injection hr with hr
    subst hr
    obtain ⟨ao, cp, hsh⟩ : ∃ ao cp, tv = .slice ao T.length cp := by
      obtain ⟨xs, hx1, _⟩ := hM.terms
      rcases hx1.2 with ⟨e, hz⟩ | ⟨_, _, _, e, _⟩
      · exact ⟨none, 0, by rw [e, hz]⟩
      · exact ⟨_, _, e⟩
    subst hsh
    have HM := hide hM
    clear hM hm hr0
    go_enter Try.func25, Try.ntmps25
    go_wp2
    go_ret
    exact ⟨N, rfl, unhide HM, But.refl _ _⟩
  rw [if_neg (by omega)] at hr
  obtain ⟨k, rfl⟩ : ∃ k : Nat, i = k := ⟨i.toNat, by omega⟩
  obtain ⟨b, rfl⟩ : ∃ b : Nat, a = b := ⟨a.toNat, by omega⟩
  have hk : k < T.length := by omega
  have hb : b ≤ s.size := by omega
  rw [Int.toNat_natCast, List.getElem?_eq_getElem hk] at hr
  dsimp only at hr
  obtain ⟨g, cp, ao, n', cp', hsh, hcp, hg, hkid, t0, t1, t2⟩ := hM.term k hk
  have hnl := note_lt hM.len hk hb
  have htx := hM.txt T[k] (List.getElem_mem hk)
  have hok := matchN_ok T s (F + 1) k b r hr0 (by omega) (by omega)
  obtain ⟨q, hq⟩ : ∃ q : Nat, q = k * (s.size + 1) := ⟨_, rfl⟩
  have hqI : (k : Int) * ((s.size : Int) + 1) = q := by rw [hq]; simp
  have hqb : q ≤ 6200000 := by
    rw [hq]
    have := Nat.mul_le_mul (show k ≤ 100000 by omega) (show s.size + 1 ≤ 61 by omega)
    omega
  have hnl2 : q + b < N.length := by rw [hq]; exact hnl
  have hright : ∀ x, N[q + b]? = some x → x ≠ 0 → ∃ F, matchN T s F k b = some (x - 2) := by rw [hq]; exact hM.right k b hk hb
  obtain ⟨v0, vf, hnb⟩ := hM.note _ hnl2
  generalize hx : N[q + b]'hnl2 = x at v0
  have hr3 : r ≤ 60 := by unfold Ok at hok; omega
  have hr4 : -1 ≤ r := by unfold Ok at hok; omega
  clear hok
  subst hsh
  have hnlI : ((q : Int) + b) < N.length := by omega
  have hkI : (k : Int) < T.length := by omega
  have hNl : N.length ≤ 6200000 := by
    rw [hM.len]
    have := Nat.mul_le_mul (show T.length ≤ 100000 by omega) (show s.size + 1 ≤ 61 by omega)
    omega
  have Hq := hide hq
  clear hq
  by_cases hx0 : x = 0
  · subst hx0
    have HC := hide (run_any hm (matchN_ok T s F) w N T[k] ao n' cp' b r hM hkid (by omega) (by omega) htx hr)
    have HR0 := hide hr0
    generalize T[k] = t at *
    clear hr hr0 hright hkid hm htx hM hi0 hi1 hx
    go_enter Try.func25, Try.ntmps25
    go_wp2_with fail
    go_at_call 42
    refine (unhide HC).mono ?_
    rintro e w2 ⟨N2, rfl, hM2, hB2⟩
    obtain ⟨d0, d1, d2, hlt2⟩ := hM2.cells
    have hnl3 : q + b < N2.length := by rw [unhide Hq]; exact note_lt hM2.len hk hb
    obtain ⟨y0, yf, hnb2⟩ := hM2.note _ hnl3
    have hnlI3 : ((q : Int) + b) < N2.length := by omega
    have HM3 := hM2.set hk hb (unhide HR0)
    rw [← unhide Hq] at HM3
    have HM3 := hide HM3
    have HB2 := hide hB2
    have hpn := hM2.pn
    clear hM2 hB2 c0 c1 c2 v0 vf t0 t1 t2
    go_wp2
    go_ret
    refine ⟨_, ret_int (by omega), unhide HM3, (unhide HB2).setCell (.inl rfl) _⟩
  · obtain ⟨F', hF'⟩ := hright x (by rw [List.getElem?_eq_getElem hnl2, hx]) hx0
    have hdet := matchN_det T s hF' hr0
    have b1 : (x == 0) = false := by simpa using hx0
    have HM := hide hM
    have Hdet := hide hdet
    have hx1 : x ≤ 62 := by omega
    have hx2 : 1 ≤ x := by omega
    clear hM hm hr hr0 hright hF' hx0 hkid hdet hi0 hi1 hx
    go_enter Try.func25, Try.ntmps25
    go_wp2
    go_ret
    exact ⟨N, ret_int (by have := unhide Hdet; omega), unhide HM, But.refl _ _⟩
theorem match_all (F : Nat) : SaidX S p nb tv T s (matchN T s F) := by
  induction F with
  | zero => intro w N i a r _ _ _ h; cases h
  | succ F ih => exact match_any F ih
end
end Go.Proofs.Ytdofpbbahamkkaa
