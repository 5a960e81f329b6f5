import Derived.Test.YtbojcemamhiodabGreatDoorCx7
namespace Go.Proofs.YtbojcemamhiodabGreatDoor
open Go.RowKit

theorem made_ints (q : Nat) : madeCells #[.int .i64 0] q = (ints (List.replicate q 0)).toArray := by
  apply Array.ext_getElem?
  intro i
  by_cases h : i < q
  · simp [madeCells, ints, h, Nat.mod_one]
  · simp [madeCells, ints, h]

theorem Mt.start {w : World} {S : Nat → Prop} {G : Nat} {nv tv : Value} {nms : List ByteArray} {T : List Tm} {s : ByteArray} (hg : Gm w S G nv tv nms T) (hs : s.size ≤ 60) (hf : T.length ≤ 100000) (ht : ∀ t ∈ T, t.text.size ≤ 400) (q : Nat) (hq : q = T.length * (s.size + 1)) :
    Mt ((w.alloc (.cells (madeCells #[.int .i64 0] q) 3)).alloc (.cells #[tv, .string s, .slice (some ⟨w.heap.size, 0, none⟩) q q] 56)) (fun b => S b ∧ b < w.heap.size) (w.heap.size + 1) w.heap.size tv T s (List.replicate q 0) := by
  have hb : Below w.heap.size w ((w.alloc (.cells (madeCells #[.int .i64 0] q) 3)).alloc (.cells #[tv, .string s, .slice (some ⟨w.heap.size, 0, none⟩) q q] 56)) := ((Below.refl _ _).alloc (Nat.le_refl _) _).alloc (by simp) _
  obtain ⟨xs, h1, h2⟩ := hg.terms
  have hp := heap_alloc_new (w.alloc (.cells (madeCells #[.int .i64 0] q) 3)) (.cells #[tv, .string s, .slice (some ⟨w.heap.size, 0, none⟩) q q] 56)
  rw [show (w.alloc (.cells (madeCells #[.int .i64 0] q) 3)).heap.size = w.heap.size + 1 from by simp] at hp
  refine ⟨by rw [List.length_replicate]; exact hp, ?_, ⟨xs, h1.turn fun b hS hz => ⟨⟨hS, hz⟩, hb.block b hz⟩, CellsT.imp (fun _ _ k => RowIn.turn k fun b hS hz => ⟨⟨hS, hz⟩, hb.block b hz⟩) h2⟩, fun b hb' => by omega, by omega, by rw [List.length_replicate, hq], hs, hf, ht, ?_⟩
  · rw [← made_ints]
    exact heap_old (heap_alloc_new w _)
  · intro i a _ _ x hx hx0
    rw [List.getElem?_replicate] at hx
    split at hx
    · injection hx with hx
      exact absurd hx.symm hx0
    · cases hx

theorem Mt.start2 {w : World} {S : Nat → Prop} {G : Nat} {nv tv : Value} {nms : List ByteArray} {T : List Tm} {s : ByteArray} (hg : Gm w S G nv tv nms T) (hs : s.size ≤ 60) (hf : T.length ≤ 100000) (ht : ∀ t ∈ T, t.text.size ≤ 400) (q : Nat) (hq : q = T.length * (s.size + 1)) :
    Mt ((w.alloc (.cells #[tv, .string s, .slice (some ⟨w.heap.size + 1, 0, none⟩) q q] 56)).alloc (.cells (madeCells #[.int .i64 0] q) 3)) (fun b => S b ∧ b < w.heap.size) w.heap.size (w.heap.size + 1) tv T s (List.replicate q 0) := by
  have hb : Below w.heap.size w ((w.alloc (.cells #[tv, .string s, .slice (some ⟨w.heap.size + 1, 0, none⟩) q q] 56)).alloc (.cells (madeCells #[.int .i64 0] q) 3)) := ((Below.refl _ _).alloc (Nat.le_refl _) _).alloc (by simp) _
  obtain ⟨xs, h1, h2⟩ := hg.terms
  have hp := heap_alloc_new (w.alloc (.cells #[tv, .string s, .slice (some ⟨w.heap.size + 1, 0, none⟩) q q] 56)) (.cells (madeCells #[.int .i64 0] q) 3)
  rw [show (w.alloc (.cells #[tv, .string s, .slice (some ⟨w.heap.size + 1, 0, none⟩) q q] 56)).heap.size = w.heap.size + 1 from by simp] at hp
  refine ⟨by rw [List.length_replicate]; exact heap_old (heap_alloc_new w _), ?_, ⟨xs, h1.turn fun b hS hz => ⟨⟨hS, hz⟩, hb.block b hz⟩, CellsT.imp (fun _ _ k => RowIn.turn k fun b hS hz => ⟨⟨hS, hz⟩, hb.block b hz⟩) h2⟩, fun b hb' => by omega, by omega, by rw [List.length_replicate, hq], hs, hf, ht, ?_⟩
  · rw [← made_ints]
    exact hp
  · intro i a _ _ x hx hx0
    rw [List.getElem?_replicate] at hx
    split at hx
    · injection hx with hx
      exact absurd hx.symm hx0
    · cases hx

/-- what Match leaves: nothing of the old has turned -/
def OutG (w : World) (r : Int) (c : ByteArray) (ok : Bool) (err : Int) (e : Ending) (w' : World) : Prop := e = .returned (.tuple #[.int .i64 r, .string c, .bool ok, .int .i64 err]) ∧ Below w.heap.size w w'

set_option maxRecDepth 4000 in
set_option maxHeartbeats 4000000 in
theorem Match_long (w : World) (P : Value) (s : ByteArray) (a : Int) (hs : 60 < s.size) (hs2 : s.size ≤ 4611686018427387904) : Calls Tryz.prog 9 #[P, .string s, .int .i64 a] w (OutG w 0 ⟨#[]⟩ false 1) := by
  go_enter Tryz.func9, Tryz.ntmps9
  go_wp2
  refine bodyPost_ret (v := .tuple #[.int .i64 0, .string ⟨#[]⟩, .bool false, .int .i64 1]) (by simp [results, Tryz.results9, go_sem]) rfl ⟨rfl, Below.refl _ _⟩

set_option maxRecDepth 4000 in
set_option maxHeartbeats 4000000 in
theorem Match_arg (w : World) (P : Value) (s : ByteArray) (a : Int) (hs : s.size ≤ 60) (ha : a < 0 ∨ (s.size : Int) < a) : Calls Tryz.prog 9 #[P, .string s, .int .i64 a] w (OutG w 0 ⟨#[]⟩ false 9) := by
  rcases ha with ha | ha
  all_goals
    go_enter Tryz.func9, Tryz.ntmps9
    go_wp2
    refine bodyPost_ret (v := .tuple #[.int .i64 0, .string ⟨#[]⟩, .bool false, .int .i64 9]) (by simp [results, Tryz.results9, go_sem]) rfl ⟨rfl, Below.refl _ _⟩

set_option maxRecDepth 4000 in
set_option maxHeartbeats 4000000 in
theorem Match_any (w : World) (S : Nat → Prop) (G : Nat) (nv tv : Value) (nms : List ByteArray) (T : List Tm) (s : ByteArray) (a r : Int) (F : Nat) (hg : Gm w S G nv tv nms T) (hs : s.size ≤ 60) (hf : T.length ≤ 100000) (ht : ∀ t ∈ T, t.text.size ≤ 400) (h0 : 0 ≤ a) (h1 : a ≤ s.size) (hr : matchN T s F 0 a = some r) (r0 : Int) (cs : ByteArray) (ok : Bool) (hc : (r = -1 ∧ r0 = 0 ∧ cs = ⟨#[]⟩ ∧ ok = false) ∨ (r ≠ -1 ∧ r0 = r ∧ ok = true ∧ ∃ l Fc, catN T s (matchN T s F) Fc 0 a = some l ∧ (wrL l).length ≤ 70368744177664 ∧ cs = ⟨(wrL l).toArray⟩)) :
    Calls Tryz.prog 9 #[.pointer (some ⟨G, 0, none⟩), .string s, .int .i64 a] w (OutG w r0 cs ok 0) := by
  obtain ⟨q, hq⟩ : ∃ q : Nat, q = T.length * (s.size + 1) := ⟨_, rfl⟩
  have hqI : (T.length : Int) * ((s.size : Int) + 1) = q := by rw [hq]; simp
  have hqb : q ≤ 6200000 := by
    rw [hq]
    have := Nat.mul_le_mul hf (show s.size + 1 ≤ 61 by omega)
    omega
  obtain ⟨ao, cp, hsh⟩ : ∃ ao cp, tv = .slice ao T.length cp := by
    obtain ⟨xs, hx1, _⟩ := hg.terms
    rcases hx1.2 with ⟨e, hz⟩ | ⟨_, _, _, e, _⟩
    · exact ⟨none, 0, by rw [e, hz]⟩
    · exact ⟨_, _, e⟩
  subst hsh
  have hok := matchN_ok T s F 0 a r hr h0 h1
  have hmk := run_make_row' (P := Tryz.prog) 54 3 (.int .i64 0) 8 Tryz.underlying54 infoInt rfl .i64 .i64 q (by omega) (by omega)
  have hst := Mt.start hg hs hf ht q hq
  have hG : G < w.heap.size := (Array.getElem?_eq_some_iff.1 hg.cell).1
  have c1 : w.cell? ⟨G, 1, none⟩ = some (.slice ao T.length cp) := by simp [World.cell?, hg.cell]
  have HST := hide hst
  have HST2 := hide (Mt.start2 hg hs hf ht q hq)
  have HR := hide hr
  have hr3 : r ≤ 60 := by unfold Ok at hok; omega
  have hr4 : -1 ≤ r := by unfold Ok at hok; omega
  have HCC := hide hc
  have hw1 : IntKind.i64.wrap ((s.size : Int) + 1) = (s.size : Int) + 1 := by rw [IntKind.wrap_i64]; omega
  have hw2 : IntKind.i64.wrap (q : Int) = q := by rw [IntKind.wrap_i64]; omega
  clear hst hr hg hq ht hok hc
  go_enter Tryz.func9, Tryz.ntmps9
  go_wp2_with fail
  go_region_held3 (fun w' => w'.cell? ⟨G, 1, none⟩ = some (.slice ao T.length cp)) (go_keep) (fail)
  · go_wp2_with fail
    go_at_call 20
    refine (match_all F _ _ _ _ _ ((unhide HST).below (Below.refl _ _).drew) h0 h1 (unhide HR)).mono ?_
    rintro e w2 ⟨N2, rfl, hM2, hB2⟩
    have HB := hide (show Below w.heap.size w w2 from (((Below.refl _ _).alloc (Nat.le_refl _) _).alloc (by simp) _).drew.trans (but_below hB2 (by omega) (by simp; omega)))
    have HM2 := hide hM2
    have hz2 := hB2.size
    simp at hz2
    clear hM2 hB2
    rcases unhide HCC with ⟨e1, e2, e4, e3⟩ | ⟨e1, e2, e3, l, Fc, hl, hbl, e4⟩
    · subst e1
      subst e2
      subst e3
      subst e4
      go_wp2
      refine bodyPost_ret (v := .tuple #[.int .i64 0, .string ⟨#[]⟩, .bool false, .int .i64 0]) (by simp [results, Tryz.results9, go_sem]) rfl ⟨rfl, unhide HB⟩
    · have b1 : (r == -1) = false := by simpa using e1
      subst e2
      subst e3
      have HK := hide (caught_any (unhide HM2) (fun b hb => by have := hb.2; omega) F Fc 0 a r0 l h0 h1 (unhide HR) e1 hl hbl)
      rw [← e4] at HK
      clear e1 hl hbl e4
      go_wp2_with fail
      go_at_call 21
      refine (unhide HK).mono ?_
      rintro e w3 ⟨rfl, hB3⟩
      have HB3 := hide ((unhide HB).trans (but_below hB3 (by omega) (by omega)))
      clear hB3
      go_wp2
      refine bodyPost_ret (v := .tuple #[.int .i64 r0, .string cs, .bool true, .int .i64 0]) (by simp [results, Tryz.results9, go_sem]) rfl ⟨rfl, unhide HB3⟩
  · go_wp2_with fail
    go_at_call 20
    refine (match_all F _ _ _ _ _ ((unhide HST2).below (Below.refl _ _).drew) h0 h1 (unhide HR)).mono ?_
    rintro e w2 ⟨N2, rfl, hM2, hB2⟩
    have HB := hide (show Below w.heap.size w w2 from (((Below.refl _ _).alloc (Nat.le_refl _) _).alloc (by simp) _).drew.trans (but_below hB2 (by omega) (by simp; omega)))
    have HM2 := hide hM2
    have hz2 := hB2.size
    simp at hz2
    clear hM2 hB2
    rcases unhide HCC with ⟨e1, e2, e4, e3⟩ | ⟨e1, e2, e3, l, Fc, hl, hbl, e4⟩
    · subst e1
      subst e2
      subst e3
      subst e4
      go_wp2
      refine bodyPost_ret (v := .tuple #[.int .i64 0, .string ⟨#[]⟩, .bool false, .int .i64 0]) (by simp [results, Tryz.results9, go_sem]) rfl ⟨rfl, unhide HB⟩
    · have b1 : (r == -1) = false := by simpa using e1
      subst e2
      subst e3
      have HK := hide (caught_any (unhide HM2) (fun b hb => by have := hb.2; omega) F Fc 0 a r0 l h0 h1 (unhide HR) e1 hl hbl)
      rw [← e4] at HK
      clear e1 hl hbl e4
      go_wp2_with fail
      go_at_call 21
      refine (unhide HK).mono ?_
      rintro e w3 ⟨rfl, hB3⟩
      have HB3 := hide ((unhide HB).trans (but_below hB3 (by omega) (by omega)))
      clear hB3
      go_wp2
      refine bodyPost_ret (v := .tuple #[.int .i64 r0, .string cs, .bool true, .int .i64 0]) (by simp [results, Tryz.results9, go_sem]) rfl ⟨rfl, unhide HB3⟩
end Go.Proofs.YtbojcemamhiodabGreatDoor
