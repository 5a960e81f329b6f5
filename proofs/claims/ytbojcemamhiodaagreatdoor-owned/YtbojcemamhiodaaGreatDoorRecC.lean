import Derived.Test.YtbojcemamhiodaaGreatDoorRecB
namespace Go.Proofs.YtbojcemamhiodaaGreatDoor
open Go.RowKit

set_option maxHeartbeats 2000000 in
theorem single_any (w : World) (q : Nat) (s : ByteArray) (t : Tk) (d : Int) (E : Tk → Int → Res) (hs : s.size ≤ 400) (ht : TkOk s t) (hp : Ps w q s t d) (hd : 0 ≤ d) (hd' : d ≤ 12)
    (hF : d < 12 → FineE s E (d + 1)) (hE : d < 12 → SaidE s q E (d + 1)) :
    Calls Tryz.prog 157 #[.pointer (some ⟨q, 0, none⟩)] w (Out s q w (singleF s E t d)) := by
  have hlt := hp.lt
  have hne : w.heap.size ≠ q := by omega
  have hne1 : w.heap.size + 1 ≠ q := by omega
  have hn := ht.next
  obtain ⟨c0, c1, c2, c3, c4⟩ := hp.cells
  by_cases h13 : t.k = 13
  · have HR : Hid (singleF s E t d = bracketsF s E t d) := if_pos h13
    have b13 : (t.k == 13) = true := by simp [h13]
    have Hb := hide (fun w' (hp' : Ps w' q s t d) => brackets_any w' q s t d E hs ht hp' hd hd' hF hE)
    clear hF hE h13
    go_enter Tryz.func157, Tryz.ntmps157
    go_wp2_with fail
    go_at_call 160
    refine (unhide Hb _ ((hp.alloc _).alloc _)).mono ?_
    generalize bracketsF s E t d = r at HR ⊢
    rintro e w1 ⟨ao, nk, cp, rfl, hk1, hp1, hb1⟩
    have hN1 := hide (hb1.keep (heap_old (heap_alloc_new w _)) hne)
    obtain ⟨r0, r1, r2, r3, rf, hz1⟩ := four (unhide hN1)
    have hz := hb1.size
    go_wp2
    refine bodyPost_ret (v := .tuple #[.agg #[.int .i64 r.nd.kind, .int .i64 r.nd.at_, .string r.nd.text, .slice ao nk cp], .int .i64 r.err]) (by simp [results, Tryz.results157, go_sem, r0, r1, r2, r3]) rfl ?_
    rw [unhide HR]
    simp at hz
    exact ⟨ao, nk, cp, rfl, hk1.keeps ((Keeps.refl _ _).set4 (by simp; omega)) (by simp; omega), hp1.set4 hne, hb1.from_alloc.from_alloc.set4 (Nat.le_refl _)⟩
  · have b13 : (t.k == 13) = false := by simp [h13]
    by_cases h15 : t.k = 15
    · have HR : Hid (singleF s E t d = catchF s E t d) := by unfold singleF; rw [if_neg h13, if_pos h15]; rfl
      have b15 : (t.k == 15) = true := by simp [h15]
      have Hb := hide (fun w' (hp' : Ps w' q s t d) => catch_any w' q s t d E hs ht hp' hd hd' hF hE)
      clear hF hE h13 h15
      go_enter Tryz.func157, Tryz.ntmps157
      go_wp2_with fail
      go_at_call 161
      refine (unhide Hb _ ((hp.alloc _).alloc _)).mono ?_
      generalize catchF s E t d = r at HR ⊢
      rintro e w1 ⟨ao, nk, cp, rfl, hk1, hp1, hb1⟩
      have hN1 := hide (hb1.keep (heap_old (heap_alloc_new w _)) hne)
      obtain ⟨r0, r1, r2, r3, rf, hz1⟩ := four (unhide hN1)
      have hz := hb1.size
      go_wp2
      refine bodyPost_ret (v := .tuple #[.agg #[.int .i64 r.nd.kind, .int .i64 r.nd.at_, .string r.nd.text, .slice ao nk cp], .int .i64 r.err]) (by simp [results, Tryz.results157, go_sem, r0, r1, r2, r3]) rfl ?_
      rw [unhide HR]
      simp at hz
      exact ⟨ao, nk, cp, rfl, hk1.keeps ((Keeps.refl _ _).set4 (by simp; omega)) (by simp; omega), hp1.set4 hne, hb1.from_alloc.from_alloc.set4 (Nat.le_refl _)⟩
    · have b15 : (t.k == 15) = false := by simp [h15]
      have HR : Hid (singleF s E t d = ⟨0, leafF s t, nextT s t.to, d⟩) := by unfold singleF; rw [if_neg h13, if_neg h15]; rfl
      clear hF hE h13 h15
      by_cases h2 : t.k = 2
      · have b2 : (t.k == 2) = true := by simp [h2]
        have HL : Hid (leafF s t = ⟨2, t.from_, t.of s, []⟩) := if_pos h2
        clear h2
        go_enter Tryz.func157, Tryz.ntmps157
        go_wp2_with fail
        go_at_call 118
        refine (step_any _ _ _ _ _ hs (by have := ht.from0; have := ht.le; omega) ht.size ((hp.alloc _).alloc _)).mono ?_
        rintro e w1 ⟨rfl, hp1, hb1⟩
        have hN1 := hide (hb1.keep (heap_old (heap_alloc_new w _)) hne)
        have hT1 := hide (hb1.keep (heap_alloc_new _ _) (by simpa using hne1))
        obtain ⟨r0, r1, r2, r3, rf, hz1⟩ := four (unhide hN1)
        obtain ⟨t0, t1, t2, hzt⟩ := three (unhide hT1)
        simp at t0 t1 t2 hzt
        obtain ⟨d0, d1, d2, d3, d4⟩ := hp1.cells
        have hlt1 := hp1.lt
        clear c0 c1 c2 c3 c4
        go_wp2_with fail
        go_region_held3 (fun w' => w'.cell? ⟨w.heap.size + 1, 0, none⟩ = some (.int .i64 t.k) ∧ w'.cell? ⟨w.heap.size + 1, 1, none⟩ = some (.int .i64 t.from_) ∧ w'.cell? ⟨w.heap.size + 1, 2, none⟩ = some (.int .i64 t.to) ∧ w'.cell? ⟨q, 0, none⟩ = some (.string s)) (go_keep)
          (first | (go_at_call 83; refine (of_any _ _ _ ht).mono ?_; rintro e w4 ⟨rfl, hb4⟩; have hb5 := hide (below_drew hb4); clear hb4; obtain ⟨x0, x1, x2, hx⟩ := three (below_keep (unhide hb5) (unhide hT1) (Nat.le_refl _)); obtain ⟨z0, z1, z2, z3, z4⟩ := (hp1.but (unhide hb5)).cells; obtain ⟨v0, v1, v2, v3, vf, hv⟩ := four (below_keep (unhide hb5) (unhide hN1) (Nat.le_refl _)); simp at x0 x1 x2))
        go_wp2
        refine bodyPost_ret (v := .tuple #[.agg #[.int .i64 2, .int .i64 t.from_, .string (t.of s), .slice none 0 0], .int .i64 0]) (by simp [results, Tryz.results157, go_sem, v0, v1, v2, v3]) rfl ?_
        rw [unhide HR, unhide HL]
        exact ⟨none, 0, 0, rfl, Kids.nil _ _, (hp1.but (unhide hb5)).set4 hne, (hb1.from_alloc.from_alloc.below (unhide hb5) (by have := hb1.size; simp at this; omega)).set4 (Nat.le_refl _)⟩
      · have b2 : (t.k == 2) = false := by simp [h2]
        by_cases h4 : t.k = 4
        · have b4 : (t.k == 4) = true := by simp [h4]
          have HL : Hid (leafF s t = ⟨0, 0, t.bytes s, []⟩) := by unfold leafF; rw [if_neg h2, if_pos h4]; rfl
          clear h2 h4
          go_enter Tryz.func157, Tryz.ntmps157
          go_wp2_with fail
          go_at_call 118
          refine (step_any _ _ _ _ _ hs (by have := ht.from0; have := ht.le; omega) ht.size ((hp.alloc _).alloc _)).mono ?_
          rintro e w1 ⟨rfl, hp1, hb1⟩
          have hN1 := hide (hb1.keep (heap_old (heap_alloc_new w _)) hne)
          have hT1 := hide (hb1.keep (heap_alloc_new _ _) (by simpa using hne1))
          obtain ⟨r0, r1, r2, r3, rf, hz1⟩ := four (unhide hN1)
          obtain ⟨t0, t1, t2, hzt⟩ := three (unhide hT1)
          simp at t0 t1 t2 hzt
          obtain ⟨d0, d1, d2, d3, d4⟩ := hp1.cells
          have hlt1 := hp1.lt
          clear c0 c1 c2 c3 c4
          go_wp2_with fail
          go_region_held3 (fun w' => w'.cell? ⟨w.heap.size + 1, 0, none⟩ = some (.int .i64 t.k) ∧ w'.cell? ⟨w.heap.size + 1, 1, none⟩ = some (.int .i64 t.from_) ∧ w'.cell? ⟨w.heap.size + 1, 2, none⟩ = some (.int .i64 t.to) ∧ w'.cell? ⟨q, 0, none⟩ = some (.string s)) (go_keep)
            (first | (go_at_call 162; refine (bytes_any _ _ _ hs ht).mono ?_; rintro e w4 ⟨rfl, hb4⟩; have hb5 := hide (below_drew hb4); clear hb4; obtain ⟨x0, x1, x2, hx⟩ := three (below_keep (unhide hb5) (unhide hT1) (Nat.le_refl _)); obtain ⟨z0, z1, z2, z3, z4⟩ := (hp1.but (unhide hb5)).cells; obtain ⟨v0, v1, v2, v3, vf, hv⟩ := four (below_keep (unhide hb5) (unhide hN1) (Nat.le_refl _)); simp at x0 x1 x2))
          go_wp2
          refine bodyPost_ret (v := .tuple #[.agg #[.int .i64 0, .int .i64 0, .string (t.bytes s), .slice none 0 0], .int .i64 0]) (by simp [results, Tryz.results157, go_sem, v0, v1, v2, v3]) rfl ?_
          rw [unhide HR, unhide HL]
          exact ⟨none, 0, 0, rfl, Kids.nil _ _, (hp1.but (unhide hb5)).set4 hne, (hb1.from_alloc.from_alloc.below (unhide hb5) (by have := hb1.size; simp at this; omega)).set4 (Nat.le_refl _)⟩
        · have b4 : (t.k == 4) = false := by simp [h4]
          have HL : Hid (leafF s t = ⟨1, 0, t.bytes s, []⟩) := by unfold leafF; rw [if_neg h2, if_neg h4]; rfl
          clear h2 h4
          go_enter Tryz.func157, Tryz.ntmps157
          go_wp2_with fail
          go_at_call 118
          refine (step_any _ _ _ _ _ hs (by have := ht.from0; have := ht.le; omega) ht.size ((hp.alloc _).alloc _)).mono ?_
          rintro e w1 ⟨rfl, hp1, hb1⟩
          have hN1 := hide (hb1.keep (heap_old (heap_alloc_new w _)) hne)
          have hT1 := hide (hb1.keep (heap_alloc_new _ _) (by simpa using hne1))
          obtain ⟨r0, r1, r2, r3, rf, hz1⟩ := four (unhide hN1)
          obtain ⟨t0, t1, t2, hzt⟩ := three (unhide hT1)
          simp at t0 t1 t2 hzt
          obtain ⟨d0, d1, d2, d3, d4⟩ := hp1.cells
          have hlt1 := hp1.lt
          clear c0 c1 c2 c3 c4
          go_wp2_with fail
          go_region_held3 (fun w' => w'.cell? ⟨w.heap.size + 1, 0, none⟩ = some (.int .i64 t.k) ∧ w'.cell? ⟨w.heap.size + 1, 1, none⟩ = some (.int .i64 t.from_) ∧ w'.cell? ⟨w.heap.size + 1, 2, none⟩ = some (.int .i64 t.to) ∧ w'.cell? ⟨q, 0, none⟩ = some (.string s)) (go_keep)
            (first | (go_at_call 162; refine (bytes_any _ _ _ hs ht).mono ?_; rintro e w4 ⟨rfl, hb4⟩; have hb5 := hide (below_drew hb4); clear hb4; obtain ⟨x0, x1, x2, hx⟩ := three (below_keep (unhide hb5) (unhide hT1) (Nat.le_refl _)); obtain ⟨z0, z1, z2, z3, z4⟩ := (hp1.but (unhide hb5)).cells; obtain ⟨v0, v1, v2, v3, vf, hv⟩ := four (below_keep (unhide hb5) (unhide hN1) (Nat.le_refl _)); simp at x0 x1 x2))
          go_wp2
          refine bodyPost_ret (v := .tuple #[.agg #[.int .i64 1, .int .i64 0, .string (t.bytes s), .slice none 0 0], .int .i64 0]) (by simp [results, Tryz.results157, go_sem, v0, v1, v2, v3]) rfl ?_
          rw [unhide HR, unhide HL]
          exact ⟨none, 0, 0, rfl, Kids.nil _ _, (hp1.but (unhide hb5)).set4 hne, (hb1.from_alloc.from_alloc.below (unhide hb5) (by have := hb1.size; simp at this; omega)).set4 (Nat.le_refl _)⟩
end Go.Proofs.YtbojcemamhiodaaGreatDoor
