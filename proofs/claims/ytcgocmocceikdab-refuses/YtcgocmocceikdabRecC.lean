import Derived.Test.YtcgocmocceikdabRecB
namespace Go.Proofs.Ytcgocmocceikdab
open Go.RowKit

set_option maxHeartbeats 1000000 in
theorem of_any (w : World) (s : ByteArray) (t : Tk) (ht : TkOk s t) :
    Calls Try.prog 23 #[.agg #[.int .i64 t.k, .int .i64 t.from_, .int .i64 t.to], .string s] w fun e w' => e = .returned (.string (t.of s)) ∧ Below w.heap.size w w' := by
  have h1 := ht.from0
  have h2 := ht.le
  have h3 := ht.size
  go_enter Try.func23, Try.ntmps23
  go_wp2
  go_ret
  exact ⟨rfl, (Below.refl _ _).alloc (Nat.le_refl _) _⟩

theorem three {w : World} {N : Nat} {a b c : Value} (h : w.heap[N]? = some (.cells #[a, b, c] 45)) :
    w.cell? ⟨N, 0, none⟩ = some a ∧ w.cell? ⟨N, 1, none⟩ = some b ∧ w.cell? ⟨N, 2, none⟩ = some c ∧ N < w.heap.size := by
  refine ⟨?_, ?_, ?_, (Array.getElem?_eq_some_iff.1 h).1⟩
  all_goals simp [World.cell?, h]

set_option maxHeartbeats 2000000 in
theorem single_any (w : World) (q : Nat) (s : ByteArray) (t : Tk) (d : Int) (E : Tk → Int → Res) (hs : s.size ≤ 400) (ht : TkOk s t) (hp : Ps w q s t d) (hd : 0 ≤ d) (hd' : d ≤ 12)
    (hF : d < 12 → FineE s E (d + 1)) (hE : d < 12 → SaidE s q E (d + 1)) :
    Calls Try.prog 53 #[.pointer (some ⟨q, 0, none⟩)] w (Out s q w (singleF s E t d)) := by
  have hlt := hp.lt
  have hne : w.heap.size ≠ q := by omega
  have hne1 : w.heap.size + 1 ≠ q := by omega
  have hn := ht.next
  obtain ⟨c0, c1, c2, c3, c4⟩ := hp.cells
  by_cases h13 : t.k = 13
  · have HR : Hid (singleF s E t d = bracketsF s E t d) := if_pos h13
    have b13 : (t.k == 13) = true := by simp [h13]
    have Hb := hide (fun w' (hp' : Ps w' q s t d) => brackets_any w' q s t d E hs ht hp' hd hd' hF hE)
    clear hF hE h13
    go_enter Try.func53, Try.ntmps53
    go_wp2_with fail
    go_at_call 56
    refine (unhide Hb _ ((hp.alloc _).alloc _)).mono ?_
    generalize bracketsF s E t d = r at HR ⊢
    rintro e w1 ⟨ao, nk, cp, rfl, hk1, hp1, hb1⟩
    have hN1 := hide (hb1.keep (heap_old (heap_alloc_new w _)) hne)
    obtain ⟨r0, r1, r2, r3, r4, rf, hz1⟩ := five (unhide hN1)
    have hz := hb1.size
    go_wp2
    refine bodyPost_ret (v := .tuple #[.agg #[.int .i64 r.nd.kind, .int .i64 r.nd.at_, .string r.nd.name, .bool r.nd.empty, .slice ao nk cp], .int .i64 r.err]) (by simp [results, Try.results53, go_sem, r0, r1, r2, r3, r4]) rfl ?_
    rw [unhide HR]
    simp at hz
    exact ⟨ao, nk, cp, rfl, hk1.keeps ((Keeps.refl _ _).set5 (by simp; omega)) (by simp; omega), hp1.set5 hne, hb1.from_alloc.from_alloc.set5 (Nat.le_refl _)⟩
  · have b13 : (t.k == 13) = false := by simp [h13]
    by_cases h15 : t.k = 15
    · have HR : Hid (singleF s E t d = catchF s E t d) := by unfold singleF; rw [if_neg h13, if_pos h15]; rfl
      have b15 : (t.k == 15) = true := by simp [h15]
      have Hb := hide (fun w' (hp' : Ps w' q s t d) => catch_any w' q s t d E hs ht hp' hd hd' hF hE)
      clear hF hE h13 h15
      go_enter Try.func53, Try.ntmps53
      go_wp2_with fail
      go_at_call 57
      refine (unhide Hb _ ((hp.alloc _).alloc _)).mono ?_
      generalize catchF s E t d = r at HR ⊢
      rintro e w1 ⟨ao, nk, cp, rfl, hk1, hp1, hb1⟩
      have hN1 := hide (hb1.keep (heap_old (heap_alloc_new w _)) hne)
      obtain ⟨r0, r1, r2, r3, r4, rf, hz1⟩ := five (unhide hN1)
      have hz := hb1.size
      go_wp2
      refine bodyPost_ret (v := .tuple #[.agg #[.int .i64 r.nd.kind, .int .i64 r.nd.at_, .string r.nd.name, .bool r.nd.empty, .slice ao nk cp], .int .i64 r.err]) (by simp [results, Try.results53, go_sem, r0, r1, r2, r3, r4]) rfl ?_
      rw [unhide HR]
      simp at hz
      exact ⟨ao, nk, cp, rfl, hk1.keeps ((Keeps.refl _ _).set5 (by simp; omega)) (by simp; omega), hp1.set5 hne, hb1.from_alloc.from_alloc.set5 (Nat.le_refl _)⟩
    · have b15 : (t.k == 15) = false := by simp [h15]
      have HR : Hid (singleF s E t d = ⟨0, leafF s t, nextT s t.to, d⟩) := by unfold singleF; rw [if_neg h13, if_neg h15]; rfl
      clear hF hE h13 h15
      by_cases h2 : t.k = 2
      · have b2 : (t.k == 2) = true := by simp [h2]
        have HL : Hid (leafF s t = ⟨2, t.from_, t.of s, false, []⟩) := if_pos h2
        clear h2
        go_enter Try.func53, Try.ntmps53
        go_wp2_with fail
        go_at_call 36
        refine (step_any _ _ _ _ _ hs (by have := ht.from0; have := ht.le; omega) ht.size ((hp.alloc _).alloc _)).mono ?_
        rintro e w1 ⟨rfl, hp1, hb1⟩
        have hN1 := hide (hb1.keep (heap_old (heap_alloc_new w _)) hne)
        have hT1 := hide (hb1.keep (heap_alloc_new _ _) (by simpa using hne1))
        obtain ⟨r0, r1, r2, r3, r4, rf, hz1⟩ := five (unhide hN1)
        obtain ⟨t0, t1, t2, hzt⟩ := three (unhide hT1)
        simp at t0 t1 t2 hzt
        obtain ⟨d0, d1, d2, d3, d4⟩ := hp1.cells
        have hlt1 := hp1.lt
        go_wp2_with fail
        go_region_with (go_at_call 23; refine (of_any _ _ _ ht).mono ?_; rintro e w2 ⟨rfl, hb2⟩; obtain ⟨hc, hf⟩ := bcell hb2; have hz2 := hb2.size; simp at hz2 hc hf)
        all_goals
          have hB2 : But q w1 w2 := .of_below (below_drew hb2) (Nat.le_refl _)
          have hN2 := hide (hB2.keep (unhide hN1) hne)
          clear r0 r1 r2 r3 r4 rf hz1 t0 t1 t2 hzt d0 d1 d2 d3 d4 hc hf hz2
          obtain ⟨r0, r1, r2, r3, r4, rf, hz2⟩ := five (unhide hN2)
          go_wp2
          refine bodyPost_ret (v := .tuple #[.agg #[.int .i64 2, .int .i64 t.from_, .string (t.of s), .bool false, .slice none 0 0], .int .i64 0]) (by simp [results, Try.results53, go_sem, r0, r1, r2, r3, r4]) rfl ?_
          rw [unhide HR, unhide HL]
          exact ⟨none, 0, 0, rfl, Kids.nil _ _, (hp1.but (below_drew hb2)).set5 hne, (hb1.from_alloc.from_alloc.trans hB2).set5 (Nat.le_refl _)⟩
      · have b2 : (t.k == 2) = false := by simp [h2]
        by_cases h4 : t.k = 4
        · have b4 : (t.k == 4) = true := by simp [h4]
          have HL : Hid (leafF s t = ⟨0, 0, ByteArray.empty, t.to - t.from_ == 2, []⟩) := by unfold leafF; rw [if_neg h2, if_pos h4]; rfl
          have hx1 := ht.from0
          have hx2 := ht.le
          have hx3 := ht.size
          clear h2 h4
          go_enter Try.func53, Try.ntmps53
          go_wp2_with fail
          go_at_call 36
          refine (step_any _ _ _ _ _ hs (by omega) ht.size ((hp.alloc _).alloc _)).mono ?_
          rintro e w1 ⟨rfl, hp1, hb1⟩
          have hN1 := hide (hb1.keep (heap_old (heap_alloc_new w _)) hne)
          have hT1 := hide (hb1.keep (heap_alloc_new _ _) (by simpa using hne1))
          obtain ⟨r0, r1, r2, r3, r4, rf, hz1⟩ := five (unhide hN1)
          obtain ⟨t0, t1, t2, hzt⟩ := three (unhide hT1)
          simp at t0 t1 t2 hzt
          go_wp2
          refine bodyPost_ret (v := .tuple #[.agg #[.int .i64 0, .int .i64 0, .string ByteArray.empty, .bool (t.to - t.from_ == 2), .slice none 0 0], .int .i64 0]) (by simp [results, Try.results53, go_sem, r0, r1, r2, r3, r4]; rfl) rfl ?_
          rw [unhide HR, unhide HL]
          exact ⟨none, 0, 0, rfl, Kids.nil _ _, hp1.set5 hne, hb1.from_alloc.from_alloc.set5 (Nat.le_refl _)⟩
        · have b4 : (t.k == 4) = false := by simp [h4]
          have HL : Hid (leafF s t = nd0 1 []) := by unfold leafF; rw [if_neg h2, if_neg h4]; rfl
          clear h2 h4
          go_enter Try.func53, Try.ntmps53
          go_wp2_with fail
          go_at_call 36
          refine (step_any _ _ _ _ _ hs (by have := ht.from0; have := ht.le; omega) ht.size ((hp.alloc _).alloc _)).mono ?_
          rintro e w1 ⟨rfl, hp1, hb1⟩
          have hN1 := hide (hb1.keep (heap_old (heap_alloc_new w _)) hne)
          have hT1 := hide (hb1.keep (heap_alloc_new _ _) (by simpa using hne1))
          obtain ⟨r0, r1, r2, r3, r4, rf, hz1⟩ := five (unhide hN1)
          obtain ⟨t0, t1, t2, hzt⟩ := three (unhide hT1)
          simp at t0 t1 t2 hzt
          go_wp2
          refine bodyPost_ret (v := .tuple #[.agg #[.int .i64 1, .int .i64 0, .string ByteArray.empty, .bool false, .slice none 0 0], .int .i64 0]) (by simp [results, Try.results53, go_sem, r0, r1, r2, r3, r4]; rfl) rfl ?_
          rw [unhide HR, unhide HL]
          exact ⟨none, 0, 0, rfl, Kids.nil _ _, hp1.set5 hne, hb1.from_alloc.from_alloc.set5 (Nat.le_refl _)⟩
end Go.Proofs.Ytcgocmocceikdab
