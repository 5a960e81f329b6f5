import Derived.Test.YtbojcemamhiodaaGreatDoorPurp
namespace Go.Proofs.YtbojcemamhiodaaGreatDoor
open Go.RowKit

/-- what a method of the parser that reads an expression leaves -/
def Out (s : ByteArray) (q : Nat) (w : World) (r : Res) (e : Ending) (w' : World) : Prop :=
  ∃ ao n cp, e = .returned (.tuple #[.agg #[.int .i64 r.nd.kind, .int .i64 r.nd.at_, .string r.nd.text, .slice ao n cp], .int .i64 r.err]) ∧
    Kids w' w.heap.size (.slice ao n cp) r.nd.kids ∧ Ps w' q s r.tk r.d ∧ But q w w'

theorem Ps.alloc {w : World} {q : Nat} {s : ByteArray} {t : Tk} {d : Int} (h : Ps w q s t d) (o : Obj) : Ps (w.alloc o) q s t d := by
  have hl := h.lt
  unfold Ps at *
  rw [Below.heap_alloc _ _ _ hl, h]
theorem Ps.set {w : World} {q : Nat} {s : ByteArray} {t : Tk} {d : Int} (h : Ps w q s t d) {p : Addr} (hp : p.block ≠ q) (u : Value) : Ps (w.setCell p u) q s t d := by
  unfold Ps at *
  rw [Below.heap_setCell _ _ _ _ (fun e => hp e.symm), h]
theorem But.from_alloc {q : Nat} {w w' : World} {o : Obj} (h : But q (w.alloc o) w') : But q w w' := ((But.refl q w).alloc o).trans h

section
variable {q N : Nat} {w w1 : World} {s : ByteArray} {t : Tk} {dd : Int} {a b c e : Value}
theorem Ps.set4 (h : Ps w q s t dd) (hn : N ≠ q) : Ps ((((w.setCell ⟨N, 0, none⟩ a).setCell ⟨N, 1, none⟩ b).setCell ⟨N, 2, none⟩ c).setCell ⟨N, 3, none⟩ e) q s t dd :=
  (((h.set hn _).set hn _).set hn _).set hn _
theorem But.set4 (h : But q w w1) (hn : w.heap.size ≤ N) : But q w ((((w1.setCell ⟨N, 0, none⟩ a).setCell ⟨N, 1, none⟩ b).setCell ⟨N, 2, none⟩ c).setCell ⟨N, 3, none⟩ e) :=
  (((h.setCell (.inr hn) _).setCell (.inr hn) _).setCell (.inr hn) _).setCell (.inr hn) _
theorem Keeps.set4 {lo : Nat} (h : Keeps lo w w1) (hn : N < lo) : Keeps lo w ((((w1.setCell ⟨N, 0, none⟩ a).setCell ⟨N, 1, none⟩ b).setCell ⟨N, 2, none⟩ c).setCell ⟨N, 3, none⟩ e) :=
  (((h.set hn _).set hn _).set hn _).set hn _
theorem size_set4 : ((((w1.setCell ⟨N, 0, none⟩ a).setCell ⟨N, 1, none⟩ b).setCell ⟨N, 2, none⟩ c).setCell ⟨N, 3, none⟩ e).heap.size = w1.heap.size := by simp [World.setCell]

theorem four (h : w.heap[N]? = some (.cells #[a, b, c, e] 118)) :
    w.cell? ⟨N, 0, none⟩ = some a ∧ w.cell? ⟨N, 1, none⟩ = some b ∧ w.cell? ⟨N, 2, none⟩ = some c ∧ w.cell? ⟨N, 3, none⟩ = some e ∧
    (∀ o, w.frozen? ⟨N, o, none⟩ = false) ∧ N < w.heap.size := by
  refine ⟨?_, ?_, ?_, ?_, fun o => ?_, (Array.getElem?_eq_some_iff.1 h).1⟩
  all_goals simp [World.cell?, World.frozen?, h]
theorem But.keep {o : Obj} (hb : But q w w1) (h : w.heap[N]? = some o) (hne : N ≠ q) : w1.heap[N]? = some o :=
  (hb.block N (Array.getElem?_eq_some_iff.1 h).1 hne).trans h
theorem heap_old {o o' : Obj} (h : w.heap[N]? = some o) : (w.alloc o').heap[N]? = some o :=
  (Below.heap_alloc _ _ _ (Array.getElem?_eq_some_iff.1 h).1).trans h
end

theorem three {w : World} {N : Nat} {a b c : Value} (h : w.heap[N]? = some (.cells #[a, b, c] 112)) :
    w.cell? ⟨N, 0, none⟩ = some a ∧ w.cell? ⟨N, 1, none⟩ = some b ∧ w.cell? ⟨N, 2, none⟩ = some c ∧ N < w.heap.size := by
  refine ⟨?_, ?_, ?_, (Array.getElem?_eq_some_iff.1 h).1⟩
  all_goals simp [World.cell?, h]

theorem below_keep {n N : Nat} {w w1 : World} {o : Obj} (hb : Below n w w1) (h : w.heap[N]? = some o) (hn : w.heap.size ≤ n) : w1.heap[N]? = some o :=
  (hb.block N (Nat.lt_of_lt_of_le (Array.getElem?_eq_some_iff.1 h).1 hn)).trans h

set_option maxHeartbeats 1000000 in
theorem within_any (w : World) (q : Nat) (s : ByteArray) (t : Tk) (d c : Int) (r : Res) (hs : s.size ≤ 400) (hp : Ps w q s t d) (hd : 0 ≤ d) (hd' : d ≤ 13)
    (hr : Fine s t.from_ d r) (hcall : ∀ w', Ps w' q s t d → Calls Tryz.prog 82 #[.pointer (some ⟨q, 0, none⟩)] w' (Out s q w' r)) :
    Calls Tryz.prog 164 #[.pointer (some ⟨q, 0, none⟩), .int .i64 c] w (Out s q w (withinF s r c)) := by
  have hlt := hp.lt
  have hne : w.heap.size ≠ q := by omega
  have Hcall := hide hcall; clear hcall
  have htk := hr.tk
  by_cases he : r.err ≠ 0
  · have b1 : (r.err != 0) = true := by simpa using he
    have HR : Hid (withinF s r c = errR r.err r.tk r.d) := if_pos he
    clear he
    go_enter Tryz.func164, Tryz.ntmps164
    go_wp2_with fail
    go_at_call 82
    refine (unhide Hcall _ (hp.alloc _)).mono ?_
    rintro e w1 ⟨ao, nk, cp, rfl, hk1, hp1, hb1⟩
    have hN1 := hide (hb1.keep (heap_alloc_new w _) hne)
    obtain ⟨r0, r1, r2, r3, rf, hz1⟩ := four (unhide hN1)
    go_wp2
    refine bodyPost_ret (v := .tuple #[.agg #[.int .i64 0, .int .i64 0, .string ByteArray.empty, .slice none 0 0], .int .i64 r.err]) (by simp [results, Tryz.results164, go_sem, r0, r1, r2, r3, hz1]; rfl) rfl ?_
    rw [unhide HR]
    exact ⟨none, 0, 0, rfl, Kids.nil _ _, (hp1.set4 hne).alloc _, (hb1.from_alloc.set4 (Nat.le_refl _)).alloc _⟩
  · have b1 : (r.err != 0) = false := by simpa using he
    have hd0 := hr.dep (by omega)
    by_cases hc : r.tk.k = c
    · have HR : Hid (withinF s r c = ⟨0, r.nd, nextT s r.tk.to, r.d - 1⟩) := by
        unfold withinF; rw [if_neg he, if_neg (by omega)]; rfl
      have Hc := hide hc
      have Hd := hide hd0
      have hd1 : 0 ≤ r.d := by omega
      have hd2 : r.d ≤ 13 := by omega
      clear he hc hd0
      go_enter Tryz.func164, Tryz.ntmps164
      go_wp2_with fail
      go_at_call 82
      refine (unhide Hcall _ (hp.alloc _)).mono ?_
      rintro e w1 ⟨ao, nk, cp, rfl, hk1, hp1, hb1⟩
      have hN1 := hide (hb1.keep (heap_alloc_new w _) hne)
      obtain ⟨r0, r1, r2, r3, rf, hz1⟩ := four (unhide hN1)
      go_wp2_with fail
      go_at_call 81
      refine (take_yes _ _ _ _ _ _ hs htk (hp1.alloc _) (unhide Hc)).mono ?_
      rintro e w2 ⟨rfl, hp2, hb2⟩
      have hN2 := hide (hb2.keep (heap_old (unhide hN1)) hne)
      have hM2 := hide (hb2.keep (heap_alloc_new w1 _) (by omega))
      clear r0 r1 r2 r3 rf
      obtain ⟨r0, r1, r2, r3, rf, hz2⟩ := four (unhide hN2)
      obtain ⟨m0, m1, m2, m3, mf, hz3⟩ := four (unhide hM2)
      obtain ⟨c0, c1, c2, c3, c4⟩ := hp2.cells
      have cf := hp2.frozen
      have hlt2 := hp2.lt
      have hnm : w1.heap.size ≠ q := by omega
      have hnm' : w1.heap.size ≠ w.heap.size := by omega
      go_wp2
      refine bodyPost_ret (v := .tuple #[.agg #[.int .i64 r.nd.kind, .int .i64 r.nd.at_, .string r.nd.text, .slice ao nk cp], .int .i64 0]) (by simp [results, Tryz.results164, go_sem, r0, r1, r2, r3]) rfl ?_
      rw [unhide HR]
      exact ⟨ao, nk, cp, rfl, hk1.keeps (((hb2.from_alloc.keeps (by simp; omega)).set (by simp; omega) _).set4 (by simp)) (by simp), (hp2.putD _).set4 hne, ((hb1.from_alloc.trans hb2.from_alloc).setCell (.inl rfl) _).set4 (Nat.le_refl _)⟩
    · have HR : Hid (withinF s r c = errR 2 r.tk r.d) := by
        unfold withinF; rw [if_neg he, if_pos hc]; rfl
      have Hc := hide hc
      clear he hc hd0
      go_enter Tryz.func164, Tryz.ntmps164
      go_wp2_with fail
      go_at_call 82
      refine (unhide Hcall _ (hp.alloc _)).mono ?_
      rintro e w1 ⟨ao, nk, cp, rfl, hk1, hp1, hb1⟩
      have hN1 := hide (hb1.keep (heap_alloc_new w _) hne)
      obtain ⟨r0, r1, r2, r3, rf, hz1⟩ := four (unhide hN1)
      go_wp2_with fail
      go_at_call 81
      refine (take_no _ _ _ _ _ _ (hp1.alloc _) (unhide Hc)).mono ?_
      rintro e w2 ⟨rfl, rfl⟩
      go_wp2
      refine bodyPost_ret (v := .tuple #[.agg #[.int .i64 0, .int .i64 0, .string ByteArray.empty, .slice none 0 0], .int .i64 2]) (by simp [results, Tryz.results164, go_sem, r0, r1, r2, r3, hz1]; rfl) rfl ?_
      rw [unhide HR]
      exact ⟨none, 0, 0, rfl, Kids.nil _ _, (hp1.set4 hne).alloc _, (hb1.from_alloc.set4 (Nat.le_refl _)).alloc _⟩
end Go.Proofs.YtbojcemamhiodaaGreatDoor
