import Derived.Test.YtbojcemamhiodabNum
namespace Go.Proofs.Ytbojcemamhiodab
open Go.RowKit

/-- what faults leaves -/
def OutF (w : World) (e : Ending) (w' : World) : Prop :=
  ∃ B, e = .returned (.slice (some ⟨B, 0, none⟩) 80 80) ∧ B < w'.heap.size ∧ Below w.heap.size w w' ∧
    ∀ (k : Nat) (x : ByteArray × Int × Int), tbl[k]? = some x → w'.cell? ⟨B, k * 3, none⟩ = some (.string x.1) ∧ w'.cell? ⟨B, k * 3 + 1, none⟩ = some (.int .i64 x.2.1) ∧ w'.cell? ⟨B, k * 3 + 2, none⟩ = some (.int .i64 x.2.2)

theorem tbl_length : tbl.length = 80 := by decide +kernel
theorem tbl_at (k : Nat) (h : k < 80) : ∃ x, tbl[k]? = some x ∧ compileF 40 20 x.1 = some (x.2.1, x.2.2) ∧ x.1.size ≤ 1000000 := by
  have hl : k < tbl.length := by rw [tbl_length]; exact h
  refine ⟨tbl[k], List.getElem?_eq_getElem hl, ?_⟩
  have := List.all_eq_true.1 tbl_right tbl[k] (List.getElem_mem hl)
  simp [rightAt] at this
  exact this

theorem three26 {w : World} {N : Nat} {a b c : Value} (h : w.heap[N]? = some (.cells #[a, b, c] 26)) :
    w.cell? ⟨N, 0, none⟩ = some a ∧ w.cell? ⟨N, 1, none⟩ = some b ∧ w.cell? ⟨N, 2, none⟩ = some c ∧ N < w.heap.size := by
  refine ⟨?_, ?_, ?_, (Array.getElem?_eq_some_iff.1 h).1⟩
  all_goals simp [World.cell?, h]

set_option maxHeartbeats 2000000 in
theorem refuses_any (hF : ∀ w, Calls Try.prog 4 #[] w (OutF w)) (c : Int) (w : World) (h0 : -9223372036854775808 ≤ c) (h1 : c ≤ 9223372036854775807) :
    Calls Try.prog 3 #[.int .i64 c] w fun e w' => e = .returned (.bool true) ∧ Below w.heap.size w w' := by
  have HF := hide hF
  clear hF
  go_enter Try.func3, Try.ntmps3
  go_wp2_with fail
  go_at_call 4
  refine (unhide HF _).mono ?_
  rintro e w1 ⟨B, rfl, hB, hb1, ht⟩
  have Ht := hide ht
  have Hb1 := hide hb1
  clear ht hb1
  go_wp2_with fail
  go_at_call 5
  refine (pick_any _ _ h0 h1).mono ?_
  rintro e w2 ⟨k, hk, rfl, hw2⟩
  have hw3 := hw2.symm
  subst hw3
  obtain ⟨x, hx, hcomp, hxs⟩ := tbl_at k hk
  obtain ⟨a0, a1, a2⟩ := unhide Ht k x hx
  have Hcomp := hide hcomp
  clear hw2 hcomp hx
  go_wp2_with fail
  go_at_call 6
  refine (compile_any _ _ _ _ _ (by omega) (unhide Hcomp)).mono ?_
  rintro e w3 ⟨p, rfl, hb3, hp⟩
  obtain ⟨x0, x1, x2, hxl⟩ := three26 (below_keep hb3 (heap_alloc_new w1 _) (Nat.le_refl _))
  have hz1 := (unhide Hb1).size
  have Hb3 := hide (((unhide Hb1).alloc hz1 _).trans (hb3.mono (by simp; omega)))
  clear hb3
  rcases hp with ⟨he, rfl⟩ | ⟨he, G, nv, tv, rfl, _⟩
  · have he' : x.2.1 ≠ 0 := he
    have b1 : (x.2.1 != 0) = true := by simpa using he'
    clear he he'
    go_wp2
    go_ret
    exact ⟨rfl, unhide Hb3⟩
  · have he' : x.2.1 = 0 := he
    have b1 : (x.2.1 != 0) = false := by simp [he']
    clear he he'
    go_wp2
    go_ret
    exact ⟨rfl, unhide Hb3⟩
end Go.Proofs.Ytbojcemamhiodab
