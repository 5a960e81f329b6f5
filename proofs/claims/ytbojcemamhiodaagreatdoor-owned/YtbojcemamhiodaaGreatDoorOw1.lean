import Derived.Test.YtbojcemamhiodaaGreatDoorParse
import Derived.Test.YtbojcemamhiodaaGreatDoorComp
namespace Go.Proofs.YtbojcemamhiodaaGreatDoor
open Go.RowKit

/-- the mark of the k-th list -/
def markB (k : Nat) : ByteArray := ⟨(([109, 105, 110, 101] : List UInt8).take (k + 1)).toArray⟩
set_option maxHeartbeats 1000000 in
theorem mark_any (w : World) (k : Nat) (hk : k < 4) : Calls Tryz.prog 16 #[.int .i64 k] w fun e w' => e = .returned (.string (markB k)) ∧ w' = w := by
  have h : k = 0 ∨ k = 1 ∨ k = 2 ∨ k = 3 := by omega
  rcases h with rfl | rfl | rfl | rfl
  · show Calls Tryz.prog 16 #[.int .i64 0] w _
    go_enter Tryz.func16, Tryz.ntmps16
    go_wp2
    go_ret
    exact ⟨rfl, rfl⟩
  · show Calls Tryz.prog 16 #[.int .i64 1] w _
    go_enter Tryz.func16, Tryz.ntmps16
    go_wp2
    go_ret
    exact ⟨rfl, rfl⟩
  · show Calls Tryz.prog 16 #[.int .i64 2] w _
    go_enter Tryz.func16, Tryz.ntmps16
    go_wp2
    go_ret
    exact ⟨rfl, rfl⟩
  · show Calls Tryz.prog 16 #[.int .i64 3] w _
    go_enter Tryz.func16, Tryz.ntmps16
    go_wp2
    go_ret
    exact ⟨rfl, rfl⟩
/-- the row in block g, c long, the first i of it are u -/
def Mk (w : World) (g c i : Nat) (u : Value) : Prop := ∃ cur, w.heap[g]? = some (.cells cur 9 (0, 0)) ∧ cur.size = c ∧ ∀ j, j < i → cur[j]? = some u
section
variable {w w' w0 w2 W w5 : World} {g c i j lo : Nat} {u lv v' : Value} {ls : List Value}
theorem Mk.lt (h : Mk w g c i u) : g < w.heap.size := by
  obtain ⟨cur, h1, _⟩ := h
  exact (Array.getElem?_eq_some_iff.1 h1).1
theorem Mk.keep (h : Mk w g c i u) (e : w'.heap[g]? = w.heap[g]?) : Mk w' g c i u := by
  obtain ⟨cur, h1, h2⟩ := h
  exact ⟨cur, e.trans h1, h2⟩
theorem Mk.cell (h : Mk w g c i u) (hj : j < i) : w.cell? ⟨g, j, none⟩ = some u := by
  obtain ⟨cur, h1, h2, h3⟩ := h
  simp [World.cell?, h1, h3 j hj]
theorem Mk.has (h : Mk w g c i u) (hj : j < c) : ∃ x, w.cell? ⟨g, j, none⟩ = some x := by
  obtain ⟨cur, h1, h2, h3⟩ := h
  exact ⟨cur[j], by simp [World.cell?, h1, h2, hj]⟩
theorem Mk.frozen (h : Mk w g c i u) : w.frozen? ⟨g, j, none⟩ = false := by
  obtain ⟨cur, h1, h2, h3⟩ := h
  simp [World.frozen?, h1]
theorem Mk.set (h : Mk w g c i u) (hi : i < c) : Mk (w.setCell ⟨g, i, none⟩ u) g c (i + 1) u := by
  obtain ⟨cur, h1, h2, h3⟩ := h
  refine ⟨cur.setIfInBounds i u, ?_, by simp [h2], fun j hj => ?_⟩
  · simp [World.setCell, Array.getElem?_modify, h1]
  · rw [Array.getElem?_setIfInBounds]
    by_cases e : i = j
    · rw [if_pos e, if_pos (by omega)]
    · rw [if_neg e]
      exact h3 j (by omega)
/-- the lists so far: row j is full of mark j, each in a block of its own -/
structure Lst (lo : Nat) (w : World) (lv : Value) (ls : List Value) : Prop where
  own : w.ownsRow lo 27 1 lv ls.length ls
  row : ∀ (j : Nat) v, ls[j]? = some v → ∃ g c, v = .slice (some ⟨g, 0, none⟩) c c ∧ c ≤ 9223372036854775807 ∧ lv.ownBlock ≠ some g ∧ Mk w g c c (.string (markB j))
theorem Lst.nil (lo : Nat) (w : World) : Lst lo w (.slice none 0 0) [] := ⟨World.ownsRow_nil _ _ _ _, fun j v h => by simp at h⟩
theorem Lst.next (h : Lst lo w0 lv ls) (hb : Below w0.heap.size w0 w2) (hm : Mk w2 g c c (.string (markB ls.length))) (hg : w0.heap.size ≤ g) (hc : c ≤ 9223372036854775807) (hW : Below w2.heap.size w2 W) (hgr : W.grownBy w5 lv.ownBlock)
    (hown : w5.ownsRow lo 27 1 v' (ls.length + 1) (ls ++ [.slice (some ⟨g, 0, none⟩) c c])) (hat : v'.ownBlock = lv.ownBlock ∨ v'.ownBlock = some W.heap.size) : Lst lo w5 v' (ls ++ [.slice (some ⟨g, 0, none⟩) c c]) := by
  have hlt := h.own.lt
  have hz := hb.size
  have hzW := hW.size
  have hne : ∀ j, j < W.heap.size → lv.ownBlock ≠ some j → v'.ownBlock ≠ some j := by
    intro j hj hn
    rcases hat with e | e
    · rw [e]; exact hn
    · rw [e]; intro x; cases x; omega
  have hgl := hm.lt
  have hgn : lv.ownBlock ≠ some g := fun e => by have := (hlt g e).2; omega
  refine ⟨by simpa using hown, fun j v hv => ?_⟩
  by_cases hj : j < ls.length
  · rw [List.getElem?_append_left hj] at hv
    obtain ⟨g', c', e1, e4, e2, e3⟩ := h.row j v hv
    have hl := e3.lt
    refine ⟨g', c', e1, e4, hne g' (by omega) e2, e3.keep ?_⟩
    rw [hgr.block g' (by omega) (fun e => e2 e.symm), hW.block g' (by omega), hb.block g' hl]
  · rw [List.getElem?_append_right (by omega)] at hv
    have hj2 : j = ls.length := by
      rcases Nat.eq_or_lt_of_le (Nat.le_of_not_lt hj) with e | e
      · exact e.symm
      · rw [List.getElem?_eq_none (by simp; omega)] at hv
        cases hv
    subst hj2
    simp at hv
    subst hv
    refine ⟨g, c, rfl, hc, hne g (by omega) hgn, hm.keep ?_⟩
    rw [hgr.block g (by omega) (fun e => hgn e.symm), hW.block g hgl]
theorem Lst.below (h : Lst lo w lv ls) (hb : Below w.heap.size w w') : Lst lo w' lv ls :=
  ⟨own_below h.own hb, fun j v hv => by obtain ⟨g, c, e1, e4, e2, e3⟩ := h.row j v hv; exact ⟨g, c, e1, e4, e2, e3.keep (hb.block g e3.lt)⟩⟩
end
end Go.Proofs.YtbojcemamhiodaaGreatDoor
