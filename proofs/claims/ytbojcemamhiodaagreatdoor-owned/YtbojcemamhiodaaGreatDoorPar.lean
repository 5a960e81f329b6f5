import Derived.Test.YtbojcemamhiodaaGreatDoorToks
import Derived.Deep.RegionWith
import Derived.Deep.QuietTactic
import Derived.BigQuiet
namespace Go.Proofs.YtbojcemamhiodaaGreatDoor
open Go.RowKit

/-- w' is w but for block q, and new blocks -/
structure But (q : Nat) (w w' : World) : Prop where
  os : w'.os = w.os
  tape : w'.tape = w.tape
  output : w'.output = w.output
  size : w.heap.size ≤ w'.heap.size
  block : ∀ k, k < w.heap.size → k ≠ q → w'.heap[k]? = w.heap[k]?

theorem But.refl (q : Nat) (w : World) : But q w w := ⟨rfl, rfl, rfl, Nat.le_refl _, fun _ _ _ => rfl⟩
theorem But.trans {q : Nat} {a b c : World} (h : But q a b) (k : But q b c) : But q a c :=
  ⟨k.os.trans h.os, k.tape.trans h.tape, k.output.trans h.output, Nat.le_trans h.size k.size, fun i hi hq => (k.block i (Nat.lt_of_lt_of_le hi h.size) hq).trans (h.block i hi hq)⟩
theorem But.of_below {q n : Nat} {w w' : World} (h : Below n w w') (hn : w.heap.size ≤ n) : But q w w' :=
  ⟨h.os, h.tape, h.output, h.size, fun k hk _ => h.block k (Nat.lt_of_lt_of_le hk hn)⟩
theorem But.below {q n : Nat} {w w1 w' : World} (h : But q w w1) (hb : Below n w1 w') (hn : w.heap.size ≤ n) : But q w w' :=
  ⟨hb.os.trans h.os, hb.tape.trans h.tape, hb.output.trans h.output, Nat.le_trans h.size hb.size, fun k hk hq => (hb.block k (Nat.lt_of_lt_of_le hk hn)).trans (h.block k hk hq)⟩
theorem But.alloc {q : Nat} {w w' : World} (h : But q w w') (o : Obj) : But q w (w'.alloc o) :=
  h.trans ⟨rfl, rfl, rfl, by simp, fun k hk _ => Below.heap_alloc _ _ _ (by omega)⟩
theorem But.drew {q : Nat} {w w' : World} (h : But q w w') : But q w w'.drew := ⟨h.os, h.tape, h.output, h.size, h.block⟩
theorem But.from_drew {q : Nat} {w w' : World} (h : But q w.drew w') : But q w w' := ⟨h.os, h.tape, h.output, h.size, h.block⟩
theorem below_drew {w w' : World} (h : Below w.drew.heap.size w.drew w') : Below w.heap.size w w' := ⟨h.os, h.tape, h.output, h.size, h.block⟩
theorem below_drew_alloc {w w' : World} {o : Obj} (h : Below (w.drew.alloc o).heap.size (w.drew.alloc o) w') : Below w.heap.size w w' :=
  ((Below.refl _ w).alloc (Nat.le_refl _) o).trans ⟨h.os, h.tape, h.output, h.size, fun k hk => h.block k (by simp; omega)⟩
theorem bcell {W w1 : World} (hb : Below W.heap.size W w1) : (∀ b o, b < W.heap.size → w1.cell? ⟨b, o, none⟩ = W.cell? ⟨b, o, none⟩) ∧ (∀ b o, b < W.heap.size → w1.frozen? ⟨b, o, none⟩ = W.frozen? ⟨b, o, none⟩) :=
  ⟨fun b o h => hb.cell (p := ⟨b, o, none⟩) h, fun b o h => hb.frozen (p := ⟨b, o, none⟩) h⟩
theorem But.setCell {q : Nat} {w w' : World} (h : But q w w') {p : Addr} (hp : p.block = q ∨ w.heap.size ≤ p.block) (u : Value) : But q w (w'.setCell p u) :=
  ⟨h.os, h.tape, h.output, by simpa [World.setCell] using h.size, fun k hk hq => (Below.heap_setCell _ _ _ _ (by omega)).trans (h.block k hk hq)⟩

/-- the parser in block q -/
def Ps (w : World) (q : Nat) (s : ByteArray) (t : Tk) (d : Int) : Prop :=
  w.heap[q]? = some (.cells #[.string s, .int .i64 t.k, .int .i64 t.from_, .int .i64 t.to, .int .i64 d] 115 (0, 0))

theorem Ps.lt {w : World} {q : Nat} {s : ByteArray} {t : Tk} {d : Int} (h : Ps w q s t d) : q < w.heap.size := by
  unfold Ps at h
  exact (Array.getElem?_eq_some_iff.1 h).1
theorem Ps.cells {w : World} {q : Nat} {s : ByteArray} {t : Tk} {d : Int} (h : Ps w q s t d) :
    w.cell? ⟨q, 0, none⟩ = some (.string s) ∧ w.cell? ⟨q, 1, none⟩ = some (.int .i64 t.k) ∧ w.cell? ⟨q, 2, none⟩ = some (.int .i64 t.from_) ∧ w.cell? ⟨q, 3, none⟩ = some (.int .i64 t.to) ∧ w.cell? ⟨q, 4, none⟩ = some (.int .i64 d) := by
  unfold Ps at h
  simp [World.cell?, h]
theorem Ps.frozen {w : World} {q : Nat} {s : ByteArray} {t : Tk} {d : Int} (h : Ps w q s t d) (o : Nat) : w.frozen? ⟨q, o, none⟩ = false := by
  unfold Ps at h
  simp [World.frozen?, h]
theorem Ps.but {w w' : World} {q : Nat} {s : ByteArray} {t : Tk} {d : Int} (h : Ps w q s t d) (hb : Below w.heap.size w w') : Ps w' q s t d := by
  have := hb.block q h.lt
  unfold Ps at *
  rw [this, h]

theorem Ps.put {w : World} {q : Nat} {s : ByteArray} {t : Tk} {d : Int} (h : Ps w q s t d) (t' : Tk) :
    Ps (((w.setCell ⟨q, 1, none⟩ (.int .i64 t'.k)).setCell ⟨q, 2, none⟩ (.int .i64 t'.from_)).setCell ⟨q, 3, none⟩ (.int .i64 t'.to)) q s t' d := by
  unfold Ps at *
  simp [World.setCell, Array.getElem?_modify, h]

set_option maxHeartbeats 1000000 in
theorem step_any (w : World) (q : Nat) (s : ByteArray) (t : Tk) (d : Int) (hs : s.size ≤ 400) (h0 : 0 ≤ t.to) (h1 : t.to ≤ s.size) (hp : Ps w q s t d) :
    Calls Tryz.prog 118 #[.pointer (some ⟨q, 0, none⟩)] w fun e w' => e = .returned (.tuple #[]) ∧ Ps w' q s (nextT s t.to) d ∧ But q w w' := by
  obtain ⟨c0, c1, c2, c3, c4⟩ := hp.cells
  have hz := hp.frozen
  have hlt := hp.lt
  go_enter Tryz.func118, Tryz.ntmps118
  go_region_with (go_at_call 52; refine (next_any _ _ _ hs h0 h1).mono ?_; rintro e w' ⟨rfl, hb⟩; have hp' := Ps.but (w := w.drew) hp hb; obtain ⟨d0, d1, d2, d3, d4⟩ := hp'.cells; have hz' := hp'.frozen)
  all_goals
    have hB : But q w w' := .of_below (below_drew hb) (Nat.le_refl _)
    go_end0
    exact ⟨rfl, hp'.put _, ((hB.setCell (.inl rfl) _).setCell (.inl rfl) _).setCell (.inl rfl) _⟩

def nmBefore (s : ByteArray) (t : Tk) (k : Int) : Bool := t.k == 2 && (nextT s t.to).k == k
def atIt (s : ByteArray) (t : Tk) : Bool :=
  t.k == 7 || t.k == 8 || t.k == 4 || t.k == 5 || t.k == 12 || t.k == 13 || t.k == 15 || (t.k == 2 && !(nmBefore s t 3))

set_option maxHeartbeats 1000000 in
theorem nameBefore_any (w : World) (q : Nat) (s : ByteArray) (t : Tk) (d : Int) (k : Int) (hs : s.size ≤ 400) (h0 : 0 ≤ t.to) (h1 : t.to ≤ s.size) (hp : Ps w q s t d) :
    Calls Tryz.prog 151 #[.pointer (some ⟨q, 0, none⟩), .int .i64 k] w fun e w' => e = .returned (.bool (nmBefore s t k)) ∧ Below w.heap.size w w' := by
  obtain ⟨c0, c1, c2, c3, c4⟩ := hp.cells
  have hlt := hp.lt
  unfold nmBefore
  cases hk : (t.k == 2)
  · have b1 : (t.k != 2) = true := by simpa using hk
    clear hk
    go_enter Tryz.func151, Tryz.ntmps151
    go_wp2
    go_ret
    exact ⟨rfl, Below.refl _ _⟩
  · have b1 : (t.k != 2) = false := by simpa using hk
    clear hk
    go_enter Tryz.func151, Tryz.ntmps151
    go_wp2
    go_region_with (go_at_call 52; refine (next_any _ _ _ hs h0 h1).mono ?_; rintro e w' ⟨rfl, hb⟩; obtain ⟨hc, hf⟩ := bcell hb; have hz1 := hb.size; simp at hz1 hc hf)
    all_goals
      first
      | (have hB : Below w.heap.size w w' := below_drew hb
         go_wp2
         go_ret
         exact ⟨rfl, hB.alloc hB.size _⟩)
      | (have hB : Below w.heap.size w w' := below_drew_alloc hb
         go_wp2
         go_ret
         exact ⟨rfl, ((hB.setCell (Nat.le_refl _) _).setCell (Nat.le_refl _) _).setCell (Nat.le_refl _) _⟩)
end Go.Proofs.YtbojcemamhiodaaGreatDoor
