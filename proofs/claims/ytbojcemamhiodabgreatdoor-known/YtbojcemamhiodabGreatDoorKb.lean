import Derived.Test.YtbojcemamhiodabGreatDoorKt
namespace Go.Proofs.YtbojcemamhiodabGreatDoor
open Go.RowKit

def flatK (l : List KnR) : List Value := l.flatMap fun q => [.string q.t, .string q.x, .string q.s, .int .i64 q.r, .string q.c]
theorem flatK_at : ∀ (l : List KnR) (k : Nat) (q : KnR), l[k]? = some q →
    (flatK l)[k * 5]? = some (.string q.t) ∧ (flatK l)[k * 5 + 1]? = some (.string q.x) ∧ (flatK l)[k * 5 + 2]? = some (.string q.s) ∧ (flatK l)[k * 5 + 3]? = some (.int .i64 q.r) ∧ (flatK l)[k * 5 + 4]? = some (.string q.c)
  | [], k, x, h => by simp at h
  | y :: l, 0, x, h => by
    simp at h; subst h
    exact ⟨rfl, rfl, rfl, rfl, rfl⟩
  | y :: l, k + 1, x, h => by
    obtain ⟨h0, h1, h2, h3, h4⟩ := flatK_at l k x (by simpa using h)
    have e : flatK (y :: l) = [.string y.t, .string y.x, .string y.s, .int .i64 y.r, .string y.c] ++ flatK l := rfl
    rw [e, show (k + 1) * 5 = k * 5 + 5 from by omega]
    refine ⟨?_, ?_, ?_, ?_, ?_⟩
    · rw [List.getElem?_append_right (by simp)]; simpa using h0
    · rw [List.getElem?_append_right (by simp)]; simpa using h1
    · rw [List.getElem?_append_right (by simp)]; simpa using h2
    · rw [List.getElem?_append_right (by simp)]; simpa using h3
    · rw [List.getElem?_append_right (by simp)]; simpa using h4
def zeroK : Array Value := (Array.range (34 * 5)).map fun j => (#[Value.string ⟨#[]⟩, .string ⟨#[]⟩, .string ⟨#[]⟩, .int .i64 0, .string ⟨#[]⟩] : Array Value)[j % (#[Value.string ⟨#[]⟩, .string ⟨#[]⟩, .string ⟨#[]⟩, .int .i64 0, .string ⟨#[]⟩] : Array Value).size]!
theorem infoK : (Tryz.prog.info? 41).map (fun i => (i.zero, i.size, i.bytes)) = some (some (.agg #[.string ⟨#[]⟩, .string ⟨#[]⟩, .string ⟨#[]⟩, .int .i64 0, .string ⟨#[]⟩]), 5, 72) := by kernel_rfl

theorem wp_buildK {o : Oper} {a : Act} {w : World} {K : Act → World → Prop} {Q : Exit → Act → World → Prop} (parts : Array (Nat × Operand)) (ho : o.op = .buildSlice 38 34 parts) (cells : Array Value)
    (hfill : Instr.fill (fun i => some (i * 5, 5)) zeroK (parts.map fun x => (x.1, a.eval x.2)).toList = some cells)
    (h : K (a.put o.dst (.slice (some ⟨w.heap.size, 0, none⟩) 34 34)) (w.alloc (.cells cells 41))) : o.wp Tryz.prog a w K Q := by
  obtain ⟨i, hi, hz, hsz, hby⟩ := info_parts infoK
  have hrun : (Instr.buildSlice 38 34 (parts.map fun x => (x.1, a.eval x.2))).run Tryz.prog w = .ok (.slice (some ⟨w.heap.size, 0, none⟩) 34 34) (w.alloc (.cells cells 41)) := by
    unfold Instr.buildSlice
    have hs : ∀ w, (sizeOf 41).run Tryz.prog w = .ok 5 w := fun w => by simp [sizeOf, typeInfo, hi, hsz]
    have hzv : ∀ w, (zeroValue 41).run Tryz.prog w = .ok (.agg #[.string ⟨#[]⟩, .string ⟨#[]⟩, .string ⟨#[]⟩, .int .i64 0, .string ⟨#[]⟩]) w := fun w => by simp [zeroValue, typeInfo, hi, hz]
    have hnr : ∀ w, (newRow 41 cells).run Tryz.prog w = .ok ⟨w.heap.size, 0, none⟩ (w.alloc (.cells cells 41)) := fun w => by simp [newRow]
    simp only [Sem.run_bind, run_underlying Tryz.underlying38, Result.andThen_ok, hs]
    rw [if_neg (by decide), if_neg (by decide)]
    simp only [Sem.run_bind, hzv, Result.andThen_ok, Sem.run_pure]
    have hfill' : Instr.fill (fun i => some (i * 5, 5)) (Array.map (fun x => (Value.agg #[.string ⟨#[]⟩, .string ⟨#[]⟩, .string ⟨#[]⟩, .int .i64 0, .string ⟨#[]⟩]).cells[x % (Value.agg #[.string ⟨#[]⟩, .string ⟨#[]⟩, .string ⟨#[]⟩, .int .i64 0, .string ⟨#[]⟩]).cells.size]!) (Array.range (34 * 5))) (parts.map fun x => (x.1, a.eval x.2)).toList = some cells := hfill
    rw [hfill']
    simp only [Sem.run_bind, hnr, Result.andThen_ok, Sem.run_pure]
  unfold Oper.wp execOp
  simp only [ho]
  simp only [Sem.run_bind, hrun, Result.andThen_ok, Sem.run_pure]
  exact h

/-- what lots leaves -/
def OutK (w : World) (e : Ending) (w' : World) : Prop :=
  ∃ B, e = .returned (.slice (some ⟨B, 0, none⟩) 34 34) ∧ B < w'.heap.size ∧ Below w.heap.size w w' ∧
    ∀ (k : Nat) (q : KnR), tblK[k]? = some q → w'.cell? ⟨B, k * 5, none⟩ = some (.string q.t) ∧ w'.cell? ⟨B, k * 5 + 1, none⟩ = some (.string q.x) ∧ w'.cell? ⟨B, k * 5 + 2, none⟩ = some (.string q.s) ∧ w'.cell? ⟨B, k * 5 + 3, none⟩ = some (.int .i64 q.r) ∧ w'.cell? ⟨B, k * 5 + 4, none⟩ = some (.string q.c)
theorem out_lots (w : World) : OutK w (.returned (.slice (some ⟨w.heap.size, 0, none⟩) 34 34)) (w.alloc (.cells (flatK tblK).toArray 41)) := by
  refine ⟨w.heap.size, rfl, by simp, (Below.refl _ _).alloc (Nat.le_refl _) _, ?_⟩
  intro k q hq
  have hc : ∀ o, (w.alloc (.cells (flatK tblK).toArray 41)).cell? ⟨w.heap.size, o, none⟩ = (flatK tblK)[o]? := by
    intro o
    rw [World.cell?_alloc_new]
    simp
  rw [hc, hc, hc, hc, hc]
  exact flatK_at tblK k q hq

set_option maxRecDepth 100000 in
set_option maxHeartbeats 4000000 in
theorem lots_any (w : World) : Calls Tryz.prog 15 #[] w (OutK w) := by
  go_enter Tryz.func15, Tryz.ntmps15
  go_wp2
  refine wp_buildK _ rfl (flatK tblK).toArray (by kernel_rfl) ?_
  go_wp2
  go_ret
  exact out_lots w
end Go.Proofs.YtbojcemamhiodabGreatDoor
