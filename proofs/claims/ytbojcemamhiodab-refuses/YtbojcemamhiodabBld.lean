import Derived.Test.YtbojcemamhiodabNum
import Derived.Test.YtbojcemamhiodabRef
namespace Go.Proofs.Ytbojcemamhiodab
open Go.RowKit

/-- the cells of the table, its long texts apart -/
def cellsT (L M D C : ByteArray) : List Value := [
  .string L, .int .i64 0, .int .i64 0,
  .string (L ++ ⟨#[32]⟩), .int .i64 1, .int .i64 0,
  .string ⟨#[]⟩, .int .i64 4, .int .i64 0,
  .string ⟨#[32, 10]⟩, .int .i64 4, .int .i64 0,
  .string M, .int .i64 0, .int .i64 0,
  .string (M ++ ⟨#[120, 32, 60, 45, 32, 39, 120, 39]⟩), .int .i64 4, .int .i64 0,
  .string ⟨#[97, 9, 60, 45, 32, 39, 120, 39]⟩, .int .i64 2, .int .i64 1,
  .string ⟨#[97, 32, 60, 45, 32, 39, 120, 39, 9]⟩, .int .i64 2, .int .i64 8,
  .string ⟨#[97]⟩, .int .i64 2, .int .i64 1,
  .string ⟨#[97, 32, 98]⟩, .int .i64 2, .int .i64 2,
  .string ⟨#[97, 32, 60]⟩, .int .i64 2, .int .i64 2,
  .string ⟨#[39, 120, 39]⟩, .int .i64 2, .int .i64 0,
  .string ⟨#[65, 32, 60, 45, 32, 39, 120, 39]⟩, .int .i64 2, .int .i64 0,
  .string ⟨#[97, 98, 99, 100, 101, 102, 103, 104, 105, 32, 60, 45, 32, 39, 120, 39]⟩, .int .i64 2, .int .i64 0,
  .string ⟨#[97, 98, 99, 100, 101, 102, 103, 104, 32, 60, 45, 32, 39, 120, 39]⟩, .int .i64 0, .int .i64 0,
  .string ⟨#[97, 32, 60, 45, 32, 39, 120]⟩, .int .i64 2, .int .i64 5,
  .string ⟨#[97, 32, 60, 45, 32, 39, 120, 9, 121, 39]⟩, .int .i64 2, .int .i64 5,
  .string ⟨#[97, 32, 60, 45, 32, 39, 92, 100, 39]⟩, .int .i64 2, .int .i64 5,
  .string ⟨#[97, 32, 60, 45, 32, 39, 92, 120, 52, 39]⟩, .int .i64 2, .int .i64 5,
  .string ⟨#[97, 32, 60, 45, 32, 39, 92, 120, 52, 71, 39]⟩, .int .i64 2, .int .i64 5,
  .string ⟨#[97, 32, 60, 45, 32, 39, 92, 120, 65, 65, 39]⟩, .int .i64 2, .int .i64 5,
  .string ⟨#[97, 32, 60, 45, 32, 91, 93]⟩, .int .i64 2, .int .i64 5,
  .string ⟨#[97, 32, 60, 45, 32, 91, 94, 93]⟩, .int .i64 2, .int .i64 5,
  .string ⟨#[97, 32, 60, 45, 32, 91, 98, 45, 97, 93]⟩, .int .i64 2, .int .i64 5,
  .string ⟨#[97, 32, 60, 45, 32, 91, 97, 45, 93]⟩, .int .i64 2, .int .i64 5,
  .string ⟨#[97, 32, 60, 45, 32, 91, 45, 97, 93]⟩, .int .i64 2, .int .i64 5,
  .string ⟨#[97, 32, 60, 45, 32, 91, 97, 94, 93]⟩, .int .i64 2, .int .i64 5,
  .string ⟨#[97, 32, 60, 45, 32, 91, 91, 93]⟩, .int .i64 2, .int .i64 5,
  .string ⟨#[97, 32, 60, 45, 32, 91, 97]⟩, .int .i64 2, .int .i64 5,
  .string ⟨#[97, 32, 60, 45, 32, 91, 39, 92, 39, 93]⟩, .int .i64 2, .int .i64 5,
  .string ⟨#[97, 32, 60, 45, 32, 91, 39, 93]⟩, .int .i64 0, .int .i64 0,
  .string ⟨#[97, 32, 60, 45, 32, 41]⟩, .int .i64 2, .int .i64 5,
  .string ⟨#[97, 32, 60, 45, 32, 40]⟩, .int .i64 2, .int .i64 6,
  .string ⟨#[97, 32, 60, 45, 32, 40, 39, 120, 39]⟩, .int .i64 2, .int .i64 9,
  .string ⟨#[97, 32, 60, 45, 32, 40, 39, 120, 39, 125]⟩, .int .i64 2, .int .i64 9,
  .string ⟨#[97, 32, 60, 45, 32, 123, 110, 58, 32, 39, 120, 39, 41]⟩, .int .i64 2, .int .i64 12,
  .string ⟨#[97, 32, 60, 45, 32, 123, 110, 58, 125]⟩, .int .i64 0, .int .i64 0,
  .string ⟨#[97, 32, 60, 45, 32, 40, 41]⟩, .int .i64 0, .int .i64 0,
  .string ⟨#[97, 32, 60, 45, 32, 123, 40, 41, 125]⟩, .int .i64 0, .int .i64 0,
  .string ⟨#[97, 32, 60, 45, 32, 42]⟩, .int .i64 2, .int .i64 5,
  .string ⟨#[97, 32, 60, 45, 32, 39, 120, 39, 32, 47, 32, 42]⟩, .int .i64 2, .int .i64 11,
  .string ⟨#[97, 32, 60, 45, 32, 38]⟩, .int .i64 2, .int .i64 6,
  .string ⟨#[97, 32, 60, 45, 32, 33, 32, 47, 32, 39, 120, 39]⟩, .int .i64 2, .int .i64 7,
  .string ⟨#[97, 32, 60, 45, 32, 39, 120, 39, 32, 58, 32, 39, 121, 39]⟩, .int .i64 2, .int .i64 9,
  .string ⟨#[97, 32, 60, 45, 32, 40, 98, 32, 98, 32, 60, 45, 32, 39, 120, 39, 41]⟩, .int .i64 2, .int .i64 8,
  .string ⟨#[97, 32, 60, 45, 32, 33, 32, 98, 32, 60, 45, 32, 39, 120, 39]⟩, .int .i64 2, .int .i64 7,
  .string ⟨#[97, 32, 60, 45, 32, 39, 120, 39, 32, 60, 45, 32, 39, 121, 39]⟩, .int .i64 2, .int .i64 9,
  .string ⟨#[97, 32, 60, 45, 32, 39, 120, 39, 32, 36]⟩, .int .i64 2, .int .i64 9,
  .string ⟨#[97, 32, 60, 45, 32, 98, 32, 36, 32, 98, 32, 60, 45, 32, 39, 120, 39]⟩, .int .i64 2, .int .i64 7,
  .string ⟨#[97, 32, 60, 45, 32, 123, 98, 32, 99, 58, 32, 39, 120, 39, 125]⟩, .int .i64 2, .int .i64 9,
  .string ((D ++ ⟨#[39, 120, 39]⟩) ++ C), .int .i64 0, .int .i64 0,
  .string ((D ++ ⟨#[40, 39, 120, 39, 41]⟩) ++ C), .int .i64 3, .int .i64 17,
  .string ((D ++ ⟨#[123, 125]⟩) ++ C), .int .i64 3, .int .i64 17,
  .string (D ++ ⟨#[40]⟩), .int .i64 3, .int .i64 17,
  .string ⟨#[97, 32, 60, 45, 32, 39, 120, 39, 32, 98, 32, 60, 45, 32, 39, 121, 39, 32, 97, 32, 60, 45, 32, 39, 122, 39]⟩, .int .i64 5, .int .i64 18,
  .string ⟨#[97, 32, 60, 45, 32, 99, 32, 97, 32, 60, 45, 32, 39, 122, 39]⟩, .int .i64 5, .int .i64 7,
  .string ⟨#[97, 32, 60, 45, 32, 39, 120, 39, 32, 40, 98, 32, 47, 32, 99, 41]⟩, .int .i64 6, .int .i64 10,
  .string ⟨#[97, 32, 60, 45, 32, 98, 32, 98, 32, 60, 45, 32, 39, 120, 39, 32, 99]⟩, .int .i64 6, .int .i64 16,
  .string ⟨#[97, 32, 60, 45, 32, 123, 98, 58, 32, 39, 120, 39, 125]⟩, .int .i64 0, .int .i64 0,
  .string ⟨#[97, 32, 60, 45, 32, 97, 32, 100]⟩, .int .i64 6, .int .i64 7,
  .string ⟨#[97, 32, 60, 45, 32, 97]⟩, .int .i64 7, .int .i64 0,
  .string ⟨#[97, 32, 60, 45, 32, 39, 120, 39, 32, 47, 32, 97, 32, 39, 121, 39]⟩, .int .i64 7, .int .i64 0,
  .string ⟨#[97, 32, 60, 45, 32, 39, 120, 39, 63, 32, 97]⟩, .int .i64 7, .int .i64 0,
  .string ⟨#[97, 32, 60, 45, 32, 39, 120, 39, 32, 97]⟩, .int .i64 0, .int .i64 0,
  .string ⟨#[97, 32, 60, 45, 32, 39, 120, 39, 32, 98, 32, 98, 32, 60, 45, 32, 99, 32, 99, 32, 60, 45, 32, 33, 39, 121, 39, 32, 98]⟩, .int .i64 7, .int .i64 11,
  .string ⟨#[97, 32, 60, 45, 32, 33, 97, 32, 39, 120, 39]⟩, .int .i64 7, .int .i64 0,
  .string ⟨#[97, 32, 60, 45, 32, 123, 125, 32, 97]⟩, .int .i64 7, .int .i64 0,
  .string ⟨#[97, 32, 60, 45, 32, 39, 39, 32, 97]⟩, .int .i64 7, .int .i64 0,
  .string ⟨#[97, 32, 60, 45, 32, 98, 32, 97, 32, 98, 32, 60, 45, 32, 39, 120, 39, 42]⟩, .int .i64 7, .int .i64 0,
  .string ⟨#[97, 32, 60, 45, 32, 98, 32, 97, 32, 98, 32, 60, 45, 32, 39, 120, 39, 43]⟩, .int .i64 0, .int .i64 0,
  .string ⟨#[98, 32, 60, 45, 32, 39, 120, 39, 32, 97, 32, 60, 45, 32, 97, 42, 32]⟩, .int .i64 7, .int .i64 9,
  .string ⟨#[97, 32, 60, 45, 32, 39, 39, 42]⟩, .int .i64 8, .int .i64 7,
  .string ⟨#[97, 32, 60, 45, 32, 40, 39, 120, 39, 63, 41, 43]⟩, .int .i64 8, .int .i64 11,
  .string ⟨#[97, 32, 60, 45, 32, 39, 120, 39, 42, 42]⟩, .int .i64 8, .int .i64 9,
  .string ⟨#[97, 32, 60, 45, 32, 98, 43, 32, 98, 32, 60, 45, 32, 33, 39, 120, 39]⟩, .int .i64 8, .int .i64 6,
  .string ⟨#[97, 32, 60, 45, 32, 40, 39, 120, 39, 42, 32, 123, 125, 42, 41, 42]⟩, .int .i64 8, .int .i64 13,
  .string ⟨#[97, 32, 60, 45, 32, 123, 39, 120, 39, 42, 125, 42]⟩, .int .i64 8, .int .i64 11,
  .string ⟨#[97, 32, 60, 45, 32, 40, 39, 120, 39, 32, 47, 32, 98, 41, 42, 32, 98, 32, 60, 45, 32, 39, 121, 39, 32, 47, 32]⟩, .int .i64 8, .int .i64 14,
  .string ⟨#[97, 32, 60, 45, 32, 39, 120, 39, 42, 63, 32]⟩, .int .i64 0, .int .i64 0,
  .string ⟨#[97, 32, 60, 45, 32, 40, 39, 120, 39, 32, 39, 121, 39, 42, 41, 42]⟩, .int .i64 0, .int .i64 0]

def zeroT : Array Value := (Array.range (80 * 3)).map fun j => (#[Value.string ⟨#[]⟩, .int .i64 0, .int .i64 0] : Array Value)[j % (#[Value.string ⟨#[]⟩, .int .i64 0, .int .i64 0] : Array Value).size]!

theorem info26 : (Try.prog.info? 26).map (fun i => (i.zero, i.size, i.bytes)) = some (some (.agg #[.string ⟨#[]⟩, .int .i64 0, .int .i64 0]), 3, 32) := by kernel_rfl

theorem wp_buildT {o : Oper} {a : Act} {w : World} {K : Act → World → Prop} {Q : Exit → Act → World → Prop} (parts : Array (Nat × Operand)) (ho : o.op = .buildSlice 22 80 parts) (cells : Array Value)
    (hfill : Instr.fill (fun i => some (i * 3, 3)) zeroT (parts.map fun x => (x.1, a.eval x.2)).toList = some cells)
    (h : K (a.put o.dst (.slice (some ⟨w.heap.size, 0, none⟩) 80 80)) (w.alloc (.cells cells 26))) : o.wp Try.prog a w K Q := by
  obtain ⟨i, hi, hz, hsz, hby⟩ := info_parts info26
  have hrun : (Instr.buildSlice 22 80 (parts.map fun x => (x.1, a.eval x.2))).run Try.prog w = .ok (.slice (some ⟨w.heap.size, 0, none⟩) 80 80) (w.alloc (.cells cells 26)) := by
    unfold Instr.buildSlice
    have hs : ∀ w, (sizeOf 26).run Try.prog w = .ok 3 w := fun w => by simp [sizeOf, typeInfo, hi, hsz]
    have hzv : ∀ w, (zeroValue 26).run Try.prog w = .ok (.agg #[.string ⟨#[]⟩, .int .i64 0, .int .i64 0]) w := fun w => by simp [zeroValue, typeInfo, hi, hz]
    have hnr : ∀ w, (newRow 26 cells).run Try.prog w = .ok ⟨w.heap.size, 0, none⟩ (w.alloc (.cells cells 26)) := fun w => by simp [newRow]
    simp only [Sem.run_bind, run_underlying Try.underlying22, Result.andThen_ok, hs]
    rw [if_neg (by decide), if_neg (by decide)]
    simp only [Sem.run_bind, hzv, Result.andThen_ok, Sem.run_pure]
    have hfill' : Instr.fill (fun i => some (i * 3, 3)) (Array.map (fun x => (Value.agg #[.string ⟨#[]⟩, .int .i64 0, .int .i64 0]).cells[x % (Value.agg #[.string ⟨#[]⟩, .int .i64 0, .int .i64 0]).cells.size]!) (Array.range (80 * 3))) (parts.map fun x => (x.1, a.eval x.2)).toList = some cells := hfill
    rw [hfill']
    simp only [Sem.run_bind, hnr, Result.andThen_ok, Sem.run_pure]
  unfold Oper.wp execOp
  simp only [ho]
  simp only [Sem.run_bind, hrun, Result.andThen_ok, Sem.run_pure]
  exact h

end Go.Proofs.Ytbojcemamhiodab
