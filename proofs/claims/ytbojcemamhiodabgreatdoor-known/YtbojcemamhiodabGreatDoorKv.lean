import Derived.Test.YtbojcemamhiodabGreatDoorRows
import Derived.Test.YtbojcemamhiodabGreatDoorKn3
import Derived.ProofKit
import Derived.LaidMore
import Derived.OpenShut
import Derived.Stop.Joined
import Derived.Lib.LaidTab
import Derived.Stop.LaidErr
namespace Go.Proofs.YtbojcemamhiodabGreatDoor
open Go.ChangeShapes Go.WideShapes Go.ChangeAt Go.RowKit

def deB : List Int := [0, 1, 56, 2, 57, 49, 28, 3, 61, 58, 42, 50, 38, 29, 17, 4, 62, 47, 59, 36, 45, 43, 51, 22, 53, 39, 33, 30, 24, 18, 12, 5, 63, 55, 48, 27, 60, 41, 37, 16, 46, 35, 44, 21, 52, 32, 23, 11, 54, 26, 40, 15, 34, 20, 31, 10, 25, 14, 19, 9, 13, 8, 7, 6]
set_option maxRecDepth 100000 in
/-- what the condition gives: the one cell that FormatInt reads -/
theorem tab_of {W : World} (h : laidMetH Tryz.prog Rows.knownRow.laid W) : Tab W := by
  rw [MakeChecks.laidMetH_plain _ _ _ (by kernel_rfl)] at h
  have h2 := laidMet.tail h
  have h3 := Lib.tabIs_of_head (k := .u8) (zs := deB) (g := 2) (t := 143) (e := 5) (n := 64) (by kernel_rfl) (by kernel_rfl) Tryz.underlying143 Tryz.underlying5 (by kernel_rfl) (by kernel_rfl) h2
  have h4 := h3.cell (g := 2) (by kernel_rfl) 15 (by decide)
  refine ⟨h4, ?_⟩
  rcases Nat.lt_or_ge 2 W.heap.size with h5 | h5
  · exact h5
  · rw [World.cell?, Array.getElem?_eq_none h5] at h4
    cases h4
end Go.Proofs.YtbojcemamhiodabGreatDoor
