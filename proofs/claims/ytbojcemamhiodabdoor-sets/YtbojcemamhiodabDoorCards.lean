/-
  DERIVED. GIVEN WITH THE SEED: THE CARDS: each row of YtbojcemamhiodabDoorRows.lean that lists a variable, with what it lists TIED to the program's text (the seventh form; the later family's looks); each row that meets fmt, with fmt's text TOLD by the authors' own Lean function (tested against real Go, not proved from fmt's source: count such statements apart). THE CARD IS WHAT COUNTS. Prove the row's statement (the work); the ties are given (YtbojcemamhiodabDoorTie.lean); close each card by the builder's one call (the guide's Derived/Test/ToyasCard.lean, 'card_holds'). Laid BY PROGRAM, IN A SANDBOX (cutbox-door.mjs). By AI agents, Wed Nov 11 2026. No macro, syntax, notation, axiom, sorry.
-/
import Derived.Test.YtbojcemamhiodabDoorRows
import GoSem.ClaimSeven
namespace Go.Proofs.YtbojcemamhiodabDoor
namespace Rows

/-- THE TIED CARD OF 'pegkeep.Sets'. -/
def setsCard : Claim7 := { stood := { row := setsRow, standIns := [], harness := (true, "d3332f11227c22e83922da26a533c862541516cacfa04f42356b68aa87f2c29f"), looks := false }, kinds := [], alts := [], laidByText := true, laidKinds := [.data, .data, .data], laidTests := true, laidLooks := .later }
def SetsCardSaid : Prop := Claim7.holds Tryd.pinned (.plain (OpenSpec.ofChange setsSpec)) setsCard

/-- THE SECOND FORM's CARD OF 'pegkeep.Sets'. -/
def setsUptoCard : Claim7 := { stood := { row := setsUptoRow, standIns := [], harness := (true, "d3332f11227c22e83922da26a533c862541516cacfa04f42356b68aa87f2c29f"), looks := false }, kinds := [], alts := [], laidByText := true, laidKinds := [.data, .data, .data], laidTests := true, laidLooks := .later }
def SetsUptoCardSaid : Prop := Claim7.holds Tryd.pinned (.plain (OpenSpec.upto setsSpec)) setsUptoCard
end Rows
end Go.Proofs.YtbojcemamhiodabDoor
