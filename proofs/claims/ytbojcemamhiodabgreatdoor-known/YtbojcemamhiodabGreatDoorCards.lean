/-
  DERIVED. GIVEN WITH THE SEED: THE CARDS: each row of YtbojcemamhiodabGreatDoorRows.lean that lists a variable, with what it lists TIED to the program's text (the seventh form; the later family's looks); each row that meets fmt, with fmt's text TOLD by the authors' own Lean function (tested against real Go, not proved from fmt's source: count such statements apart). THE CARD IS WHAT COUNTS. Prove the row's statement (the work); the ties are given (YtbojcemamhiodabGreatDoorTie.lean); close each card by the builder's one call (the guide's Derived/Test/ToyasCard.lean, 'card_holds'). Laid BY PROGRAM, IN A SANDBOX (cutbox-door.mjs). By AI agents, Wed Nov 11 2026. No macro, syntax, notation, axiom, sorry.
-/
import Derived.Test.YtbojcemamhiodabGreatDoorRows
import GoSem.ClaimSeven
namespace Go.Proofs.YtbojcemamhiodabGreatDoor
namespace Rows

/-- THE TIED CARD OF 'pegkeep.First'. -/
def firstCard : Claim7 := { stood := { row := firstRow, standIns := [], harness := (true, "cbaeefc1e9ada2ae63bc3861f54cbaacfb7e571302be4fc8f774b79dee046ae2"), looks := false }, kinds := [], alts := [], laidByText := true, laidKinds := [.data, .data, .data], laidTests := true, laidLooks := .later }
def FirstCardSaid : Prop := Claim7.holds Tryz.pinned (.plain (OpenSpec.ofChange firstSpec)) firstCard

/-- THE TIED CARD OF 'pegkeep.Read'. -/
def readCard : Claim7 := { stood := { row := readRow, standIns := [], harness := (true, "cbaeefc1e9ada2ae63bc3861f54cbaacfb7e571302be4fc8f774b79dee046ae2"), looks := false }, kinds := [], alts := [], laidByText := true, laidKinds := [.data, .data, .data], laidTests := true, laidLooks := .later }
def ReadCardSaid : Prop := Claim7.holds Tryz.pinned (.plain (OpenSpec.ofChange readSpec)) readCard

/-- THE TIED CARD OF 'pegkeep.Known'. -/
def knownCard : Claim7 := { stood := { row := knownRow, standIns := [], harness := (true, "cbaeefc1e9ada2ae63bc3861f54cbaacfb7e571302be4fc8f774b79dee046ae2"), looks := false }, kinds := [], alts := [], laidByText := true, laidKinds := [.data, .data, .data], laidTests := true, laidLooks := .later }
def KnownCardSaid : Prop := Claim7.holds Tryz.pinned (.plain (OpenSpec.ofChange knownSpec)) knownCard

/-- THE SECOND FORM's CARD OF 'pegkeep.First'. -/
def firstUptoCard : Claim7 := { stood := { row := firstUptoRow, standIns := [], harness := (true, "cbaeefc1e9ada2ae63bc3861f54cbaacfb7e571302be4fc8f774b79dee046ae2"), looks := false }, kinds := [], alts := [], laidByText := true, laidKinds := [.data, .data, .data], laidTests := true, laidLooks := .later }
def FirstUptoCardSaid : Prop := Claim7.holds Tryz.pinned (.plain (OpenSpec.upto firstSpec)) firstUptoCard

/-- THE SECOND FORM's CARD OF 'pegkeep.Read'. -/
def readUptoCard : Claim7 := { stood := { row := readUptoRow, standIns := [], harness := (true, "cbaeefc1e9ada2ae63bc3861f54cbaacfb7e571302be4fc8f774b79dee046ae2"), looks := false }, kinds := [], alts := [], laidByText := true, laidKinds := [.data, .data, .data], laidTests := true, laidLooks := .later }
def ReadUptoCardSaid : Prop := Claim7.holds Tryz.pinned (.plain (OpenSpec.upto readSpec)) readUptoCard

/-- THE SECOND FORM's CARD OF 'pegkeep.Known'. -/
def knownUptoCard : Claim7 := { stood := { row := knownUptoRow, standIns := [], harness := (true, "cbaeefc1e9ada2ae63bc3861f54cbaacfb7e571302be4fc8f774b79dee046ae2"), looks := false }, kinds := [], alts := [], laidByText := true, laidKinds := [.data, .data, .data], laidTests := true, laidLooks := .later }
def KnownUptoCardSaid : Prop := Claim7.holds Tryz.pinned (.plain (OpenSpec.upto knownSpec)) knownUptoCard
end Rows
end Go.Proofs.YtbojcemamhiodabGreatDoor
