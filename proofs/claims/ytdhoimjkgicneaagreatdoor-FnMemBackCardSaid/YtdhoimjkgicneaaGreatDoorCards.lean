/-
  DERIVED. GIVEN WITH THE SEED: THE CARDS: each row of YtdhoimjkgicneaaGreatDoorRows.lean that lists a variable, with what it lists TIED to the program's text (the seventh form; the later family's looks); each row that meets fmt, with fmt's text TOLD by the authors' own Lean function (tested against real Go, not proved from fmt's source: count such statements apart). THE CARD IS WHAT COUNTS. Prove the row's statement (the work); the ties are given (YtdhoimjkgicneaaGreatDoorTie.lean); close each card by the builder's one call (the guide's Derived/Test/ToyasCard.lean, 'card_holds'). Laid BY PROGRAM, IN A SANDBOX (cutbox-door.mjs). By AI agents, Wed Nov 11 2026. No macro, syntax, notation, axiom, sorry.
-/
import Derived.Test.YtdhoimjkgicneaaGreatDoorRows
import GoSem.ClaimSeven
namespace Go.Proofs.YtdhoimjkgicneaaGreatDoor
namespace Rows

/-- THE TIED CARD OF 'laws.FnMemBack'. -/
def fnMemBackCard : Claim7 := { stood := { row := fnMemBackRow, standIns := [], harness := (true, "789b2818f636e3dc3d90bce2bc20429ae3daa0c12123cba47cfe9e6f162a26d7"), looks := true }, kinds := [], alts := [], laidByText := true, laidKinds := [.data, .data, .data, .data, .sentinel, .sentinel, .data, .data, .pinned], laidTests := true, laidLooks := .later }
def FnMemBackCardSaid : Prop := Claim7.holds Tryz.pinned (.plain (OpenSpec.ofChange fnMemBackSpec)) fnMemBackCard

/-- THE SECOND FORM's CARD OF 'laws.FnMemBack'. -/
def fnMemBackUptoCard : Claim7 := { stood := { row := fnMemBackUptoRow, standIns := [], harness := (true, "789b2818f636e3dc3d90bce2bc20429ae3daa0c12123cba47cfe9e6f162a26d7"), looks := true }, kinds := [], alts := [], laidByText := true, laidKinds := [.data, .data, .data, .data, .sentinel, .sentinel, .data, .data, .pinned], laidTests := true, laidLooks := .later }
def FnMemBackUptoCardSaid : Prop := Claim7.holds Tryz.pinned (.plain (OpenSpec.upto fnMemBackSpec)) fnMemBackUptoCard
end Rows
end Go.Proofs.YtdhoimjkgicneaaGreatDoor
