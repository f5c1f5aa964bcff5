/-
  DERIVED. GIVEN WITH THE SEED: THE CARDS: each row of YtighhijbhmakeabDoorRows.lean that lists a variable, with what it lists TIED to the program's text (the seventh form; the later family's looks); each row that meets fmt, with fmt's text TOLD by the authors' own Lean function (tested against real Go, not proved from fmt's source: count such statements apart). THE CARD IS WHAT COUNTS. Prove the row's statement (the work); the ties are given (YtighhijbhmakeabDoorTie.lean); close each card by the builder's one call (the guide's Derived/Test/ToyasCard.lean, 'card_holds'). Laid BY PROGRAM, IN A SANDBOX (cutbox-door.mjs). By AI agents, Wed Nov 11 2026. No macro, syntax, notation, axiom, sorry.
-/
import Derived.Test.YtighhijbhmakeabDoorRows
import GoSem.ClaimSeven
namespace Go.Proofs.YtighhijbhmakeabDoor
namespace Rows

/-- THE TIED CARD OF 'laws.FnExactDevText'. -/
def fnExactDevTextCard : Claim7 := { stood := { row := fnExactDevTextRow, standIns := [], harness := (true, "cc923d3bc22127d8fc7cd8f9b11867b9d50f1f101d51b7ea6247e5562a8991fe"), looks := false }, kinds := [], alts := [], laidByText := true, laidKinds := [.data, .data, .data, .data, .data], laidTests := true, laidLooks := .later }
def FnExactDevTextCardSaid : Prop := Claim7.holds Tryd.pinned (.plain (OpenSpec.ofChange fnExactDevTextSpec)) fnExactDevTextCard

/-- THE SECOND FORM's CARD OF 'laws.FnExactDevText'. -/
def fnExactDevTextUptoCard : Claim7 := { stood := { row := fnExactDevTextUptoRow, standIns := [], harness := (true, "cc923d3bc22127d8fc7cd8f9b11867b9d50f1f101d51b7ea6247e5562a8991fe"), looks := false }, kinds := [], alts := [], laidByText := true, laidKinds := [.data, .data, .data, .data, .data], laidTests := true, laidLooks := .later }
def FnExactDevTextUptoCardSaid : Prop := Claim7.holds Tryd.pinned (.plain (OpenSpec.upto fnExactDevTextSpec)) fnExactDevTextUptoCard
end Rows
end Go.Proofs.YtighhijbhmakeabDoor
