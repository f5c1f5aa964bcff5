/-
  DERIVED. GIVEN WITH THE SEED: THE CARDS: each row of YtdhoimjkgicneacDoorRows.lean that lists a variable, with what it lists TIED to the program's text (the seventh form; the later family's looks); each row that meets fmt, with fmt's text TOLD by the authors' own Lean function (tested against real Go, not proved from fmt's source: count such statements apart). THE CARD IS WHAT COUNTS. Prove the row's statement (the work); the ties are given (YtdhoimjkgicneacDoorTie.lean); close each card by the builder's one call (the guide's Derived/Test/ToyasCard.lean, 'card_holds'). Laid BY PROGRAM, IN A SANDBOX (cutbox-door.mjs). By AI agents, Wed Nov 11 2026. No macro, syntax, notation, axiom, sorry.
-/
import Derived.Test.YtdhoimjkgicneacDoorRows
import GoSem.ClaimSeven
namespace Go.Proofs.YtdhoimjkgicneacDoor
namespace Rows

/-- THE TIED CARD OF 'laws.FnExactMemReal'. -/
def fnExactMemRealCard : Claim7 := { stood := { row := fnExactMemRealRow, standIns := [], harness := (true, "5f0465974c577e8f591d31604a4e45e36cb1478ca9bad3ead0cc53b21cbb6817"), looks := false }, kinds := [], alts := [], laidByText := true, laidKinds := [.data], laidTests := true, laidLooks := .later }
def FnExactMemRealCardSaid : Prop := Claim7.holds Tryd.pinned (.plain (OpenSpec.ofChange fnExactMemRealSpec)) fnExactMemRealCard

/-- THE TIED CARD OF 'laws.FnExactMemPutReal'. -/
def fnExactMemPutRealCard : Claim7 := { stood := { row := fnExactMemPutRealRow, standIns := [], harness := (true, "5f0465974c577e8f591d31604a4e45e36cb1478ca9bad3ead0cc53b21cbb6817"), looks := false }, kinds := [], alts := [], laidByText := true, laidKinds := [.data], laidTests := true, laidLooks := .later }
def FnExactMemPutRealCardSaid : Prop := Claim7.holds Tryd.pinned (.plain (OpenSpec.ofChange fnExactMemPutRealSpec)) fnExactMemPutRealCard

/-- THE TIED CARD OF 'laws.FnExactMemText'. -/
def fnExactMemTextCard : Claim7 := { stood := { row := fnExactMemTextRow, standIns := [], harness := (true, "5f0465974c577e8f591d31604a4e45e36cb1478ca9bad3ead0cc53b21cbb6817"), looks := false }, kinds := [], alts := [], laidByText := true, laidKinds := [.data, .data, .data, .data, .data], laidTests := true, laidLooks := .later }
def FnExactMemTextCardSaid : Prop := Claim7.holds Tryd.pinned (.plain (OpenSpec.ofChange fnExactMemTextSpec)) fnExactMemTextCard

/-- THE SECOND FORM's CARD OF 'laws.FnExactMemReal'. -/
def fnExactMemRealUptoCard : Claim7 := { stood := { row := fnExactMemRealUptoRow, standIns := [], harness := (true, "5f0465974c577e8f591d31604a4e45e36cb1478ca9bad3ead0cc53b21cbb6817"), looks := false }, kinds := [], alts := [], laidByText := true, laidKinds := [.data], laidTests := true, laidLooks := .later }
def FnExactMemRealUptoCardSaid : Prop := Claim7.holds Tryd.pinned (.plain (OpenSpec.upto fnExactMemRealSpec)) fnExactMemRealUptoCard

/-- THE SECOND FORM's CARD OF 'laws.FnExactMemPutReal'. -/
def fnExactMemPutRealUptoCard : Claim7 := { stood := { row := fnExactMemPutRealUptoRow, standIns := [], harness := (true, "5f0465974c577e8f591d31604a4e45e36cb1478ca9bad3ead0cc53b21cbb6817"), looks := false }, kinds := [], alts := [], laidByText := true, laidKinds := [.data], laidTests := true, laidLooks := .later }
def FnExactMemPutRealUptoCardSaid : Prop := Claim7.holds Tryd.pinned (.plain (OpenSpec.upto fnExactMemPutRealSpec)) fnExactMemPutRealUptoCard

/-- THE SECOND FORM's CARD OF 'laws.FnExactMemText'. -/
def fnExactMemTextUptoCard : Claim7 := { stood := { row := fnExactMemTextUptoRow, standIns := [], harness := (true, "5f0465974c577e8f591d31604a4e45e36cb1478ca9bad3ead0cc53b21cbb6817"), looks := false }, kinds := [], alts := [], laidByText := true, laidKinds := [.data, .data, .data, .data, .data], laidTests := true, laidLooks := .later }
def FnExactMemTextUptoCardSaid : Prop := Claim7.holds Tryd.pinned (.plain (OpenSpec.upto fnExactMemTextSpec)) fnExactMemTextUptoCard
end Rows
end Go.Proofs.YtdhoimjkgicneacDoor
