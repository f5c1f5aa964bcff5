/-
  DERIVED. GIVEN WITH THE SEED: THE CARDS: each row of YtdhoimjkgicneaaDoorRows.lean that lists a variable, with what it lists TIED to the program's text (the seventh form; the later family's looks); each row that meets fmt, with fmt's text TOLD by the authors' own Lean function (tested against real Go, not proved from fmt's source: count such statements apart). THE CARD IS WHAT COUNTS. Prove the row's statement (the work); the ties are given (YtdhoimjkgicneaaDoorTie.lean); close each card by the builder's one call (the guide's Derived/Test/ToyasCard.lean, 'card_holds'). Laid BY PROGRAM, IN A SANDBOX (cutbox-door.mjs). By AI agents, Wed Nov 11 2026. No macro, syntax, notation, axiom, sorry.
-/
import Derived.Test.YtdhoimjkgicneaaDoorRows
import GoSem.ClaimSeven
namespace Go.Proofs.YtdhoimjkgicneaaDoor
namespace Rows

/-- THE TIED CARD OF 'laws.FnDevBack'. -/
def fnDevBackCard : Claim7 := { stood := { row := fnDevBackRow, standIns := [], harness := (true, "7438531095de810502e680239d97180767fab73c454307eb0090e1937771dccf"), looks := true }, kinds := [], alts := [], laidByText := true, laidKinds := [.data, .data, .data, .data, .data], laidTests := true, laidLooks := .later }
def FnDevBackCardSaid : Prop := Claim7.holds Tryd.pinned (.plain (OpenSpec.ofChange fnDevBackSpec)) fnDevBackCard

/-- THE TIED CARD OF 'laws.FnFlip'. -/
def fnFlipCard : Claim7 := { stood := { row := fnFlipRow, standIns := [], harness := (true, "7438531095de810502e680239d97180767fab73c454307eb0090e1937771dccf"), looks := true }, kinds := [], alts := [], laidByText := true, laidKinds := [.data], laidTests := true, laidLooks := .later }
def FnFlipCardSaid : Prop := Claim7.holds Tryd.pinned (.plain (OpenSpec.ofChange fnFlipSpec)) fnFlipCard

/-- THE TIED CARD OF 'laws.FnSwap'. -/
def fnSwapCard : Claim7 := { stood := { row := fnSwapRow, standIns := [], harness := (true, "7438531095de810502e680239d97180767fab73c454307eb0090e1937771dccf"), looks := true }, kinds := [], alts := [], laidByText := true, laidKinds := [.data], laidTests := true, laidLooks := .later }
def FnSwapCardSaid : Prop := Claim7.holds Tryd.pinned (.plain (OpenSpec.ofChange fnSwapSpec)) fnSwapCard

/-- THE TIED CARD OF 'laws.FnRealBack'. -/
def fnRealBackCard : Claim7 := { stood := { row := fnRealBackRow, standIns := [], harness := (true, "7438531095de810502e680239d97180767fab73c454307eb0090e1937771dccf"), looks := true }, kinds := [], alts := [], laidByText := true, laidKinds := [.data, .data, .data, .sentinel, .sentinel], laidTests := true, laidLooks := .later }
def FnRealBackCardSaid : Prop := Claim7.holds Tryd.pinned (.plain (OpenSpec.ofChange fnRealBackSpec)) fnRealBackCard

/-- THE TIED CARD OF 'laws.FnRealArg'. -/
def fnRealArgCard : Claim7 := { stood := { row := fnRealArgRow, standIns := [], harness := (true, "7438531095de810502e680239d97180767fab73c454307eb0090e1937771dccf"), looks := true }, kinds := [], alts := [], laidByText := true, laidKinds := [.data], laidTests := true, laidLooks := .later }
def FnRealArgCardSaid : Prop := Claim7.holds Tryd.pinned (.plain (OpenSpec.ofChange fnRealArgSpec)) fnRealArgCard

/-- THE TIED CARD OF 'laws.FnMemPut'. -/
def fnMemPutCard : Claim7 := { stood := { row := fnMemPutRow, standIns := [], harness := (true, "7438531095de810502e680239d97180767fab73c454307eb0090e1937771dccf"), looks := true }, kinds := [], alts := [], laidByText := true, laidKinds := [.data], laidTests := true, laidLooks := .later }
def FnMemPutCardSaid : Prop := Claim7.holds Tryd.pinned (.plain (OpenSpec.ofChange fnMemPutSpec)) fnMemPutCard

/-- THE TIED CARD OF 'laws.FnMemPutNumber'. -/
def fnMemPutNumberCard : Claim7 := { stood := { row := fnMemPutNumberRow, standIns := [], harness := (true, "7438531095de810502e680239d97180767fab73c454307eb0090e1937771dccf"), looks := true }, kinds := [], alts := [], laidByText := true, laidKinds := [.data], laidTests := true, laidLooks := .later }
def FnMemPutNumberCardSaid : Prop := Claim7.holds Tryd.pinned (.plain (OpenSpec.ofChange fnMemPutNumberSpec)) fnMemPutNumberCard

/-- THE TIED CARD OF 'laws.FnMemSame'. -/
def fnMemSameCard : Claim7 := { stood := { row := fnMemSameRow, standIns := [], harness := (true, "7438531095de810502e680239d97180767fab73c454307eb0090e1937771dccf"), looks := true }, kinds := [], alts := [], laidByText := true, laidKinds := [.data, .data, .data, .data, .data], laidTests := true, laidLooks := .later }
def FnMemSameCardSaid : Prop := Claim7.holds Tryd.pinned (.plain (OpenSpec.ofChange fnMemSameSpec)) fnMemSameCard

/-- THE TIED CARD OF 'laws.FnMemRound'. -/
def fnMemRoundCard : Claim7 := { stood := { row := fnMemRoundRow, standIns := [], harness := (true, "7438531095de810502e680239d97180767fab73c454307eb0090e1937771dccf"), looks := true }, kinds := [], alts := [], laidByText := true, laidKinds := [.data], laidTests := true, laidLooks := .later }
def FnMemRoundCardSaid : Prop := Claim7.holds Tryd.pinned (.plain (OpenSpec.ofChange fnMemRoundSpec)) fnMemRoundCard

/-- THE SECOND FORM's CARD OF 'laws.FnDevBack'. -/
def fnDevBackUptoCard : Claim7 := { stood := { row := fnDevBackUptoRow, standIns := [], harness := (true, "7438531095de810502e680239d97180767fab73c454307eb0090e1937771dccf"), looks := true }, kinds := [], alts := [], laidByText := true, laidKinds := [.data, .data, .data, .data, .data], laidTests := true, laidLooks := .later }
def FnDevBackUptoCardSaid : Prop := Claim7.holds Tryd.pinned (.plain (OpenSpec.upto fnDevBackSpec)) fnDevBackUptoCard

/-- THE SECOND FORM's CARD OF 'laws.FnFlip'. -/
def fnFlipUptoCard : Claim7 := { stood := { row := fnFlipUptoRow, standIns := [], harness := (true, "7438531095de810502e680239d97180767fab73c454307eb0090e1937771dccf"), looks := true }, kinds := [], alts := [], laidByText := true, laidKinds := [.data], laidTests := true, laidLooks := .later }
def FnFlipUptoCardSaid : Prop := Claim7.holds Tryd.pinned (.plain (OpenSpec.upto fnFlipSpec)) fnFlipUptoCard

/-- THE SECOND FORM's CARD OF 'laws.FnSwap'. -/
def fnSwapUptoCard : Claim7 := { stood := { row := fnSwapUptoRow, standIns := [], harness := (true, "7438531095de810502e680239d97180767fab73c454307eb0090e1937771dccf"), looks := true }, kinds := [], alts := [], laidByText := true, laidKinds := [.data], laidTests := true, laidLooks := .later }
def FnSwapUptoCardSaid : Prop := Claim7.holds Tryd.pinned (.plain (OpenSpec.upto fnSwapSpec)) fnSwapUptoCard

/-- THE SECOND FORM's CARD OF 'laws.FnRealBack'. -/
def fnRealBackUptoCard : Claim7 := { stood := { row := fnRealBackUptoRow, standIns := [], harness := (true, "7438531095de810502e680239d97180767fab73c454307eb0090e1937771dccf"), looks := true }, kinds := [], alts := [], laidByText := true, laidKinds := [.data, .data, .data, .sentinel, .sentinel], laidTests := true, laidLooks := .later }
def FnRealBackUptoCardSaid : Prop := Claim7.holds Tryd.pinned (.plain (OpenSpec.upto fnRealBackSpec)) fnRealBackUptoCard

/-- THE SECOND FORM's CARD OF 'laws.FnRealArg'. -/
def fnRealArgUptoCard : Claim7 := { stood := { row := fnRealArgUptoRow, standIns := [], harness := (true, "7438531095de810502e680239d97180767fab73c454307eb0090e1937771dccf"), looks := true }, kinds := [], alts := [], laidByText := true, laidKinds := [.data], laidTests := true, laidLooks := .later }
def FnRealArgUptoCardSaid : Prop := Claim7.holds Tryd.pinned (.plain (OpenSpec.upto fnRealArgSpec)) fnRealArgUptoCard

/-- THE SECOND FORM's CARD OF 'laws.FnMemPut'. -/
def fnMemPutUptoCard : Claim7 := { stood := { row := fnMemPutUptoRow, standIns := [], harness := (true, "7438531095de810502e680239d97180767fab73c454307eb0090e1937771dccf"), looks := true }, kinds := [], alts := [], laidByText := true, laidKinds := [.data], laidTests := true, laidLooks := .later }
def FnMemPutUptoCardSaid : Prop := Claim7.holds Tryd.pinned (.plain (OpenSpec.upto fnMemPutSpec)) fnMemPutUptoCard

/-- THE SECOND FORM's CARD OF 'laws.FnMemPutNumber'. -/
def fnMemPutNumberUptoCard : Claim7 := { stood := { row := fnMemPutNumberUptoRow, standIns := [], harness := (true, "7438531095de810502e680239d97180767fab73c454307eb0090e1937771dccf"), looks := true }, kinds := [], alts := [], laidByText := true, laidKinds := [.data], laidTests := true, laidLooks := .later }
def FnMemPutNumberUptoCardSaid : Prop := Claim7.holds Tryd.pinned (.plain (OpenSpec.upto fnMemPutNumberSpec)) fnMemPutNumberUptoCard

/-- THE SECOND FORM's CARD OF 'laws.FnMemSame'. -/
def fnMemSameUptoCard : Claim7 := { stood := { row := fnMemSameUptoRow, standIns := [], harness := (true, "7438531095de810502e680239d97180767fab73c454307eb0090e1937771dccf"), looks := true }, kinds := [], alts := [], laidByText := true, laidKinds := [.data, .data, .data, .data, .data], laidTests := true, laidLooks := .later }
def FnMemSameUptoCardSaid : Prop := Claim7.holds Tryd.pinned (.plain (OpenSpec.upto fnMemSameSpec)) fnMemSameUptoCard

/-- THE SECOND FORM's CARD OF 'laws.FnMemRound'. -/
def fnMemRoundUptoCard : Claim7 := { stood := { row := fnMemRoundUptoRow, standIns := [], harness := (true, "7438531095de810502e680239d97180767fab73c454307eb0090e1937771dccf"), looks := true }, kinds := [], alts := [], laidByText := true, laidKinds := [.data], laidTests := true, laidLooks := .later }
def FnMemRoundUptoCardSaid : Prop := Claim7.holds Tryd.pinned (.plain (OpenSpec.upto fnMemRoundSpec)) fnMemRoundUptoCard
end Rows
end Go.Proofs.YtdhoimjkgicneaaDoor
