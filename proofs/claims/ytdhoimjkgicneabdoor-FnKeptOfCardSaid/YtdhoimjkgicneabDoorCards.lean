/-
  DERIVED. GIVEN WITH THE SEED: THE CARDS: each row of YtdhoimjkgicneabDoorRows.lean that lists a variable, with what it lists TIED to the program's text (the seventh form; the later family's looks); each row that meets fmt, with fmt's text TOLD by the authors' own Lean function (tested against real Go, not proved from fmt's source: count such statements apart). THE CARD IS WHAT COUNTS. Prove the row's statement (the work); the ties are given (YtdhoimjkgicneabDoorTie.lean); close each card by the builder's one call (the guide's Derived/Test/ToyasCard.lean, 'card_holds'). Laid BY PROGRAM, IN A SANDBOX (cutbox-door.mjs). By AI agents, Wed Nov 11 2026. No macro, syntax, notation, axiom, sorry.
-/
import Derived.Test.YtdhoimjkgicneabDoorRows
import GoSem.ClaimSeven
namespace Go.Proofs.YtdhoimjkgicneabDoor
namespace Rows

/-- THE TIED CARD OF 'laws.FnKeptOf'. -/
def fnKeptOfCard : Claim7 := { stood := { row := fnKeptOfRow, standIns := [], harness := (true, "310ae952ba9f949b591190f1ede0abea98cdd47bf7251ab937c9f195d6eac70e"), looks := false }, kinds := [], alts := [], laidByText := true, laidKinds := [.data], laidTests := true, laidLooks := .later }
def FnKeptOfCardSaid : Prop := Claim7.holds Tryd.pinned (.plain (OpenSpec.ofChange fnKeptOfSpec)) fnKeptOfCard

/-- THE TIED CARD OF 'laws.FnExactDevText'. -/
def fnExactDevTextCard : Claim7 := { stood := { row := fnExactDevTextRow, standIns := [], harness := (true, "310ae952ba9f949b591190f1ede0abea98cdd47bf7251ab937c9f195d6eac70e"), looks := false }, kinds := [], alts := [], laidByText := true, laidKinds := [.data, .data, .data, .data, .data], laidTests := true, laidLooks := .later }
def FnExactDevTextCardSaid : Prop := Claim7.holds Tryd.pinned (.plain (OpenSpec.ofChange fnExactDevTextSpec)) fnExactDevTextCard

/-- THE TIED CARD OF 'laws.FnExactMemBit'. -/
def fnExactMemBitCard : Claim7 := { stood := { row := fnExactMemBitRow, standIns := [], harness := (true, "310ae952ba9f949b591190f1ede0abea98cdd47bf7251ab937c9f195d6eac70e"), looks := false }, kinds := [], alts := [], laidByText := true, laidKinds := [.data], laidTests := true, laidLooks := .later }
def FnExactMemBitCardSaid : Prop := Claim7.holds Tryd.pinned (.plain (OpenSpec.ofChange fnExactMemBitSpec)) fnExactMemBitCard

/-- THE TIED CARD OF 'laws.FnExactMemPut'. -/
def fnExactMemPutCard : Claim7 := { stood := { row := fnExactMemPutRow, standIns := [], harness := (true, "310ae952ba9f949b591190f1ede0abea98cdd47bf7251ab937c9f195d6eac70e"), looks := false }, kinds := [], alts := [], laidByText := true, laidKinds := [.data], laidTests := true, laidLooks := .later }
def FnExactMemPutCardSaid : Prop := Claim7.holds Tryd.pinned (.plain (OpenSpec.ofChange fnExactMemPutSpec)) fnExactMemPutCard

/-- THE TIED CARD OF 'laws.FnExactMemWhole'. -/
def fnExactMemWholeCard : Claim7 := { stood := { row := fnExactMemWholeRow, standIns := [], harness := (true, "310ae952ba9f949b591190f1ede0abea98cdd47bf7251ab937c9f195d6eac70e"), looks := false }, kinds := [], alts := [], laidByText := true, laidKinds := [.data], laidTests := true, laidLooks := .later }
def FnExactMemWholeCardSaid : Prop := Claim7.holds Tryd.pinned (.plain (OpenSpec.ofChange fnExactMemWholeSpec)) fnExactMemWholeCard

/-- THE TIED CARD OF 'laws.FnExactMemPutWhole'. -/
def fnExactMemPutWholeCard : Claim7 := { stood := { row := fnExactMemPutWholeRow, standIns := [], harness := (true, "310ae952ba9f949b591190f1ede0abea98cdd47bf7251ab937c9f195d6eac70e"), looks := false }, kinds := [], alts := [], laidByText := true, laidKinds := [.data], laidTests := true, laidLooks := .later }
def FnExactMemPutWholeCardSaid : Prop := Claim7.holds Tryd.pinned (.plain (OpenSpec.ofChange fnExactMemPutWholeSpec)) fnExactMemPutWholeCard

/-- THE SECOND FORM's CARD OF 'laws.FnKeptOf'. -/
def fnKeptOfUptoCard : Claim7 := { stood := { row := fnKeptOfUptoRow, standIns := [], harness := (true, "310ae952ba9f949b591190f1ede0abea98cdd47bf7251ab937c9f195d6eac70e"), looks := false }, kinds := [], alts := [], laidByText := true, laidKinds := [.data], laidTests := true, laidLooks := .later }
def FnKeptOfUptoCardSaid : Prop := Claim7.holds Tryd.pinned (.plain (OpenSpec.upto fnKeptOfSpec)) fnKeptOfUptoCard

/-- THE SECOND FORM's CARD OF 'laws.FnExactDevText'. -/
def fnExactDevTextUptoCard : Claim7 := { stood := { row := fnExactDevTextUptoRow, standIns := [], harness := (true, "310ae952ba9f949b591190f1ede0abea98cdd47bf7251ab937c9f195d6eac70e"), looks := false }, kinds := [], alts := [], laidByText := true, laidKinds := [.data, .data, .data, .data, .data], laidTests := true, laidLooks := .later }
def FnExactDevTextUptoCardSaid : Prop := Claim7.holds Tryd.pinned (.plain (OpenSpec.upto fnExactDevTextSpec)) fnExactDevTextUptoCard

/-- THE SECOND FORM's CARD OF 'laws.FnExactMemBit'. -/
def fnExactMemBitUptoCard : Claim7 := { stood := { row := fnExactMemBitUptoRow, standIns := [], harness := (true, "310ae952ba9f949b591190f1ede0abea98cdd47bf7251ab937c9f195d6eac70e"), looks := false }, kinds := [], alts := [], laidByText := true, laidKinds := [.data], laidTests := true, laidLooks := .later }
def FnExactMemBitUptoCardSaid : Prop := Claim7.holds Tryd.pinned (.plain (OpenSpec.upto fnExactMemBitSpec)) fnExactMemBitUptoCard

/-- THE SECOND FORM's CARD OF 'laws.FnExactMemPut'. -/
def fnExactMemPutUptoCard : Claim7 := { stood := { row := fnExactMemPutUptoRow, standIns := [], harness := (true, "310ae952ba9f949b591190f1ede0abea98cdd47bf7251ab937c9f195d6eac70e"), looks := false }, kinds := [], alts := [], laidByText := true, laidKinds := [.data], laidTests := true, laidLooks := .later }
def FnExactMemPutUptoCardSaid : Prop := Claim7.holds Tryd.pinned (.plain (OpenSpec.upto fnExactMemPutSpec)) fnExactMemPutUptoCard

/-- THE SECOND FORM's CARD OF 'laws.FnExactMemWhole'. -/
def fnExactMemWholeUptoCard : Claim7 := { stood := { row := fnExactMemWholeUptoRow, standIns := [], harness := (true, "310ae952ba9f949b591190f1ede0abea98cdd47bf7251ab937c9f195d6eac70e"), looks := false }, kinds := [], alts := [], laidByText := true, laidKinds := [.data], laidTests := true, laidLooks := .later }
def FnExactMemWholeUptoCardSaid : Prop := Claim7.holds Tryd.pinned (.plain (OpenSpec.upto fnExactMemWholeSpec)) fnExactMemWholeUptoCard

/-- THE SECOND FORM's CARD OF 'laws.FnExactMemPutWhole'. -/
def fnExactMemPutWholeUptoCard : Claim7 := { stood := { row := fnExactMemPutWholeUptoRow, standIns := [], harness := (true, "310ae952ba9f949b591190f1ede0abea98cdd47bf7251ab937c9f195d6eac70e"), looks := false }, kinds := [], alts := [], laidByText := true, laidKinds := [.data], laidTests := true, laidLooks := .later }
def FnExactMemPutWholeUptoCardSaid : Prop := Claim7.holds Tryd.pinned (.plain (OpenSpec.upto fnExactMemPutWholeSpec)) fnExactMemPutWholeUptoCard
end Rows
end Go.Proofs.YtdhoimjkgicneabDoor
