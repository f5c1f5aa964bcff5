/-
  DERIVED. GIVEN WITH THE SEED: THE CARDS: each row of YtaimgafbjmgplaaDoorRows.lean that lists a variable, with what it lists TIED to the program's text (the seventh form; the later family's looks); each row that meets fmt, with fmt's text TOLD by the authors' own Lean function (tested against real Go, not proved from fmt's source: count such statements apart). THE CARD IS WHAT COUNTS. Prove the row's statement (the work); the ties are given (YtaimgafbjmgplaaDoorTie.lean); close each card by the builder's one call (the guide's Derived/Test/ToyasCard.lean, 'card_holds'). Laid BY PROGRAM, IN A SANDBOX (cutbox-door.mjs). By AI agents, Wed Nov 11 2026. No macro, syntax, notation, axiom, sorry.
-/
import Derived.Test.YtaimgafbjmgplaaDoorRows
import GoSem.ClaimSeven
namespace Go.Proofs.YtaimgafbjmgplaaDoor
namespace Rows

/-- THE TIED CARD OF 'laws.FnDevBack'. -/
def fnDevBackCard : Claim7 := { stood := { row := fnDevBackRow, standIns := [], harness := (true, "03bfc9f5a1b79612663e56f057f210009ebaed4c12d3656639e14eda812774c3"), looks := false }, kinds := [], alts := [], laidByText := true, laidKinds := [.data, .data, .data, .data, .data], laidTests := true, laidLooks := .later }
def FnDevBackCardSaid : Prop := Claim7.holds Tryd.pinned (.plain (OpenSpec.ofChange fnDevBackSpec)) fnDevBackCard

/-- THE SECOND FORM's CARD OF 'laws.FnDevBack'. -/
def fnDevBackUptoCard : Claim7 := { stood := { row := fnDevBackUptoRow, standIns := [], harness := (true, "03bfc9f5a1b79612663e56f057f210009ebaed4c12d3656639e14eda812774c3"), looks := false }, kinds := [], alts := [], laidByText := true, laidKinds := [.data, .data, .data, .data, .data], laidTests := true, laidLooks := .later }
def FnDevBackUptoCardSaid : Prop := Claim7.holds Tryd.pinned (.plain (OpenSpec.upto fnDevBackSpec)) fnDevBackUptoCard
end Rows
end Go.Proofs.YtaimgafbjmgplaaDoor
