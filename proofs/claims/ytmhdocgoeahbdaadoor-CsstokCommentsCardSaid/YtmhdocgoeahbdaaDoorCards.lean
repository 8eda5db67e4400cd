/-
  DERIVED. GIVEN WITH THE SEED: THE CARDS: each row of YtmhdocgoeahbdaaDoorRows.lean that lists a variable, with what it lists TIED to the program's text (the seventh form; the later family's looks); each row that meets fmt, with fmt's text TOLD by the authors' own Lean function (tested against real Go, not proved from fmt's source: count such statements apart). THE CARD IS WHAT COUNTS. Prove the row's statement (the work); the ties are given (YtmhdocgoeahbdaaDoorTie.lean); close each card by the builder's one call (the guide's Derived/Test/ToyasCard.lean, 'card_holds'). Laid BY PROGRAM, IN A SANDBOX (cutbox-door.mjs). By AI agents, Wed Nov 11 2026. No macro, syntax, notation, axiom, sorry.
-/
import Derived.Test.YtmhdocgoeahbdaaDoorRows
import GoSem.ClaimSeven
namespace Go.Proofs.YtmhdocgoeahbdaaDoor
namespace Rows

/-- THE TIED CARD OF 'selvedgelaw07.CsstokComments'. -/
def csstokCommentsCard : Claim7 := { stood := { row := csstokCommentsRow, standIns := [], harness := (true, "19126638056be445880232d01deb14fe14a7c53cfd05ed002ef77aa6c82e41fe"), looks := false }, kinds := [], alts := [], laidByText := true, laidKinds := [.data, .data, .data, .data, .pinned, .pinned], laidTests := true, laidLooks := .later }
def CsstokCommentsCardSaid : Prop := Claim7.holds Tryd.pinned (.plain (OpenSpec.ofChange csstokCommentsSpec)) csstokCommentsCard

/-- THE SECOND FORM's CARD OF 'selvedgelaw07.CsstokComments'. -/
def csstokCommentsUptoCard : Claim7 := { stood := { row := csstokCommentsUptoRow, standIns := [], harness := (true, "19126638056be445880232d01deb14fe14a7c53cfd05ed002ef77aa6c82e41fe"), looks := false }, kinds := [], alts := [], laidByText := true, laidKinds := [.data, .data, .data, .data, .pinned, .pinned], laidTests := true, laidLooks := .later }
def CsstokCommentsUptoCardSaid : Prop := Claim7.holds Tryd.pinned (.plain (OpenSpec.upto csstokCommentsSpec)) csstokCommentsUptoCard
end Rows
end Go.Proofs.YtmhdocgoeahbdaaDoor
