/-
  DERIVED. GIVEN WITH THE SEED: THE CARDS: each row of YtmhdocgoeahbdaaGreatDoorRows.lean that lists a variable, with what it lists TIED to the program's text (the seventh form; the later family's looks); each row that meets fmt, with fmt's text TOLD by the authors' own Lean function (tested against real Go, not proved from fmt's source: count such statements apart). THE CARD IS WHAT COUNTS. Prove the row's statement (the work); the ties are given (YtmhdocgoeahbdaaGreatDoorTie.lean); close each card by the builder's one call (the guide's Derived/Test/ToyasCard.lean, 'card_holds'). Laid BY PROGRAM, IN A SANDBOX (cutbox-door.mjs). By AI agents, Wed Nov 11 2026. No macro, syntax, notation, axiom, sorry.
-/
import Derived.Test.YtmhdocgoeahbdaaGreatDoorRows
import GoSem.ClaimSeven
namespace Go.Proofs.YtmhdocgoeahbdaaGreatDoor
namespace Rows

/-- THE TIED CARD OF 'selvedgelaw07.CsstokReads'. -/
def csstokReadsCard : Claim7 := { stood := { row := csstokReadsRow, standIns := [], harness := (true, "f049b8172c6c862b1331e363ee18169291011059b21d0dfc0ea2f53ee3cee471"), looks := false }, kinds := [], alts := [], laidByText := true, laidKinds := [.data, .data, .data, .data, .pinned, .pinned], laidTests := true, laidLooks := .later }
def CsstokReadsCardSaid : Prop := Claim7.holds Tryz.pinned (.plain (OpenSpec.ofChange csstokReadsSpec)) csstokReadsCard

/-- THE TIED CARD OF 'selvedgelaw07.CsstokPrints'. -/
def csstokPrintsCard : Claim7 := { stood := { row := csstokPrintsRow, standIns := [], harness := (true, "f049b8172c6c862b1331e363ee18169291011059b21d0dfc0ea2f53ee3cee471"), looks := false }, kinds := [], alts := [], laidByText := true, laidKinds := [.data, .data, .data, .data, .pinned, .pinned], laidTests := true, laidLooks := .later }
def CsstokPrintsCardSaid : Prop := Claim7.holds Tryz.pinned (.plain (OpenSpec.ofChange csstokPrintsSpec)) csstokPrintsCard

/-- THE TIED CARD OF 'selvedgelaw07.CsstokNames'. -/
def csstokNamesCard : Claim7 := { stood := { row := csstokNamesRow, standIns := [], harness := (true, "f049b8172c6c862b1331e363ee18169291011059b21d0dfc0ea2f53ee3cee471"), looks := false }, kinds := [], alts := [], laidByText := true, laidKinds := [.data, .data, .data, .data, .pinned, .pinned], laidTests := true, laidLooks := .later }
def CsstokNamesCardSaid : Prop := Claim7.holds Tryz.pinned (.plain (OpenSpec.ofChange csstokNamesSpec)) csstokNamesCard

/-- THE TIED CARD OF 'selvedgelaw07.CsstokKnown'. -/
def csstokKnownCard : Claim7 := { stood := { row := csstokKnownRow, standIns := [], harness := (true, "f049b8172c6c862b1331e363ee18169291011059b21d0dfc0ea2f53ee3cee471"), looks := false }, kinds := [], alts := [], laidByText := true, laidKinds := [.data, .data, .data, .data, .pinned, .pinned], laidTests := true, laidLooks := .later }
def CsstokKnownCardSaid : Prop := Claim7.holds Tryz.pinned (.plain (OpenSpec.ofChange csstokKnownSpec)) csstokKnownCard

/-- THE SECOND FORM's CARD OF 'selvedgelaw07.CsstokReads'. -/
def csstokReadsUptoCard : Claim7 := { stood := { row := csstokReadsUptoRow, standIns := [], harness := (true, "f049b8172c6c862b1331e363ee18169291011059b21d0dfc0ea2f53ee3cee471"), looks := false }, kinds := [], alts := [], laidByText := true, laidKinds := [.data, .data, .data, .data, .pinned, .pinned], laidTests := true, laidLooks := .later }
def CsstokReadsUptoCardSaid : Prop := Claim7.holds Tryz.pinned (.plain (OpenSpec.upto csstokReadsSpec)) csstokReadsUptoCard

/-- THE SECOND FORM's CARD OF 'selvedgelaw07.CsstokPrints'. -/
def csstokPrintsUptoCard : Claim7 := { stood := { row := csstokPrintsUptoRow, standIns := [], harness := (true, "f049b8172c6c862b1331e363ee18169291011059b21d0dfc0ea2f53ee3cee471"), looks := false }, kinds := [], alts := [], laidByText := true, laidKinds := [.data, .data, .data, .data, .pinned, .pinned], laidTests := true, laidLooks := .later }
def CsstokPrintsUptoCardSaid : Prop := Claim7.holds Tryz.pinned (.plain (OpenSpec.upto csstokPrintsSpec)) csstokPrintsUptoCard

/-- THE SECOND FORM's CARD OF 'selvedgelaw07.CsstokNames'. -/
def csstokNamesUptoCard : Claim7 := { stood := { row := csstokNamesUptoRow, standIns := [], harness := (true, "f049b8172c6c862b1331e363ee18169291011059b21d0dfc0ea2f53ee3cee471"), looks := false }, kinds := [], alts := [], laidByText := true, laidKinds := [.data, .data, .data, .data, .pinned, .pinned], laidTests := true, laidLooks := .later }
def CsstokNamesUptoCardSaid : Prop := Claim7.holds Tryz.pinned (.plain (OpenSpec.upto csstokNamesSpec)) csstokNamesUptoCard

/-- THE SECOND FORM's CARD OF 'selvedgelaw07.CsstokKnown'. -/
def csstokKnownUptoCard : Claim7 := { stood := { row := csstokKnownUptoRow, standIns := [], harness := (true, "f049b8172c6c862b1331e363ee18169291011059b21d0dfc0ea2f53ee3cee471"), looks := false }, kinds := [], alts := [], laidByText := true, laidKinds := [.data, .data, .data, .data, .pinned, .pinned], laidTests := true, laidLooks := .later }
def CsstokKnownUptoCardSaid : Prop := Claim7.holds Tryz.pinned (.plain (OpenSpec.upto csstokKnownSpec)) csstokKnownUptoCard
end Rows
end Go.Proofs.YtmhdocgoeahbdaaGreatDoor
