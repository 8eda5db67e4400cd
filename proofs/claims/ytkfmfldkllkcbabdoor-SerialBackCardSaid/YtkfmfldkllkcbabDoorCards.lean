/-
  DERIVED. GIVEN WITH THE SEED: THE CARDS: each row of YtkfmfldkllkcbabDoorRows.lean that lists a variable, with what it lists TIED to the program's text (the seventh form; the later family's looks); each row that meets fmt, with fmt's text TOLD by the authors' own Lean function (tested against real Go, not proved from fmt's source: count such statements apart). THE CARD IS WHAT COUNTS. Prove the row's statement (the work); the ties are given (YtkfmfldkllkcbabDoorTie.lean); close each card by the builder's one call (the guide's Derived/Test/ToyasCard.lean, 'card_holds'). Laid BY PROGRAM, IN A SANDBOX (cutbox-door.mjs). By AI agents, Wed Nov 11 2026. No macro, syntax, notation, axiom, sorry.
-/
import Derived.Test.YtkfmfldkllkcbabDoorRows
import GoSem.ClaimSeven
namespace Go.Proofs.YtkfmfldkllkcbabDoor
namespace Rows

/-- THE TIED CARD OF 'selvedgelaw06.SerialEscapes'. -/
def serialEscapesCard : Claim7 := { stood := { row := serialEscapesRow, standIns := [], harness := (true, "d992ac38d037ee8fd6bfae0781839646423280c596bc6828af79d0763912b4c9"), looks := false }, kinds := [], alts := [], laidByText := true, laidKinds := [.data, .pinned], laidTests := true, laidLooks := .later }
def SerialEscapesCardSaid : Prop := Claim7.holds Tryd.pinned (.plain (OpenSpec.ofChange serialEscapesSpec)) serialEscapesCard

/-- THE TIED CARD OF 'selvedgelaw06.SerialBack'. -/
def serialBackCard : Claim7 := { stood := { row := serialBackRow, standIns := [], harness := (true, "d992ac38d037ee8fd6bfae0781839646423280c596bc6828af79d0763912b4c9"), looks := false }, kinds := [], alts := [], laidByText := true, laidKinds := [.data, .pinned], laidTests := true, laidLooks := .later }
def SerialBackCardSaid : Prop := Claim7.holds Tryd.pinned (.plain (OpenSpec.ofChange serialBackSpec)) serialBackCard

/-- THE TIED CARD OF 'selvedgelaw06.SerialSafe'. -/
def serialSafeCard : Claim7 := { stood := { row := serialSafeRow, standIns := [], harness := (true, "d992ac38d037ee8fd6bfae0781839646423280c596bc6828af79d0763912b4c9"), looks := false }, kinds := [], alts := [], laidByText := true, laidKinds := [.data, .pinned], laidTests := true, laidLooks := .later }
def SerialSafeCardSaid : Prop := Claim7.holds Tryd.pinned (.plain (OpenSpec.ofChange serialSafeSpec)) serialSafeCard

/-- THE TIED CARD OF 'selvedgelaw06.SerialJoins'. -/
def serialJoinsCard : Claim7 := { stood := { row := serialJoinsRow, standIns := [], harness := (true, "d992ac38d037ee8fd6bfae0781839646423280c596bc6828af79d0763912b4c9"), looks := false }, kinds := [], alts := [], laidByText := true, laidKinds := [.data, .pinned], laidTests := true, laidLooks := .later }
def SerialJoinsCardSaid : Prop := Claim7.holds Tryd.pinned (.plain (OpenSpec.ofChange serialJoinsSpec)) serialJoinsCard

/-- THE SECOND FORM's CARD OF 'selvedgelaw06.SerialEscapes'. -/
def serialEscapesUptoCard : Claim7 := { stood := { row := serialEscapesUptoRow, standIns := [], harness := (true, "d992ac38d037ee8fd6bfae0781839646423280c596bc6828af79d0763912b4c9"), looks := false }, kinds := [], alts := [], laidByText := true, laidKinds := [.data, .pinned], laidTests := true, laidLooks := .later }
def SerialEscapesUptoCardSaid : Prop := Claim7.holds Tryd.pinned (.plain (OpenSpec.upto serialEscapesSpec)) serialEscapesUptoCard

/-- THE SECOND FORM's CARD OF 'selvedgelaw06.SerialBack'. -/
def serialBackUptoCard : Claim7 := { stood := { row := serialBackUptoRow, standIns := [], harness := (true, "d992ac38d037ee8fd6bfae0781839646423280c596bc6828af79d0763912b4c9"), looks := false }, kinds := [], alts := [], laidByText := true, laidKinds := [.data, .pinned], laidTests := true, laidLooks := .later }
def SerialBackUptoCardSaid : Prop := Claim7.holds Tryd.pinned (.plain (OpenSpec.upto serialBackSpec)) serialBackUptoCard

/-- THE SECOND FORM's CARD OF 'selvedgelaw06.SerialSafe'. -/
def serialSafeUptoCard : Claim7 := { stood := { row := serialSafeUptoRow, standIns := [], harness := (true, "d992ac38d037ee8fd6bfae0781839646423280c596bc6828af79d0763912b4c9"), looks := false }, kinds := [], alts := [], laidByText := true, laidKinds := [.data, .pinned], laidTests := true, laidLooks := .later }
def SerialSafeUptoCardSaid : Prop := Claim7.holds Tryd.pinned (.plain (OpenSpec.upto serialSafeSpec)) serialSafeUptoCard

/-- THE SECOND FORM's CARD OF 'selvedgelaw06.SerialJoins'. -/
def serialJoinsUptoCard : Claim7 := { stood := { row := serialJoinsUptoRow, standIns := [], harness := (true, "d992ac38d037ee8fd6bfae0781839646423280c596bc6828af79d0763912b4c9"), looks := false }, kinds := [], alts := [], laidByText := true, laidKinds := [.data, .pinned], laidTests := true, laidLooks := .later }
def SerialJoinsUptoCardSaid : Prop := Claim7.holds Tryd.pinned (.plain (OpenSpec.upto serialJoinsSpec)) serialJoinsUptoCard
end Rows
end Go.Proofs.YtkfmfldkllkcbabDoor
