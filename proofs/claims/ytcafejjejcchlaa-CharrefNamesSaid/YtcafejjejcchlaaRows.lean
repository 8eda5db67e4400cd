/-
  No cell of these rows narrows 'for every input' (looked for: loops, veiled, ifaces, maps, wideKeys, modest, calm, conditions, laid).
  DERIVED. THE GIVEN ROWS OF THIS SEAT. 7 by the template 'for every input the law returns true; each argument reads behind the call as it read before'; 0 by the template 'total and deterministic' (their statements: YtcafejjejcchlaaTotals.lean).
  GIVEN WITH THE SEED: the statements are not yours to turn. If you find one false, say at which input.
  Laid BY PROGRAM, IN A SANDBOX (cutbox-rows.mjs): the forced cells as the released guide's own fill.sh prints them over the translation 704618349e508d05… (all of the seat's roots in one cut). By AI agents, Wed Nov 11 2026. No macro, syntax, notation, axiom, sorry.
-/
import Derived.Test.YtcafejjejcchlaaChecked
import GoSem.Claim
import GoSem.ClaimJoined
import GoSem.ClaimMapViews
import Derived.JoinedTies
import Derived.KernelRfl
namespace Go.Proofs.Ytcafejjejcchlaa
/- THE CELL 'sum', in the pinned program and in every row, IS THE sha256 OF THE DUMP (.gsa) THAT YtcafejjejcchlaaProg.lean LOADS. Nothing in Lean hashes anything: it is a label: what it is worth is what the hold of that sum in a sandbox is worth. -/
noncomputable def Try.pinned : Pinned := { name := "ytcafejjejcchlaa", sum := "704618349e508d05551fb42190ab420bb15b691c4b82e4ee42eb3a19be00abd2", checked := Try.checked }
namespace Rows
def none {H : Type} : Left H := { results := [], args := [] }

/-- 'selvedgelaw03.CharrefFinds': WHATEVER THE INPUT: true; the input reads as it did. -/
def charrefFindsSpec : ChangeSpec := { name := "charrefFinds", fn := fun _ => fun
  | [d1, d2, d3, d4] => { results := [.lit (.bool true)], args := [d1, d2, d3, d4] }
  | _ => none }
def charrefFindsRow : OpenClaim := { program := "ytcafejjejcchlaa", sum := "704618349e508d05551fb42190ab420bb15b691c4b82e4ee42eb3a19be00abd2", func := "selvedge/selvedgelaw03.CharrefFinds", spec := "charrefFinds", inPlace := ["internal/bytealg.IndexByteString", "internal/abi.NoEscape"], unfollowed := true, recurses := true, apart := false }
def CharrefFindsSaid : Prop := charrefFindsRow.holds Try.pinned (OpenSpec.ofChange charrefFindsSpec)

/-- ITS FALSE NEIGHBOUR: 'it returns false'. Refute it at one input. -/
def charrefFindsWrong : ChangeSpec := { name := "charrefFinds", fn := fun _ => fun
  | [d1, d2, d3, d4] => { results := [.lit (.bool false)], args := [d1, d2, d3, d4] }
  | _ => none }
def CharrefFindsWrongFalsely : Prop := charrefFindsRow.holds Try.pinned (OpenSpec.ofChange charrefFindsWrong)

/-- 'selvedgelaw03.CharrefDecodes': WHATEVER THE INPUT: true; the input reads as it did. -/
def charrefDecodesSpec : ChangeSpec := { name := "charrefDecodes", fn := fun _ => fun
  | [d1, d2] => { results := [.lit (.bool true)], args := [d1, d2] }
  | _ => none }
def charrefDecodesRow : OpenClaim := { program := "ytcafejjejcchlaa", sum := "704618349e508d05551fb42190ab420bb15b691c4b82e4ee42eb3a19be00abd2", func := "selvedge/selvedgelaw03.CharrefDecodes", spec := "charrefDecodes", inPlace := ["internal/bytealg.IndexByteString", "internal/abi.NoEscape"], unfollowed := true, recurses := true, apart := false }
def CharrefDecodesSaid : Prop := charrefDecodesRow.holds Try.pinned (OpenSpec.ofChange charrefDecodesSpec)

/-- ITS FALSE NEIGHBOUR: 'it returns false'. Refute it at one input. -/
def charrefDecodesWrong : ChangeSpec := { name := "charrefDecodes", fn := fun _ => fun
  | [d1, d2] => { results := [.lit (.bool false)], args := [d1, d2] }
  | _ => none }
def CharrefDecodesWrongFalsely : Prop := charrefDecodesRow.holds Try.pinned (OpenSpec.ofChange charrefDecodesWrong)

/-- 'selvedgelaw03.CharrefBack': WHATEVER THE INPUT: true; the input reads as it did. -/
def charrefBackSpec : ChangeSpec := { name := "charrefBack", fn := fun _ => fun
  | [d1, d2] => { results := [.lit (.bool true)], args := [d1, d2] }
  | _ => none }
def charrefBackRow : OpenClaim := { program := "ytcafejjejcchlaa", sum := "704618349e508d05551fb42190ab420bb15b691c4b82e4ee42eb3a19be00abd2", func := "selvedge/selvedgelaw03.CharrefBack", spec := "charrefBack", inPlace := ["internal/bytealg.IndexByteString", "internal/abi.NoEscape"], unfollowed := true, recurses := true, apart := false }
def CharrefBackSaid : Prop := charrefBackRow.holds Try.pinned (OpenSpec.ofChange charrefBackSpec)

/-- ITS FALSE NEIGHBOUR: 'it returns false'. Refute it at one input. -/
def charrefBackWrong : ChangeSpec := { name := "charrefBack", fn := fun _ => fun
  | [d1, d2] => { results := [.lit (.bool false)], args := [d1, d2] }
  | _ => none }
def CharrefBackWrongFalsely : Prop := charrefBackRow.holds Try.pinned (OpenSpec.ofChange charrefBackWrong)

/-- 'selvedgelaw03.CharrefNumbers': WHATEVER THE INPUT: true; the input reads as it did. -/
def charrefNumbersSpec : ChangeSpec := { name := "charrefNumbers", fn := fun _ => fun
  | [d1, d2] => { results := [.lit (.bool true)], args := [d1, d2] }
  | _ => none }
def charrefNumbersRow : OpenClaim := { program := "ytcafejjejcchlaa", sum := "704618349e508d05551fb42190ab420bb15b691c4b82e4ee42eb3a19be00abd2", func := "selvedge/selvedgelaw03.CharrefNumbers", spec := "charrefNumbers", inPlace := ["internal/bytealg.IndexByteString", "internal/abi.NoEscape"], unfollowed := true, recurses := true, apart := false }
def CharrefNumbersSaid : Prop := charrefNumbersRow.holds Try.pinned (OpenSpec.ofChange charrefNumbersSpec)

/-- ITS FALSE NEIGHBOUR: 'it returns false'. Refute it at one input. -/
def charrefNumbersWrong : ChangeSpec := { name := "charrefNumbers", fn := fun _ => fun
  | [d1, d2] => { results := [.lit (.bool false)], args := [d1, d2] }
  | _ => none }
def CharrefNumbersWrongFalsely : Prop := charrefNumbersRow.holds Try.pinned (OpenSpec.ofChange charrefNumbersWrong)

/-- 'selvedgelaw03.CharrefPieces': WHATEVER THE INPUT: true; the input reads as it did. -/
def charrefPiecesSpec : ChangeSpec := { name := "charrefPieces", fn := fun _ => fun
  | [d1, d2, d3] => { results := [.lit (.bool true)], args := [d1, d2, d3] }
  | _ => none }
def charrefPiecesRow : OpenClaim := { program := "ytcafejjejcchlaa", sum := "704618349e508d05551fb42190ab420bb15b691c4b82e4ee42eb3a19be00abd2", func := "selvedge/selvedgelaw03.CharrefPieces", spec := "charrefPieces", inPlace := ["internal/bytealg.IndexByteString", "internal/abi.NoEscape"], unfollowed := true, recurses := true, apart := false }
def CharrefPiecesSaid : Prop := charrefPiecesRow.holds Try.pinned (OpenSpec.ofChange charrefPiecesSpec)

/-- ITS FALSE NEIGHBOUR: 'it returns false'. Refute it at one input. -/
def charrefPiecesWrong : ChangeSpec := { name := "charrefPieces", fn := fun _ => fun
  | [d1, d2, d3] => { results := [.lit (.bool false)], args := [d1, d2, d3] }
  | _ => none }
def CharrefPiecesWrongFalsely : Prop := charrefPiecesRow.holds Try.pinned (OpenSpec.ofChange charrefPiecesWrong)

/-- 'selvedgelaw03.CharrefNames': WHATEVER THE INPUT: true; the input reads as it did. -/
def charrefNamesSpec : ChangeSpec := { name := "charrefNames", fn := fun _ => fun
  | [d1, d2, d3, d4] => { results := [.lit (.bool true)], args := [d1, d2, d3, d4] }
  | _ => none }
def charrefNamesRow : OpenClaim := { program := "ytcafejjejcchlaa", sum := "704618349e508d05551fb42190ab420bb15b691c4b82e4ee42eb3a19be00abd2", func := "selvedge/selvedgelaw03.CharrefNames", spec := "charrefNames", inPlace := ["internal/bytealg.IndexByteString", "internal/abi.NoEscape"], unfollowed := true, recurses := true, apart := false }
def CharrefNamesSaid : Prop := charrefNamesRow.holds Try.pinned (OpenSpec.ofChange charrefNamesSpec)

/-- ITS FALSE NEIGHBOUR: 'it returns false'. Refute it at one input. -/
def charrefNamesWrong : ChangeSpec := { name := "charrefNames", fn := fun _ => fun
  | [d1, d2, d3, d4] => { results := [.lit (.bool false)], args := [d1, d2, d3, d4] }
  | _ => none }
def CharrefNamesWrongFalsely : Prop := charrefNamesRow.holds Try.pinned (OpenSpec.ofChange charrefNamesWrong)

/-- 'selvedgelaw03.CharrefKnown': WHATEVER THE INPUT: true; the input reads as it did. -/
def charrefKnownSpec : ChangeSpec := { name := "charrefKnown", fn := fun _ => fun
  | [] => { results := [.lit (.bool true)], args := [] }
  | _ => none }
def charrefKnownRow : OpenClaim := { program := "ytcafejjejcchlaa", sum := "704618349e508d05551fb42190ab420bb15b691c4b82e4ee42eb3a19be00abd2", func := "selvedge/selvedgelaw03.CharrefKnown", spec := "charrefKnown", inPlace := ["internal/bytealg.IndexByteString", "internal/abi.NoEscape"], unfollowed := true, recurses := true, apart := false }
def CharrefKnownSaid : Prop := charrefKnownRow.holds Try.pinned (OpenSpec.ofChange charrefKnownSpec)

/-- ITS FALSE NEIGHBOUR: 'it returns false'. Refute it at one input. -/
def charrefKnownWrong : ChangeSpec := { name := "charrefKnown", fn := fun _ => fun
  | [] => { results := [.lit (.bool false)], args := [] }
  | _ => none }
def CharrefKnownWrongFalsely : Prop := charrefKnownRow.holds Try.pinned (OpenSpec.ofChange charrefKnownWrong)

/- THE SECOND FORM. 'bulk': how many values and letters a reading holds, each counted each time it is reached (what is shared counts as often as it is met; a slice's spare places count too). A statement '..UptoSaid' is the law's where the arguments, and the package variables that the reading takes, are together of bulk at most 1048576: NARROWER than '..Said'. Prove '..Said' where nothing that the law and all that it calls make is longer than what came in: it says more and counts as full. Else prove '..UptoSaid'. A law counts once. -/
mutual
def uptoBulk {H : Type} : DataW H → Nat
  | .lit (.string bytes) => bytes.length + 1
  | .lit _ => 1
  | .nil => 1
  | .ptr d => uptoBulk d + 1
  | .slice elems spare => uptoBulkAll elems + uptoBulkAll spare + 1
  | .agg parts => uptoBulkAll parts + 1
  | .iface _ d => uptoBulk d + 1
  | .map entries => uptoBulkEntries entries + 1
  | .held _ => 1
def uptoBulkAll {H : Type} : List (DataW H) → Nat
  | [] => 0
  | d :: r => uptoBulk d + uptoBulkAll r
def uptoBulkEntries {H : Type} : List (Lit × DataW H) → Nat
  | [] => 0
  | x :: r => uptoBulkEntry x + uptoBulkEntries r
def uptoBulkEntry {H : Type} : Lit × DataW H → Nat
  | (.string bytes, d) => bytes.length + uptoBulk d + 1
  | (_, d) => uptoBulk d + 1
 end
def uptoSmall : (H : Type) → List (DataW H) → Bool := fun _ ds => decide (uptoBulkAll ds ≤ 1048576)
def OpenSpec.upto (s : _root_.Go.ChangeSpec) : _root_.Go.OpenSpec := { _root_.Go.OpenSpec.ofChange s with cond := some uptoSmall }

/-- 'selvedgelaw03.CharrefFinds', WHERE WHAT IT READS IS OF BULK AT MOST 1048576: true; the input reads as it did. -/
def charrefFindsUptoRow : OpenClaim := { program := "ytcafejjejcchlaa", sum := "704618349e508d05551fb42190ab420bb15b691c4b82e4ee42eb3a19be00abd2", func := "selvedge/selvedgelaw03.CharrefFinds", spec := "charrefFinds", inPlace := ["internal/bytealg.IndexByteString", "internal/abi.NoEscape"], unfollowed := true, recurses := true, apart := false, narrowed := true }
def CharrefFindsUptoSaid : Prop := charrefFindsUptoRow.holds Try.pinned (OpenSpec.upto charrefFindsSpec)

/-- 'selvedgelaw03.CharrefDecodes', WHERE WHAT IT READS IS OF BULK AT MOST 1048576: true; the input reads as it did. -/
def charrefDecodesUptoRow : OpenClaim := { program := "ytcafejjejcchlaa", sum := "704618349e508d05551fb42190ab420bb15b691c4b82e4ee42eb3a19be00abd2", func := "selvedge/selvedgelaw03.CharrefDecodes", spec := "charrefDecodes", inPlace := ["internal/bytealg.IndexByteString", "internal/abi.NoEscape"], unfollowed := true, recurses := true, apart := false, narrowed := true }
def CharrefDecodesUptoSaid : Prop := charrefDecodesUptoRow.holds Try.pinned (OpenSpec.upto charrefDecodesSpec)

/-- 'selvedgelaw03.CharrefBack', WHERE WHAT IT READS IS OF BULK AT MOST 1048576: true; the input reads as it did. -/
def charrefBackUptoRow : OpenClaim := { program := "ytcafejjejcchlaa", sum := "704618349e508d05551fb42190ab420bb15b691c4b82e4ee42eb3a19be00abd2", func := "selvedge/selvedgelaw03.CharrefBack", spec := "charrefBack", inPlace := ["internal/bytealg.IndexByteString", "internal/abi.NoEscape"], unfollowed := true, recurses := true, apart := false, narrowed := true }
def CharrefBackUptoSaid : Prop := charrefBackUptoRow.holds Try.pinned (OpenSpec.upto charrefBackSpec)

/-- 'selvedgelaw03.CharrefNumbers', WHERE WHAT IT READS IS OF BULK AT MOST 1048576: true; the input reads as it did. -/
def charrefNumbersUptoRow : OpenClaim := { program := "ytcafejjejcchlaa", sum := "704618349e508d05551fb42190ab420bb15b691c4b82e4ee42eb3a19be00abd2", func := "selvedge/selvedgelaw03.CharrefNumbers", spec := "charrefNumbers", inPlace := ["internal/bytealg.IndexByteString", "internal/abi.NoEscape"], unfollowed := true, recurses := true, apart := false, narrowed := true }
def CharrefNumbersUptoSaid : Prop := charrefNumbersUptoRow.holds Try.pinned (OpenSpec.upto charrefNumbersSpec)

/-- 'selvedgelaw03.CharrefPieces', WHERE WHAT IT READS IS OF BULK AT MOST 1048576: true; the input reads as it did. -/
def charrefPiecesUptoRow : OpenClaim := { program := "ytcafejjejcchlaa", sum := "704618349e508d05551fb42190ab420bb15b691c4b82e4ee42eb3a19be00abd2", func := "selvedge/selvedgelaw03.CharrefPieces", spec := "charrefPieces", inPlace := ["internal/bytealg.IndexByteString", "internal/abi.NoEscape"], unfollowed := true, recurses := true, apart := false, narrowed := true }
def CharrefPiecesUptoSaid : Prop := charrefPiecesUptoRow.holds Try.pinned (OpenSpec.upto charrefPiecesSpec)

/-- 'selvedgelaw03.CharrefNames', WHERE WHAT IT READS IS OF BULK AT MOST 1048576: true; the input reads as it did. -/
def charrefNamesUptoRow : OpenClaim := { program := "ytcafejjejcchlaa", sum := "704618349e508d05551fb42190ab420bb15b691c4b82e4ee42eb3a19be00abd2", func := "selvedge/selvedgelaw03.CharrefNames", spec := "charrefNames", inPlace := ["internal/bytealg.IndexByteString", "internal/abi.NoEscape"], unfollowed := true, recurses := true, apart := false, narrowed := true }
def CharrefNamesUptoSaid : Prop := charrefNamesUptoRow.holds Try.pinned (OpenSpec.upto charrefNamesSpec)

/-- 'selvedgelaw03.CharrefKnown', WHERE WHAT IT READS IS OF BULK AT MOST 1048576: true; the input reads as it did. -/
def charrefKnownUptoRow : OpenClaim := { program := "ytcafejjejcchlaa", sum := "704618349e508d05551fb42190ab420bb15b691c4b82e4ee42eb3a19be00abd2", func := "selvedge/selvedgelaw03.CharrefKnown", spec := "charrefKnown", inPlace := ["internal/bytealg.IndexByteString", "internal/abi.NoEscape"], unfollowed := true, recurses := true, apart := false, narrowed := true }
def CharrefKnownUptoSaid : Prop := charrefKnownUptoRow.holds Try.pinned (OpenSpec.upto charrefKnownSpec)

end Rows
end Go.Proofs.Ytcafejjejcchlaa
