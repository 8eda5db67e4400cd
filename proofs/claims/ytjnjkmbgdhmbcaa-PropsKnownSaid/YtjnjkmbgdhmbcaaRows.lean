/-
  No cell of these rows narrows 'for every input' (looked for: loops, veiled, ifaces, maps, wideKeys, modest, calm, conditions, laid).
  DERIVED. THE GIVEN ROWS OF THIS SEAT. 6 by the template 'for every input the law returns true; each argument reads behind the call as it read before'; 0 by the template 'total and deterministic' (their statements: YtjnjkmbgdhmbcaaTotals.lean).
  GIVEN WITH THE SEED: the statements are not yours to turn. If you find one false, say at which input.
  Laid BY PROGRAM, IN A SANDBOX (cutbox-rows.mjs): the forced cells as the released guide's own fill.sh prints them over the translation cc98d77dc67e47c2… (all of the seat's roots in one cut). By AI agents, Wed Nov 11 2026. No macro, syntax, notation, axiom, sorry.
-/
import Derived.Test.YtjnjkmbgdhmbcaaChecked
import GoSem.Claim
import GoSem.ClaimJoined
import GoSem.ClaimMapViews
import Derived.JoinedTies
import Derived.KernelRfl
namespace Go.Proofs.Ytjnjkmbgdhmbcaa
/- THE CELL 'sum', in the pinned program and in every row, IS THE sha256 OF THE DUMP (.gsa) THAT YtjnjkmbgdhmbcaaProg.lean LOADS. Nothing in Lean hashes anything: it is a label: what it is worth is what the hold of that sum in a sandbox is worth. -/
noncomputable def Try.pinned : Pinned := { name := "ytjnjkmbgdhmbcaa", sum := "cc98d77dc67e47c2c6f5b1402bca1f443dc13e4e2d820134407a162b057f7ee3", checked := Try.checked }
namespace Rows
def none {H : Type} : Left H := { results := [], args := [] }

/-- 'selvedgelaw01.PropsClasses': WHATEVER THE INPUT: true; the input reads as it did. -/
def propsClassesSpec : ChangeSpec := { name := "propsClasses", fn := fun _ => fun
  | [d1, d2] => { results := [.lit (.bool true)], args := [d1, d2] }
  | _ => none }
def propsClassesRow : OpenClaim := { program := "ytjnjkmbgdhmbcaa", sum := "cc98d77dc67e47c2c6f5b1402bca1f443dc13e4e2d820134407a162b057f7ee3", func := "selvedge/selvedgelaw01.PropsClasses", spec := "propsClasses", unfollowed := true, recurses := true, apart := false }
def PropsClassesSaid : Prop := propsClassesRow.holds Try.pinned (OpenSpec.ofChange propsClassesSpec)

/-- ITS FALSE NEIGHBOUR: 'it returns false'. Refute it at one input. -/
def propsClassesWrong : ChangeSpec := { name := "propsClasses", fn := fun _ => fun
  | [d1, d2] => { results := [.lit (.bool false)], args := [d1, d2] }
  | _ => none }
def PropsClassesWrongFalsely : Prop := propsClassesRow.holds Try.pinned (OpenSpec.ofChange propsClassesWrong)

/-- 'selvedgelaw01.PropsBrackets': WHATEVER THE INPUT: true; the input reads as it did. -/
def propsBracketsSpec : ChangeSpec := { name := "propsBrackets", fn := fun _ => fun
  | [d] => { results := [.lit (.bool true)], args := [d] }
  | _ => none }
def propsBracketsRow : OpenClaim := { program := "ytjnjkmbgdhmbcaa", sum := "cc98d77dc67e47c2c6f5b1402bca1f443dc13e4e2d820134407a162b057f7ee3", func := "selvedge/selvedgelaw01.PropsBrackets", spec := "propsBrackets", unfollowed := true, recurses := true, apart := false }
def PropsBracketsSaid : Prop := propsBracketsRow.holds Try.pinned (OpenSpec.ofChange propsBracketsSpec)

/-- ITS FALSE NEIGHBOUR: 'it returns false'. Refute it at one input. -/
def propsBracketsWrong : ChangeSpec := { name := "propsBrackets", fn := fun _ => fun
  | [d] => { results := [.lit (.bool false)], args := [d] }
  | _ => none }
def PropsBracketsWrongFalsely : Prop := propsBracketsRow.holds Try.pinned (OpenSpec.ofChange propsBracketsWrong)

/-- 'selvedgelaw01.PropsMirrors': WHATEVER THE INPUT: true; the input reads as it did. -/
def propsMirrorsSpec : ChangeSpec := { name := "propsMirrors", fn := fun _ => fun
  | [d] => { results := [.lit (.bool true)], args := [d] }
  | _ => none }
def propsMirrorsRow : OpenClaim := { program := "ytjnjkmbgdhmbcaa", sum := "cc98d77dc67e47c2c6f5b1402bca1f443dc13e4e2d820134407a162b057f7ee3", func := "selvedge/selvedgelaw01.PropsMirrors", spec := "propsMirrors", unfollowed := true, recurses := true, apart := false }
def PropsMirrorsSaid : Prop := propsMirrorsRow.holds Try.pinned (OpenSpec.ofChange propsMirrorsSpec)

/-- ITS FALSE NEIGHBOUR: 'it returns false'. Refute it at one input. -/
def propsMirrorsWrong : ChangeSpec := { name := "propsMirrors", fn := fun _ => fun
  | [d] => { results := [.lit (.bool false)], args := [d] }
  | _ => none }
def PropsMirrorsWrongFalsely : Prop := propsMirrorsRow.holds Try.pinned (OpenSpec.ofChange propsMirrorsWrong)

/-- 'selvedgelaw01.PropsPairs': WHATEVER THE INPUT: true; the input reads as it did. -/
def propsPairsSpec : ChangeSpec := { name := "propsPairs", fn := fun _ => fun
  | [d] => { results := [.lit (.bool true)], args := [d] }
  | _ => none }
def propsPairsRow : OpenClaim := { program := "ytjnjkmbgdhmbcaa", sum := "cc98d77dc67e47c2c6f5b1402bca1f443dc13e4e2d820134407a162b057f7ee3", func := "selvedge/selvedgelaw01.PropsPairs", spec := "propsPairs", unfollowed := true, recurses := true, apart := false }
def PropsPairsSaid : Prop := propsPairsRow.holds Try.pinned (OpenSpec.ofChange propsPairsSpec)

/-- ITS FALSE NEIGHBOUR: 'it returns false'. Refute it at one input. -/
def propsPairsWrong : ChangeSpec := { name := "propsPairs", fn := fun _ => fun
  | [d] => { results := [.lit (.bool false)], args := [d] }
  | _ => none }
def PropsPairsWrongFalsely : Prop := propsPairsRow.holds Try.pinned (OpenSpec.ofChange propsPairsWrong)

/-- 'selvedgelaw01.PropsAscii': WHATEVER THE INPUT: true; the input reads as it did. -/
def propsAsciiSpec : ChangeSpec := { name := "propsAscii", fn := fun _ => fun
  | [d] => { results := [.lit (.bool true)], args := [d] }
  | _ => none }
def propsAsciiRow : OpenClaim := { program := "ytjnjkmbgdhmbcaa", sum := "cc98d77dc67e47c2c6f5b1402bca1f443dc13e4e2d820134407a162b057f7ee3", func := "selvedge/selvedgelaw01.PropsAscii", spec := "propsAscii", unfollowed := true, recurses := true, apart := false }
def PropsAsciiSaid : Prop := propsAsciiRow.holds Try.pinned (OpenSpec.ofChange propsAsciiSpec)

/-- ITS FALSE NEIGHBOUR: 'it returns false'. Refute it at one input. -/
def propsAsciiWrong : ChangeSpec := { name := "propsAscii", fn := fun _ => fun
  | [d] => { results := [.lit (.bool false)], args := [d] }
  | _ => none }
def PropsAsciiWrongFalsely : Prop := propsAsciiRow.holds Try.pinned (OpenSpec.ofChange propsAsciiWrong)

/-- 'selvedgelaw01.PropsKnown': WHATEVER THE INPUT: true; the input reads as it did. -/
def propsKnownSpec : ChangeSpec := { name := "propsKnown", fn := fun _ => fun
  | [] => { results := [.lit (.bool true)], args := [] }
  | _ => none }
def propsKnownRow : OpenClaim := { program := "ytjnjkmbgdhmbcaa", sum := "cc98d77dc67e47c2c6f5b1402bca1f443dc13e4e2d820134407a162b057f7ee3", func := "selvedge/selvedgelaw01.PropsKnown", spec := "propsKnown", unfollowed := true, recurses := true, apart := false }
def PropsKnownSaid : Prop := propsKnownRow.holds Try.pinned (OpenSpec.ofChange propsKnownSpec)

/-- ITS FALSE NEIGHBOUR: 'it returns false'. Refute it at one input. -/
def propsKnownWrong : ChangeSpec := { name := "propsKnown", fn := fun _ => fun
  | [] => { results := [.lit (.bool false)], args := [] }
  | _ => none }
def PropsKnownWrongFalsely : Prop := propsKnownRow.holds Try.pinned (OpenSpec.ofChange propsKnownWrong)

/- THE SECOND FORM. 'bulk': how many values and letters a reading holds, each counted each time it is reached (what is shared counts as often as it is met; a slice's spare places count too). A statement '..UptoSaid' is the law's where the arguments, and the package variables that the reading takes, are together of bulk at most 1048576: NARROWER than '..Said'. Prove '..Said' where nothing that the law and all that it calls make is longer than what came in: it says more and counts as full. Else prove '..UptoSaid'. A law counts once. -/
mutual
def uptoBulk {H : Type} : DataW H → Nat
  | .lit (.string bytes) => bytes.length + 1
  | .lit _ => 1
  | .nil => 1
  | .ptr d => uptoBulk d + 1
  | .slice elems spare => uptoBulkAll elems + uptoBulkAll spare + 1
  | .agg parts => uptoBulkAll parts + 1
  | .iface _ d => uptoBulk d + 1
  | .map entries => uptoBulkEntries entries + 1
  | .held _ => 1
def uptoBulkAll {H : Type} : List (DataW H) → Nat
  | [] => 0
  | d :: r => uptoBulk d + uptoBulkAll r
def uptoBulkEntries {H : Type} : List (Lit × DataW H) → Nat
  | [] => 0
  | x :: r => uptoBulkEntry x + uptoBulkEntries r
def uptoBulkEntry {H : Type} : Lit × DataW H → Nat
  | (.string bytes, d) => bytes.length + uptoBulk d + 1
  | (_, d) => uptoBulk d + 1
 end
def uptoSmall : (H : Type) → List (DataW H) → Bool := fun _ ds => decide (uptoBulkAll ds ≤ 1048576)
def OpenSpec.upto (s : _root_.Go.ChangeSpec) : _root_.Go.OpenSpec := { _root_.Go.OpenSpec.ofChange s with cond := some uptoSmall }

/-- 'selvedgelaw01.PropsClasses', WHERE WHAT IT READS IS OF BULK AT MOST 1048576: true; the input reads as it did. -/
def propsClassesUptoRow : OpenClaim := { program := "ytjnjkmbgdhmbcaa", sum := "cc98d77dc67e47c2c6f5b1402bca1f443dc13e4e2d820134407a162b057f7ee3", func := "selvedge/selvedgelaw01.PropsClasses", spec := "propsClasses", unfollowed := true, recurses := true, apart := false, narrowed := true }
def PropsClassesUptoSaid : Prop := propsClassesUptoRow.holds Try.pinned (OpenSpec.upto propsClassesSpec)

/-- 'selvedgelaw01.PropsBrackets', WHERE WHAT IT READS IS OF BULK AT MOST 1048576: true; the input reads as it did. -/
def propsBracketsUptoRow : OpenClaim := { program := "ytjnjkmbgdhmbcaa", sum := "cc98d77dc67e47c2c6f5b1402bca1f443dc13e4e2d820134407a162b057f7ee3", func := "selvedge/selvedgelaw01.PropsBrackets", spec := "propsBrackets", unfollowed := true, recurses := true, apart := false, narrowed := true }
def PropsBracketsUptoSaid : Prop := propsBracketsUptoRow.holds Try.pinned (OpenSpec.upto propsBracketsSpec)

/-- 'selvedgelaw01.PropsMirrors', WHERE WHAT IT READS IS OF BULK AT MOST 1048576: true; the input reads as it did. -/
def propsMirrorsUptoRow : OpenClaim := { program := "ytjnjkmbgdhmbcaa", sum := "cc98d77dc67e47c2c6f5b1402bca1f443dc13e4e2d820134407a162b057f7ee3", func := "selvedge/selvedgelaw01.PropsMirrors", spec := "propsMirrors", unfollowed := true, recurses := true, apart := false, narrowed := true }
def PropsMirrorsUptoSaid : Prop := propsMirrorsUptoRow.holds Try.pinned (OpenSpec.upto propsMirrorsSpec)

/-- 'selvedgelaw01.PropsPairs', WHERE WHAT IT READS IS OF BULK AT MOST 1048576: true; the input reads as it did. -/
def propsPairsUptoRow : OpenClaim := { program := "ytjnjkmbgdhmbcaa", sum := "cc98d77dc67e47c2c6f5b1402bca1f443dc13e4e2d820134407a162b057f7ee3", func := "selvedge/selvedgelaw01.PropsPairs", spec := "propsPairs", unfollowed := true, recurses := true, apart := false, narrowed := true }
def PropsPairsUptoSaid : Prop := propsPairsUptoRow.holds Try.pinned (OpenSpec.upto propsPairsSpec)

/-- 'selvedgelaw01.PropsAscii', WHERE WHAT IT READS IS OF BULK AT MOST 1048576: true; the input reads as it did. -/
def propsAsciiUptoRow : OpenClaim := { program := "ytjnjkmbgdhmbcaa", sum := "cc98d77dc67e47c2c6f5b1402bca1f443dc13e4e2d820134407a162b057f7ee3", func := "selvedge/selvedgelaw01.PropsAscii", spec := "propsAscii", unfollowed := true, recurses := true, apart := false, narrowed := true }
def PropsAsciiUptoSaid : Prop := propsAsciiUptoRow.holds Try.pinned (OpenSpec.upto propsAsciiSpec)

/-- 'selvedgelaw01.PropsKnown', WHERE WHAT IT READS IS OF BULK AT MOST 1048576: true; the input reads as it did. -/
def propsKnownUptoRow : OpenClaim := { program := "ytjnjkmbgdhmbcaa", sum := "cc98d77dc67e47c2c6f5b1402bca1f443dc13e4e2d820134407a162b057f7ee3", func := "selvedge/selvedgelaw01.PropsKnown", spec := "propsKnown", unfollowed := true, recurses := true, apart := false, narrowed := true }
def PropsKnownUptoSaid : Prop := propsKnownUptoRow.holds Try.pinned (OpenSpec.upto propsKnownSpec)

end Rows
end Go.Proofs.Ytjnjkmbgdhmbcaa
