/-
  A run by the kernel of a function that touches no memory, its callees taken by a table of their answers; the callees may lay blocks of their own. No conditions.
-/
import Derived.Test.YtmhdocgoeahbdaaGreatDoorBelow
namespace Go.RunKit
open Go Go.RowKit

/-- The answers of the callees. -/
abbrev Table := FuncId → Array Value → Option Value
def inside (n : Nat) : List Oper → Bool
  | [] => true
  | o :: r => (match o.dst with
    | some d => Nat.blt d n
    | none => true) && inside n r
variable {P : Program} {T : Table}

end Go.RunKit

