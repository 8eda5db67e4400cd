/-
  The library's two tables out of a row's condition that lists more variables. No conditions.
-/
import Derived.Test.YtmhdocgoeahbdaaDoorUTabs
import Derived.LaidSub
namespace Go.Proofs.YtmhdocgoeahbdaaDoor
open Go.RowKit Go.RunKit Go.UtfKit Go.Lib

theorem tabs_more {W : World} {l : List (String × DataW Unit)} (e : (l.filter fun x => x.1 == "unicode/utf8.acceptRanges" || x.1 == "unicode/utf8.first") = [("unicode/utf8.acceptRanges", Rows.laid_unicode_utf8_acceptRanges), ("unicode/utf8.first", Rows.laid_unicode_utf8_first)])
    (h : laidMet Tryd.prog l W) : U.Tabs W := by
  have := laidMet.filter (fun x => x.1 == "unicode/utf8.acceptRanges" || x.1 == "unicode/utf8.first") h
  rw [e] at this
  exact U.tabs_of this
end Go.Proofs.YtmhdocgoeahbdaaDoor

