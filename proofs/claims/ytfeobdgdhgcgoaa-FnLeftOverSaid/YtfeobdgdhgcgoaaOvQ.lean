/-
  The model's chapter 10, second part: PortMoves.
-/
import Derived.Test.YtfeobdgdhgcgoaaOvS
import Derived.Test.YtfeobdgdhgcgoaaGBase
import Derived.Laws.AppendOwnNone
import Derived.Deep.RegionHeld3
namespace Go.Proofs.Ytfeobdgdhgcgoaa
open Go.RowKit
set_option linter.unusedVariables false

end Go.Proofs.Ytfeobdgdhgcgoaa
