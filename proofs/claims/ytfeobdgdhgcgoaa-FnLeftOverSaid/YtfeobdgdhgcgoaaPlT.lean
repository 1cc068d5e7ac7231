/-
  The model's PlanTake.
-/
import Derived.Test.YtfeobdgdhgcgoaaGPl
import Derived.Laws.AppendOwnNone
import Derived.Deep.RegionHeld3
namespace Go.Proofs.Ytfeobdgdhgcgoaa
open Go.RowKit
set_option linter.unusedVariables false

end Go.Proofs.Ytfeobdgdhgcgoaa
