/-
  The model's PlanTake.
-/
import Derived.Test.YtodikgdkkkcgiaaGPl
import Derived.Laws.AppendOwnNone
import Derived.Deep.RegionHeld3
namespace Go.Proofs.Ytodikgdkkkcgiaa
open Go.RowKit
set_option linter.unusedVariables false

end Go.Proofs.Ytodikgdkkkcgiaa
