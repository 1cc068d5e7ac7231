/-
  The model's PlanTake.
-/
import Derived.Test.YtkdedhjpopcldaaGPl
import Derived.Laws.AppendOwnNone
import Derived.Deep.RegionHeld3
namespace Go.Proofs.Ytkdedhjpopcldaa
open Go.RowKit
set_option linter.unusedVariables false

end Go.Proofs.Ytkdedhjpopcldaa
