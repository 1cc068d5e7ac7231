/-
  The model's PlanTake.
-/
import Derived.Test.YtmgnbkiphdlooabGPl
import Derived.Laws.AppendOwnNone
import Derived.Deep.RegionHeld3
namespace Go.Proofs.Ytmgnbkiphdlooab
open Go.RowKit
set_option linter.unusedVariables false

end Go.Proofs.Ytmgnbkiphdlooab
