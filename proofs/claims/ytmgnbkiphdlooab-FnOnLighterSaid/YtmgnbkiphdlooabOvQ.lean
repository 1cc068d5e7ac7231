/-
  The model's chapter 10, second part: PortMoves.
-/
import Derived.Test.YtmgnbkiphdlooabOvS
import Derived.Test.YtmgnbkiphdlooabGBase
import Derived.Laws.AppendOwnNone
import Derived.Deep.RegionHeld3
namespace Go.Proofs.Ytmgnbkiphdlooab
open Go.RowKit
set_option linter.unusedVariables false

end Go.Proofs.Ytmgnbkiphdlooab
