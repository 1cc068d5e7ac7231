/-
  The model's chapter 10, second part: PortMoves.
-/
import Derived.Test.YtodikgdkkkcgiaaOvS
import Derived.Test.YtodikgdkkkcgiaaGBase
import Derived.Laws.AppendOwnNone
import Derived.Deep.RegionHeld3
namespace Go.Proofs.Ytodikgdkkkcgiaa
open Go.RowKit
set_option linter.unusedVariables false

end Go.Proofs.Ytodikgdkkkcgiaa
