/-
  The model's chapter 8: weights.
-/
import Derived.Test.YtmgnbkiphdlooaaGWm
import Derived.Test.YtmgnbkiphdlooaaGPl
import Derived.Test.YtmgnbkiphdlooaaGSl
import Derived.Deep.RegionHeld3
namespace Go.Proofs.Ytmgnbkiphdlooaa
open Go.RowKit
set_option linter.unusedVariables false

end Go.Proofs.Ytmgnbkiphdlooaa
