/-
  The model's chapter 8: weights.
-/
import Derived.Test.YtmkdkepbnhlflaaGWm
import Derived.Test.YtmkdkepbnhlflaaGPl
import Derived.Test.YtmkdkepbnhlflaaGSl
import Derived.Deep.RegionHeld3
namespace Go.Proofs.Ytmkdkepbnhlflaa
open Go.RowKit
set_option linter.unusedVariables false

end Go.Proofs.Ytmkdkepbnhlflaa
