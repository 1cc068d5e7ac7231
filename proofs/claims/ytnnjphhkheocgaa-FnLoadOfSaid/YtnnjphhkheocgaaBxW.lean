/-
  The contract of the model's WeightOf.
-/
import Derived.Test.YtnnjphhkheocgaaBxV
import Derived.Test.YtnnjphhkheocgaaBxWMath
import Derived.Test.YtnnjphhkheocgaaGBase
namespace Go.Proofs.Ytnnjphhkheocgaa
open Go.RowKit
set_option linter.unusedVariables false

end Go.Proofs.Ytnnjphhkheocgaa
