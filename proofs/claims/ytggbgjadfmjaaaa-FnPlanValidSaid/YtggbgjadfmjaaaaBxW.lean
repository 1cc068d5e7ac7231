/-
  The contract of the model's WeightOf.
-/
import Derived.Test.YtggbgjadfmjaaaaBxV
import Derived.Test.YtggbgjadfmjaaaaBxWMath
import Derived.Test.YtggbgjadfmjaaaaGBase
namespace Go.Proofs.Ytggbgjadfmjaaaa
open Go.RowKit
set_option linter.unusedVariables false

end Go.Proofs.Ytggbgjadfmjaaaa
