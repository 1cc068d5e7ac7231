/-
  The contract of the model's WeightOf.
-/
import Derived.Test.YtggbgjadfmjaaabBxV
import Derived.Test.YtggbgjadfmjaaabBxWMath
import Derived.Test.YtggbgjadfmjaaabGBase
namespace Go.Proofs.Ytggbgjadfmjaaab
open Go.RowKit
set_option linter.unusedVariables false

end Go.Proofs.Ytggbgjadfmjaaab
