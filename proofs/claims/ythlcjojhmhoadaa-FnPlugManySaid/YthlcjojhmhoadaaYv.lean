/-
  The contract of the model's YardValid.
-/
import Derived.Test.YthlcjojhmhoadaaGYh
import Derived.Test.YthlcjojhmhoadaaGBase
namespace Go.Proofs.Ythlcjojhmhoadaa
open Go.RowKit
set_option linter.unusedVariables false

end Go.Proofs.Ythlcjojhmhoadaa
