/-
  Contracts of the places in an order: the model's l5Turn, the program's turnOf and blockingIn.
-/
import Derived.Test.YtlcfldmiibjboabDgMath4
import Derived.Test.YtlcfldmiibjboabPaI
namespace Go.Proofs.Ytlcfldmiibjboab
open Go.RowKit
set_option linter.unusedVariables false

end Go.Proofs.Ytlcfldmiibjboab
