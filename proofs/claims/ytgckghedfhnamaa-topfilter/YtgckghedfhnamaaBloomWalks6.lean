/-
  What Fold of package bloom returns.
-/
import Derived.Test.YtgckghedfhnamaaBloomWalks5
namespace Go.Proofs.Ytgckghedfhnamaa
open Go.RowKit Go.Shelf
set_option linter.unusedVariables false

end Go.Proofs.Ytgckghedfhnamaa
