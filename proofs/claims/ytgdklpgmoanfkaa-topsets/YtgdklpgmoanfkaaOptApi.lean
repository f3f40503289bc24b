/-
  Package optimal: Next, Bound.
-/
import Derived.Test.YtgdklpgmoanfkaaOptUse
namespace Go.Proofs.Ytgdklpgmoanfkaa.Opt
open Go.RowKit
open Bst
open Lfu (Us gu gu_get gu_mem gu_set keys keys_len keys_get keys_mem)
open Lru (isRm isK keysE keysE_zero traceE trace_zero)
set_option linter.unusedVariables false
set_option maxRecDepth 100000

end Go.Proofs.Ytgdklpgmoanfkaa.Opt
