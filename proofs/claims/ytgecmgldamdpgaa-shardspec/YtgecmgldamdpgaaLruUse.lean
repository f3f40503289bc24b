/-
  Package lru: a key is moved to the front.
-/
import Derived.Test.YtgecmgldamdpgaaLruWalks
namespace Go.Proofs.Ytgecmgldamdpgaa.Lru
open Go.RowKit
set_option linter.unusedVariables false

/-- What use gives. -/
def UR (r : Int) (L : List Int) (x : Int) (base : Nat) (w : World) (e : Ending) (w' : World) : Prop :=
  ∃ v', e = .returned (.tuple #[v', .bool (decide (x ∈ L)), .int .i64 (gone r L x)]) ∧ OwnI w' base v' (touch r L x) ∧ Below base w w'

end Go.Proofs.Ytgecmgldamdpgaa.Lru
