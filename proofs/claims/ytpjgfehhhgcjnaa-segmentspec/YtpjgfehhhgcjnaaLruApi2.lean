/-
  What Run and Resize of package lru return.
-/
import Derived.Test.YtpjgfehhhgcjnaaLruApi
namespace Go.Proofs.Ytpjgfehhhgcjnaa.Lru
open Go.RowKit Go.Maps
set_option linter.unusedVariables false

theorem take_one {xs : List Int} {k : Nat} (hk : k < xs.length) : xs.take (k + 1) = xs.take k ++ [gi xs k] := by rw [List.take_add_one, List.getElem?_eq_getElem hk, gi_get hk]; rfl

end Go.Proofs.Ytpjgfehhhgcjnaa.Lru
