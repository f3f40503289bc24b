/-
  SameCache of the reference; what must be in any case.
-/
import Derived.Test.YtmldjfbnljdamaaLruApi2
namespace Go.Proofs.Ytmldjfbnljdamaa.Lru
open Go.RowKit Go.Maps
set_option linter.unusedVariables false

/-! ### Literal slices -/
theorem ints_lit (w : World) (L : List Int) (h : L.length ≤ maxLen) : Ints (w.alloc (.cells (L.map encI).toArray 3)) (some ⟨w.heap.size, 0, none⟩) L.length L := by
  refine ⟨Nat.le_refl _, h, fun e => (by cases e), fun _ => ⟨w.heap.size, 0, rfl, by simp, fun i hi => ?_⟩⟩
  rw [cell_of_row _ _ _ _ _ (0, 0) (show (w.alloc (.cells (L.map encI).toArray 3)).heap[w.heap.size]? = some (.cells (L.map encI).toArray 3 (0, 0)) from Array.getElem?_push_size)]
  simp [List.getElem?_eq_getElem hi, gi_get hi]

end Go.Proofs.Ytmldjfbnljdamaa.Lru
