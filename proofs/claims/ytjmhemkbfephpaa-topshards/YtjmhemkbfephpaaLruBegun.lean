/-
  SameCache of the reference; what must be in any case.
-/
import Derived.Test.YtjmhemkbfephpaaLruApi2
namespace Go.Proofs.Ytjmhemkbfephpaa.Lru
open Go.RowKit Go.Maps
set_option linter.unusedVariables false

/-! ### Literal slices -/
theorem ints_lit (w : World) (L : List Int) (h : L.length ≤ maxLen) : Ints (w.alloc (.cells (L.map encI).toArray 3)) (some ⟨w.heap.size, 0, none⟩) L.length L := by
  refine ⟨Nat.le_refl _, h, fun e => (by cases e), fun _ => ⟨w.heap.size, 0, rfl, by simp, fun i hi => ?_⟩⟩
  rw [cell_of_row _ _ _ _ _ (0, 0) (show (w.alloc (.cells (L.map encI).toArray 3)).heap[w.heap.size]? = some (.cells (L.map encI).toArray 3 (0, 0)) from Array.getElem?_push_size)]
  simp [List.getElem?_eq_getElem hi, gi_get hi]

theorem same_lit (A : Option Addr) (c n q : Nat) (L M : List Int) (b : Bool) (w : World) (hq : q = w.heap.size) (h : Ints w A c L) (hn : M.length = n) (hm : n ≤ maxLen) (hb : decide (L = M) = b) :
    Calls Try.prog 19 #[.slice A L.length c, .slice (some ⟨q, 0, none⟩) n n] (w.alloc (.cells (M.map encI).toArray 3)) fun e w' => e = .returned (.bool b) ∧ Below w.heap.size w w' := by
  subst hq hn hb
  refine (sameInts_any A _ c M.length L M _ (h.alloc _) (ints_lit w M hm)).mono ?_
  rintro e w' ⟨h1, h2⟩
  exact ⟨h1, (bel_al (Below.refl _ _) (Nat.le_refl _) _).trans (h2.mono (by simp))⟩

end Go.Proofs.Ytjmhemkbfephpaa.Lru
