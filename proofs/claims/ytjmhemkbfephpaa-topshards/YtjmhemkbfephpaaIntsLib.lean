/-
  What slices.Sort, slices.Compact, slices.BinarySearch, slices.Concat do to slices of ints of the call's own.
-/
import Derived.Test.YtjmhemkbfephpaaInts
import Derived.Test.YtjmhemkbfephpaaShelf
import Derived.Sort.OwnSortedInts
import Derived.Lib.RowBridge
import Derived.Laws.AppendOwnNone
namespace Go.Proofs.Ytjmhemkbfephpaa
open Go.RowKit Go.Shelf
set_option linter.unusedVariables false

/-- v is a slice of the call's own (blocks from base on) that holds L. -/
abbrev OwnI (w : World) (base : Nat) (v : Value) (L : List Int) : Prop := w.ownsRow base 3 1 v L.length (L.map encI)

theorem below_putRow {B g n : Nat} {w : World} {os : Array Obj} (d : Array Int) (hg : B ≤ g) (hB : B ≤ w.heap.size) : Below B w (Sort.grow (Sort.putRow (Value.int .i64) (Sort.ahead w n) g 0 d) os) :=
  (Below.refl B w).grown (grownBy_sortedI (g := g) (n := n) (os := os) d) hB (fun k hk => by cases hk; exact hg)

theorem grow_nil (w : World) : Sort.grow w #[] = w := by cases w; simp [Sort.grow]

end Go.Proofs.Ytjmhemkbfephpaa
