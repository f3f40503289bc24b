/-
  What slices.Sort, slices.Compact, slices.BinarySearch, slices.Concat do to slices of ints of the call's own.
-/
import Derived.Test.YtgdklpgmoanfkaaInts
import Derived.Test.YtgdklpgmoanfkaaShelf
import Derived.Sort.OwnSortedInts
import Derived.Lib.RowBridge
import Derived.Laws.AppendOwnNone
namespace Go.Proofs.Ytgdklpgmoanfkaa
open Go.RowKit Go.Shelf
set_option linter.unusedVariables false

/-- v is a slice of the call's own (blocks from base on) that holds L. -/
abbrev OwnI (w : World) (base : Nat) (v : Value) (L : List Int) : Prop := w.ownsRow base 3 1 v L.length (L.map encI)

theorem sort_any (blk off cap : Nat) (zs : List Int) (w : World) (hH : Sort.Holds (Value.int .i64) w blk off zs.toArray) (hblk : blk < w.heap.size) (hsz : zs.length < 4611686018427387904) :
    Calls Try.prog 40 #[.slice (some ⟨blk, off, none⟩) zs.length cap] w fun e w' =>
      e = .returned (.tuple #[]) ∧ ∃ n os, w' = Sort.grow (Sort.putRow (Value.int .i64) (Sort.ahead w n) blk off (zs.mergeSort fun x y => decide (x ≤ y)).toArray) os :=
  Any.slices_Sort_int Try.lays189 blk off cap zs w hH hblk hsz
theorem sort_none (p : Option Addr) (cap : Nat) (w : World) :
    Calls Try.prog 40 #[.slice p 0 cap] w fun e w' => e = .returned (.tuple #[]) ∧ w' = w :=
  Any.slices_Sort_int_none Try.lays189 p cap w
theorem compact_any (blk off cap : Nat) (zs : List Int) (w : World) (hH : Sort.Holds (Value.int .i64) w blk off zs.toArray) (hsz : zs.length ≤ 9223372036854775807) (hcap : zs.length ≤ cap) :
    Calls Try.prog 41 #[.slice (some ⟨blk, off, none⟩) zs.length cap] w fun e w' =>
      e = .returned (.slice (some ⟨blk, off, none⟩) (Lib.compact zs).length cap) ∧ ∃ q, w' = Sort.putRow (Value.int .i64) (Sort.ahead w q) blk off (Lib.compact zs ++ List.replicate (zs.length - (Lib.compact zs).length) 0).toArray :=
  Any.slices_Compact_int Try.lays2n20 blk off cap zs w hH hsz hcap
theorem compact_none (a : Option Addr) (cap : Nat) (w : World) :
    Calls Try.prog 41 #[.slice a 0 cap] w fun e w' => e = .returned (.slice a 0 cap) ∧ w' = w :=
  Any.slices_Compact_int_empty Try.lays2n20 a cap w

theorem search_any (A : Option Addr) (c : Nat) (L : List Int) (x : Int) (w : World) (h : Ints w A c L) (hi : Inc L) (hl : L.length < 4611686018427387904) :
    Calls Try.prog 51 #[.slice A L.length c, .int .i64 x] w fun e w' =>
      (∃ n : Int, e = .returned (.tuple #[.int .i64 n, .bool (decide (x ∈ L))])) ∧ Below w.heap.size w w' := by
  by_cases h0 : 0 < L.length
  · obtain ⟨b, o, rfl, ht⟩ := h.2.2.2 h0
    refine (Any.slices_BinarySearch_int Try.lays2n25 b o L.length c L x w (Nat.le_refl _) hl (fun j hj => ht.2 j hj) (by rw [List.take_length]; exact hi.imp (fun h => by omega))).mono ?_
    rintro e w' ⟨rfl, q, rfl⟩
    rw [List.take_length]
    refine ⟨⟨((L.countP (· < x) : Nat) : Int), ?_⟩, ⟨rfl, rfl, rfl, Nat.le_refl _, fun _ _ => rfl⟩⟩
    rw [show L.contains x = decide (x ∈ L) from Bool.eq_iff_iff.2 (by simp)]
  · have e : L = [] := List.length_eq_zero_iff.1 (by omega)
    subst e
    refine (Any.slices_BinarySearch_int_empty Try.lays2n25 A c x w).mono ?_
    rintro e w' ⟨rfl, rfl⟩
    exact ⟨⟨0, by simp⟩, Below.refl _ _⟩

theorem below_putRow {B g n : Nat} {w : World} {os : Array Obj} (d : Array Int) (hg : B ≤ g) (hB : B ≤ w.heap.size) : Below B w (Sort.grow (Sort.putRow (Value.int .i64) (Sort.ahead w n) g 0 d) os) :=
  (Below.refl B w).grown (grownBy_sortedI (g := g) (n := n) (os := os) d) hB (fun k hk => by cases hk; exact hg)

theorem grow_nil (w : World) : Sort.grow w #[] = w := by cases w; simp [Sort.grow]

end Go.Proofs.Ytgdklpgmoanfkaa
