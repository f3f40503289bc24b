/-
  A row of ints that a call has made with make([]int, n).
-/
import Derived.Test.YtjmhemkbfephpaaTwoRows
namespace Go.Proofs.Ytjmhemkbfephpaa.Two
open Go.RowKit
set_option linter.unusedVariables false
set_option maxRecDepth 100000

theorem map_set_enc (L : List Int) (j : Nat) (x : Int) : (L.map encI).set j (encI x) = (L.set j x).map encI := by rw [List.map_set]
theorem run_make_ints (n : Nat) (hn : n ≤ 1048576) (w : World) :
    (Instr.makeSlice 23 (.int .i64 (n : Int)) (.int .i64 (n : Int))).run Try.prog w = .ok (.slice (some ⟨w.heap.size, 0, none⟩) n n) (w.alloc (.cells (Array.replicate n (Value.int .i64 0)) 3)) := by
  obtain ⟨i0, hi0, hz0, hz1, hz2⟩ := Go.Proofs.Ytjmhemkbfephpaa.info_parts int_info
  have hr := run_make (P := Try.prog) w 23 3 i0 _ Try.underlying23 hi0 hz0 .i64 .i64 (n : Int) (n : Int) (by omega) (by omega) (by rw [hz2]; omega) (by omega)
  rw [Int.toNat_natCast, hz1, Nat.mul_one] at hr
  rw [hr]
  congr 3
  apply Array.ext'
  exact (toList_madeCells_one _ _).trans (by simp)
/-- Block g is a row of n ints of the call's own. -/
def RowI (w : World) (g : Nat) (L : List Int) : Prop := w.heap[g]? = some (.cells (L.map encI).toArray 3 (0, 0))
section
variable {w w' : World} {g p base : Nat} {v : Value} {L M : List Int}
theorem RowI.lt (h : RowI w g L) : g < w.heap.size := (Array.getElem?_eq_some_iff.1 h).1
theorem RowI.new (w : World) (n : Nat) : RowI (w.alloc (.cells (Array.replicate n (Value.int .i64 0)) 3)) w.heap.size (List.replicate n 0) := by
  unfold RowI
  rw [List.map_replicate, ← List.toArray_replicate]
  exact heap_alloc_new w _
theorem RowI.below {B : Nat} (h : RowI w g L) (hb : Below B w w') (hg : g < B) : RowI w' g L := (hb.block g hg).trans h
theorem RowI.set (h : RowI w g L) (j : Nat) (x : Int) : RowI (w.setCell ⟨g, j, none⟩ (.int .i64 x)) g (L.set j x) := by
  unfold RowI at *
  rw [heap_setCell_same w g j _ _ _ h, List.setIfInBounds_toArray, ← map_set_enc]
theorem RowI.other (h : RowI w p L) {a : Addr} (ha : p ≠ a.block) (u : Value) : RowI (w.setCell a u) p L := (Below.heap_setCell w a u p ha).trans h
theorem RowI.cell (h : RowI w g L) {j : Nat} (hj : j < L.length) : w.cell? ⟨g, j, none⟩ = some (.int .i64 (gi L j)) := by
  rw [cell_of_row w g j _ _ (0, 0) h, List.getElem?_toArray, List.getElem?_map, List.getElem?_eq_getElem hj, gi_get hj]
  rfl
theorem RowI.frozen (h : RowI w g L) (j : Nat) : w.frozen? ⟨g, j, none⟩ = false := by
  unfold RowI at h; simp [World.frozen?, h]
theorem RowI.own (h : RowI w g L) (base : Nat) (hb : base ≤ g) (hl : L.length ≤ 1048576) : OwnI w base (.slice (some ⟨g, 0, none⟩) L.length L.length) L :=
  ⟨by simp, .inr ⟨g, L.length, _, rfl, hb, h, Nat.le_refl _, by unfold maxLen; omega, by simp, by rw [Nat.mul_one, List.take_of_length_le (by simp)]⟩⟩
theorem own_off (h : OwnI w base v L) (hp : p < base) : v.ownBlock ≠ some p := fun e => by have := (h.lt p e).1; omega
end
/-- What a function gives that returns a row and an error. -/
def RE (L : List Int) (e : Int) (w : World) (x : Ending) (w' : World) : Prop :=
  ∃ A c, x = .returned (.tuple #[.slice A L.length c, .int .i64 e]) ∧ Ints w' A c L ∧ Below w.heap.size w w'
/-- The same, the row being the call's own. -/
def REO (L : List Int) (e : Int) (w : World) (x : Ending) (w' : World) : Prop :=
  ∃ v, x = .returned (.tuple #[v, .int .i64 e]) ∧ OwnI w' w.heap.size v L ∧ Below w.heap.size w w'
theorem REO.re {L : List Int} {e : Int} {w : World} {x : Ending} {w' : World} (h : REO L e w x w') : RE L e w x w' := by
  obtain ⟨v, rfl, ho, hb⟩ := h
  obtain ⟨A, c, rfl, hI⟩ := ints_of_own ho
  exact ⟨A, c, rfl, hI, hb⟩
theorem REO.bad {e : Int} {w w' : World} (hb : Below w.heap.size w w') : REO [] e w (.returned (.tuple #[.slice none 0 0, .int .i64 e])) w' := ⟨_, rfl, own_none _ _, hb⟩

end Go.Proofs.Ytjmhemkbfephpaa.Two
