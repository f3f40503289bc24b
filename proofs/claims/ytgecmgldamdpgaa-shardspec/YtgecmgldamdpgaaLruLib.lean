/-
  What slices.Index, Contains, Clone, Delete, Insert, Reverse do to slices of ints of the call's own.
-/
import Derived.Test.YtgecmgldamdpgaaIntsLib
import Derived.Test.YtgecmgldamdpgaaLruMath
namespace Go.Proofs.Ytgecmgldamdpgaa.Lru
open Go.RowKit Go.Shelf
set_option linter.unusedVariables false

theorem idx_in {L : List Int} {x : Int} (h : x ∈ L) : ∃ k : Nat, k < L.length ∧ Lib.idxOf L x = (k : Int) ∧ L.take k ++ L.drop (k + 1) = L.erase x := by
  refine ⟨L.idxOf x, List.idxOf_lt_length_of_mem h, ?_, ?_⟩
  · unfold Lib.idxOf
    have hk := List.idxOf_lt_length_of_mem h
    rw [Lib.idxFrom_hit x L (L.idxOf x) 0 hk (by rw [List.getD_eq_getElem?_getD, List.getElem?_eq_getElem hk]; simp) (fun j hj e => by
      have hjl : j < L.length := by omega
      rw [List.getD_eq_getElem?_getD, List.getElem?_eq_getElem hjl] at e
      have e2 : L[j] = x := by simpa using e
      have := List.not_of_lt_findIdx (p := (· == x)) (xs := L) (i := j) hj
      simp [e2] at this)]
    simp
  · rw [List.erase_eq_eraseIdx_of_idxOf (l := L) (a := x) rfl, List.eraseIdx_eq_take_drop_succ]
theorem idx_out {L : List Int} {x : Int} (h : x ∉ L) : Lib.idxOf L x < 0 := by
  by_cases hh : 0 ≤ Lib.idxOf L x
  · rw [Lib.idxOf_nonneg_iff] at hh
    exact absurd (by simpa using hh) h
  · omega

/-! ### Rows of the call's own, cell by cell -/
theorem own_of_cells {w : World} {base g cap : Nat} {cur : Array Value} {L : List Int} (hg : w.heap[g]? = some (.cells cur 3 (0, 0))) (hs : cur.size = cap) (hb : base ≤ g) (hl : L.length ≤ cap) (hm : cap ≤ maxLen)
    (hc : ∀ j, j < L.length → w.cell? ⟨g, j, none⟩ = some (encI (gi L j))) : OwnI w base (.slice (some ⟨g, 0, none⟩) L.length cap) L := by
  refine ⟨by simp, .inr ⟨g, cap, cur, rfl, hb, hg, hl, hm, by omega, ?_⟩⟩
  apply List.ext_getElem?
  intro j
  by_cases hj : j < L.length
  · rw [List.getElem?_take_of_lt (by omega), List.getElem?_map, List.getElem?_eq_getElem hj, ← gi_get hj]
    have := hc j hj
    rw [cell_of_row w g j _ _ (0, 0) hg] at this
    simpa using this
  · rw [List.getElem?_eq_none (by simp; omega), List.getElem?_eq_none (by simp; omega)]
theorem blk_setCells {g : Nat} {T : TypeId} : ∀ (vs : List Value) (o : Nat) (w : World) (cur : Array Value), w.heap[g]? = some (.cells cur T (0, 0)) → ∃ cur', (w.setCells g o vs).heap[g]? = some (.cells cur' T (0, 0)) ∧ cur'.size = cur.size
  | [], _, _, cur, h => ⟨cur, h, rfl⟩
  | v :: vs, o, w, cur, h => by
    obtain ⟨cur', h1, h2⟩ := blk_setCells (g := g) (T := T) vs (o + 1) (w.setCell ⟨g, o, none⟩ v) (cur.setIfInBounds o v) (by simp [World.setCell, Array.getElem?_modify, h])
    exact ⟨cur', h1, by rw [h2]; simp⟩
theorem below_setC {B g : Nat} {w0 w : World} (hb : Below B w0 w) (hg : B ≤ g) (o : Nat) (vs : List Value) : Below B w0 (w.setCells g o vs) := by
  induction vs generalizing w o with
  | nil => exact hb
  | cons v vs ih => exact ih (hb.setCell (p := ⟨g, o, none⟩) hg v) (o + 1)

end Go.Proofs.Ytgecmgldamdpgaa.Lru
