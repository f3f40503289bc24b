/-
  A block of memory that holds a table of the call's own: how it reads, and what a store of a slot makes of it.
-/
import Derived.Test.YtaioefimgggfkaaTableWalks3
import Derived.Laws.MakeOwn
import Derived.Laws.OwnMore
import Derived.Laws.Rows
namespace Go.Proofs.Ytaioefimgggfkaa
open Go.RowKit
set_option linter.unusedVariables false

def cellsS (s : Sl) : List Value := [.bool s.used, .string s.key, .int .i64 s.val]
def encL (L : List Sl) : List Value := L.flatMap cellsS
def encS (L : List Sl) : Array Value := (encL L).toArray

theorem encL_len (L : List Sl) : (encL L).length = L.length * 3 := by
  induction L with
  | nil => rfl
  | cons x xs ih => simp only [encL, List.flatMap_cons, List.length_append, List.length_cons] at *; rw [ih]; simp only [cellsS, List.length_cons, List.length_nil]; omega
theorem encL_get (L : List Sl) : ∀ (i j : Nat), j < 3 → i < L.length → (encL L)[i * 3 + j]? = (cellsS (sl L i))[j]? := by
  induction L with
  | nil => intro i j hj hi; simp at hi
  | cons x xs ih =>
    intro i j hj hi
    have e : encL (x :: xs) = cellsS x ++ encL xs := by simp [encL]
    rw [e]
    cases i with
    | zero => rw [List.getElem?_append_left (by simp [cellsS]; omega)]; simp [sl]
    | succ i =>
      rw [List.getElem?_append_right (by simp only [cellsS, List.length_cons, List.length_nil]; omega), show (i + 1) * 3 + j - (cellsS x).length = i * 3 + j by simp only [cellsS, List.length_cons, List.length_nil]; omega, ih i j hj (by simpa using hi)]
      simp [sl]
theorem encL_set (L : List Sl) (s : Sl) : ∀ i, (((encL L).set (i * 3) (.bool s.used)).set (i * 3 + 1) (.string s.key)).set (i * 3 + 2) (.int .i64 s.val) = encL (L.set i s) := by
  induction L with
  | nil => intro i; simp [encL]
  | cons x xs ih =>
    intro i
    have e : ∀ y ys, encL (y :: ys) = .bool y.used :: .string y.key :: .int .i64 y.val :: encL ys := fun y ys => by simp [encL, cellsS]
    cases i with
    | zero => simp [e]
    | succ i =>
      rw [List.set_cons_succ, e, e, ← ih i, show (i + 1) * 3 = i * 3 + 1 + 1 + 1 by omega]
      simp only [List.set_cons_succ]
theorem encS_set (L : List Sl) (s : Sl) (i : Nat) : (((encS L).setIfInBounds (i * 3) (.bool s.used)).setIfInBounds (i * 3 + 1) (.string s.key)).setIfInBounds (i * 3 + 2) (.int .i64 s.val) = encS (L.set i s) := by
  unfold encS
  rw [← encL_set]
  simp
theorem sl_rep (n i : Nat) : sl (List.replicate n Sl.no) i = Sl.no := by
  unfold sl
  rw [List.getD_eq_getElem?_getD, List.getElem?_replicate]
  split <;> rfl
theorem made_encS (n : Nat) : madeCells #[.bool false, .string ⟨#[]⟩, .int .i64 0] (n * 3) = encS (List.replicate n Sl.no) := by
  apply Array.ext_getElem?
  intro k
  by_cases hk : k < n * 3
  · have hj : k % 3 < 3 := Nat.mod_lt _ (by omega)
    have e : k = k / 3 * 3 + k % 3 := by omega
    have h1 : (encS (List.replicate n Sl.no))[k]? = (cellsS Sl.no)[k % 3]? := by
      unfold encS
      rw [List.getElem?_toArray]
      conv => lhs; rw [e]
      rw [encL_get _ _ _ hj (by simp; omega)]
      rw [sl_rep]
    rw [h1]
    simp only [madeCells]
    rw [Array.getElem?_map, Array.getElem?_range, if_pos hk]
    simp only [Option.map_some]
    have h3 : k % 3 = 0 ∨ k % 3 = 1 ∨ k % 3 = 2 := by omega
    have hs : (#[Value.bool false, .string ⟨#[]⟩, .int .i64 0] : Array Value).size = 3 := rfl
    rw [hs]
    rcases h3 with h | h | h <;> rw [h] <;> rfl
  · rw [Array.getElem?_eq_none (by rw [size_madeCells]; omega), Array.getElem?_eq_none (by simp [encS, encL_len]; omega)]

/-- Block g is a row of the call's own that begins with a table. -/
def Own (w : World) (g : Nat) (L : List Sl) : Prop := ∃ rest : List Value, w.heap[g]? = some (.cells (encL L ++ rest).toArray 33 (0, 0))

section
variable {w w' : World} {g : Nat} {L : List Sl}
theorem Own.lt (h : Own w g L) : g < w.heap.size := by
  obtain ⟨_, h⟩ := h
  rcases Nat.lt_or_ge g w.heap.size with hlt | hge
  · exact hlt
  · rw [Array.getElem?_eq_none hge] at h; cases h
theorem Own.cell (h : Own w g L) {k : Nat} (hk : k < L.length * 3) : w.cell? ⟨g, k, none⟩ = (encL L)[k]? := by
  obtain ⟨rest, h⟩ := h
  rw [cell_of_row w g k _ _ (0, 0) h, List.getElem?_toArray, List.getElem?_append_left (by rw [encL_len]; exact hk)]
theorem Own.frozen (h : Own w g L) (k : Nat) : w.frozen? ⟨g, k, none⟩ = false := by
  obtain ⟨_, h⟩ := h
  simp [World.frozen?, h]
theorem Own.at_ (h : Own w g L) {i : Nat} (hi : i < L.length) : w.cell? ⟨g, i * 3, none⟩ = some (.bool (sl L i).used) ∧ w.cell? ⟨g, i * 3 + 1, none⟩ = some (.string (sl L i).key) ∧ w.cell? ⟨g, i * 3 + 2, none⟩ = some (.int .i64 (sl L i).val) :=
  ⟨by rw [h.cell (by omega)]; exact encL_get L i 0 (by omega) hi, by rw [h.cell (by omega)]; exact encL_get L i 1 (by omega) hi, by rw [h.cell (by omega)]; exact encL_get L i 2 (by omega) hi⟩
theorem Own.tab (h : Own w g L) : TabAt w g 0 L := ⟨h.lt, fun i hi => by
  obtain ⟨a, b, c⟩ := h.at_ hi
  unfold SlotAt
  rw [Nat.zero_add]
  exact ⟨a, b, c⟩⟩
theorem Own.new (w : World) (L : List Sl) : Own (w.alloc (.cells (encS L) 33)) w.heap.size L := ⟨[], by rw [List.append_nil]; exact heap_alloc_new w _⟩
theorem Own.alloc (h : Own w g L) (o : Obj) : Own (w.alloc o) g L := by
  have := h.lt
  obtain ⟨r, h⟩ := h
  exact ⟨r, (Below.heap_alloc w o g this).trans h⟩
theorem Own.below {B : Nat} (h : Own w g L) (hb : Below B w w') (hg : g < B) : Own w' g L := by
  obtain ⟨r, h⟩ := h
  exact ⟨r, (hb.block g hg).trans h⟩
theorem Own.far (h : Own w g L) {p : Addr} (hp : g ≠ p.block) (u : Value) : Own (w.setCell p u) g L := by
  obtain ⟨r, h⟩ := h
  exact ⟨r, (Below.heap_setCell w p u g hp).trans h⟩
theorem heap_set_ {cs : Array Value} {t : TypeId} (h : w.heap[g]? = some (.cells cs t (0, 0))) (i : Nat) (u : Value) : (w.setCell ⟨g, i, none⟩ u).heap[g]? = some (.cells (cs.setIfInBounds i u) t (0, 0)) := by
  simp [World.setCell, Array.getElem?_modify, h]
theorem set_app {i : Nat} {u : Value} {A B : List Value} (h : i < A.length) : (A ++ B).toArray.setIfInBounds i u = (A.set i u ++ B).toArray := by
  rw [List.setIfInBounds_toArray, List.set_append_left _ _ h]
theorem Own.set_ (h : Own w g L) {i : Nat} (hi : i < L.length) (s : Sl) : Own (((w.setCell ⟨g, i * 3, none⟩ (.bool s.used)).setCell ⟨g, i * 3 + 1, none⟩ (.string s.key)).setCell ⟨g, i * 3 + 2, none⟩ (.int .i64 s.val)) g (L.set i s) := by
  obtain ⟨r, h⟩ := h
  refine ⟨r, ?_⟩
  have hl := encL_len L
  rw [← encL_set, ← set_app (by simp; omega), ← set_app (by simp; omega), ← set_app (by omega)]
  exact heap_set_ (heap_set_ (heap_set_ h _ _) _ _) _ _
end

end Go.Proofs.Ytaioefimgggfkaa
