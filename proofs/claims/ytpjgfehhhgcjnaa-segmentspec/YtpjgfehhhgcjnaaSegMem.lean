/-
  Segmented caches in memory.
-/
import Derived.Test.YtpjgfehhhgcjnaaSegMath
import Derived.Test.YtpjgfehhhgcjnaaLruApi
namespace Go.Proofs.Ytpjgfehhhgcjnaa.Seg
open Go.RowKit
set_option linter.unusedVariables false
set_option maxRecDepth 100000

abbrev kv (f s : Int) (v u : Value) : Value := .agg #[.int .i64 f, .int .i64 s, v, u]
abbrev ko (f s : Int) (v u : Value) : Obj := .cells #[.int .i64 f, .int .i64 s, v, u] 24
abbrev nk : Value := kv 0 0 (.slice none 0 0) (.slice none 0 0)
abbrev zk : Obj := ko 0 0 (.slice none 0 0) (.slice none 0 0)
/-- Block p holds a segmented cache. -/
def Kb (w : World) (p : Nat) (f s : Int) (v u : Value) : Prop := w.heap[p]? = some (.cells #[.int .i64 f, .int .i64 s, v, u] 24 (0, 0))
section
variable {w w' : World} {p base : Nat} {f s : Int} {v u v' : Value} {L : List Int}
theorem Kb.lt (k : Kb w p f s v u) : p < w.heap.size := (Array.getElem?_eq_some_iff.1 k).1
theorem Kb.cells (k : Kb w p f s v u) : w.cell? ⟨p, 0, none⟩ = some (.int .i64 f) ∧ w.cell? ⟨p, 1, none⟩ = some (.int .i64 s) ∧ w.cell? ⟨p, 2, none⟩ = some v ∧ w.cell? ⟨p, 3, none⟩ = some u := by
  have k : w.heap[p]? = some (.cells #[.int .i64 f, .int .i64 s, v, u] 24 (0, 0)) := k
  exact ⟨by rw [cell_of_row w p 0 _ _ (0, 0) k]; rfl, by rw [cell_of_row w p 1 _ _ (0, 0) k]; rfl, by rw [cell_of_row w p 2 _ _ (0, 0) k]; rfl, by rw [cell_of_row w p 3 _ _ (0, 0) k]; rfl⟩
theorem Kb.free (k : Kb w p f s v u) : w.frozen? ⟨p, 0, none⟩ = false ∧ w.frozen? ⟨p, 1, none⟩ = false ∧ w.frozen? ⟨p, 2, none⟩ = false ∧ w.frozen? ⟨p, 3, none⟩ = false := by
  have k : w.heap[p]? = some (.cells #[.int .i64 f, .int .i64 s, v, u] 24 (0, 0)) := k
  exact ⟨by simp [World.frozen?, k], by simp [World.frozen?, k], by simp [World.frozen?, k], by simp [World.frozen?, k]⟩
theorem Kb.below (k : Kb w p f s v u) (hb : Below w.heap.size w w') : Kb w' p f s v u := (hb.block p k.lt).trans k
theorem Kb.belowB {B : Nat} (k : Kb w p f s v u) (hb : Below B w w') (hp : p < B) : Kb w' p f s v u := (hb.block p hp).trans k
theorem Kb.alloc (k : Kb w p f s v u) (o : Obj) : Kb (w.alloc o) p f s v u := k.below ((Below.refl _ _).alloc (Nat.le_refl _) o)
theorem Kb.drew (k : Kb w p f s v u) : Kb w.drew p f s v u := k
theorem Kb.new (w : World) (f s : Int) (v u : Value) : Kb (w.alloc (ko f s v u)) w.heap.size f s v u := Array.getElem?_push_size
theorem Kb.own (k : Kb w p f s v u) (ho : OwnI w base v' L) : v'.ownBlock ≠ some p := by
  intro e
  rcases ho.2 with ⟨rfl, -⟩ | ⟨g, cap, cur, rfl, -, hg, -⟩
  · cases e
  · cases e
    have k : w.heap[g]? = some (.cells #[.int .i64 f, .int .i64 s, v, u] 24 (0, 0)) := k
    rw [hg] at k
    simp at k
theorem Kb.grown (k : Kb w p f s v u) (ho : OwnI w base v' L) (hg : w.grownBy w' v'.ownBlock) : Kb w' p f s v u := (hg.block p k.lt (fun e => k.own ho e.symm)).trans k
theorem Kb.setN (k : Kb w p f s v u) (x : Value) : Kb (w.setCell ⟨p, 2, none⟩ x) p f s x u := by
  have k : w.heap[p]? = some (.cells #[.int .i64 f, .int .i64 s, v, u] 24 (0, 0)) := k
  show (w.setCell ⟨p, 2, none⟩ x).heap[p]? = _
  simp [World.setCell, Array.getElem?_modify, k]
theorem Kb.setO (k : Kb w p f s v u) (x : Value) : Kb (w.setCell ⟨p, 3, none⟩ x) p f s v x := by
  have k : w.heap[p]? = some (.cells #[.int .i64 f, .int .i64 s, v, u] 24 (0, 0)) := k
  show (w.setCell ⟨p, 3, none⟩ x).heap[p]? = _
  simp [World.setCell, Array.getElem?_modify, k]
/-- A store into another block. -/
theorem Kb.other (k : Kb w p f s v u) {a : Addr} (ha : p ≠ a.block) (x : Value) : Kb (w.setCell a x) p f s v u := (Below.heap_setCell w a x p ha).trans k
/-- All four cells are written. -/
abbrev set4 (w : World) (p : Nat) (a b c d : Value) : World := (((w.setCell ⟨p, 0, none⟩ a).setCell ⟨p, 1, none⟩ b).setCell ⟨p, 2, none⟩ c).setCell ⟨p, 3, none⟩ d
theorem Kb.put4 (k : Kb w p f s v u) (f' s' : Int) (a b : Value) : Kb (set4 w p (.int .i64 f') (.int .i64 s') a b) p f' s' a b := by
  have k : w.heap[p]? = some (.cells #[.int .i64 f, .int .i64 s, v, u] 24 (0, 0)) := k
  show (set4 w p (.int .i64 f') (.int .i64 s') a b).heap[p]? = _
  simp [set4, World.setCell, Array.getElem?_modify, k]
theorem Kb.other4 (k : Kb w p f s v u) {q : Nat} (hq : p ≠ q) (a b c d : Value) : Kb (set4 w q a b c d) p f s v u :=
  (((k.other (a := ⟨q, 0, none⟩) hq a).other (a := ⟨q, 1, none⟩) hq b).other (a := ⟨q, 2, none⟩) hq c).other (a := ⟨q, 3, none⟩) hq d
end

theorem bel_al {B : Nat} {w w' : World} (h : Below B w w') (hB : B ≤ w'.heap.size) (o : Obj) : Below B w (w'.alloc o) := h.alloc hB o
theorem bel_set {B : Nat} {w w' : World} (h : Below B w w') {a : Addr} (ha : B ≤ a.block) (u : Value) : Below B w (w'.setCell a u) :=
  h.trans ⟨rfl, rfl, rfl, by simp [World.setCell], fun k hk => Below.heap_setCell w' a u k (by omega)⟩
theorem bel_set4 {B : Nat} {w w' : World} (h : Below B w w') {p : Nat} (hp : B ≤ p) (a b c d : Value) : Below B w (set4 w' p a b c d) :=
  bel_set (bel_set (bel_set (bel_set h (a := ⟨p, 0, none⟩) hp a) (a := ⟨p, 1, none⟩) hp b) (a := ⟨p, 2, none⟩) hp c) (a := ⟨p, 3, none⟩) hp d

/-! ### Rows of the call's own -/
section
variable {w w' : World} {base p : Nat} {v u : Value} {L M : List Int}
theorem own_set (h : OwnI w base v L) (hp : v.ownBlock ≠ some p) (j : Nat) (x : Value) : OwnI (w.setCell ⟨p, j, none⟩ x) base v L :=
  World.ownsRow.kept (row := some p) h ⟨rfl, rfl, rfl, by simp [World.setCell], fun k hk hne => Below.heap_setCell w ⟨p, j, none⟩ x k (fun e => hne (by rw [e]))⟩ (.inr hp)
theorem own_set4 (h : OwnI w base v L) (hp : v.ownBlock ≠ some p) (a b c d : Value) : OwnI (set4 w p a b c d) base v L :=
  own_set (own_set (own_set (own_set h hp 0 a) hp 1 b) hp 2 c) hp 3 d
theorem own_al (h : OwnI w base v L) (o : Obj) : OwnI (w.alloc o) base v L := World.ownsRow.alloc h o
theorem own_bel (h : OwnI w base v L) (hb : Below w.heap.size w w') : OwnI w' base v L :=
  h.kept (row := none) ⟨hb.os, hb.tape, hb.output, hb.size, fun k hk _ => hb.block k hk⟩ (by cases hv : v.ownBlock <;> simp)
theorem own_le {base' : Nat} (h : OwnI w base v L) (hb : base' ≤ base) : OwnI w base' v L :=
  ⟨h.1, h.2.elim .inl (fun ⟨g, cap, cur, e, h1, h2⟩ => .inr ⟨g, cap, cur, e, Nat.le_trans hb h1, h2⟩)⟩
theorem own_grown (h : OwnI w base v L) (hg : w.grownBy w' u.ownBlock) (hne : ∀ g, v.ownBlock = some g → u.ownBlock ≠ some g) : OwnI w' base v L :=
  h.kept (row := u.ownBlock) hg (by
    cases hv : v.ownBlock with
    | none => exact .inl rfl
    | some g => exact .inr (fun e => hne g hv e.symm))
/-- Two rows that do not lie in one block. -/
def Apart (v u : Value) : Prop := ∀ g, v.ownBlock = some g → u.ownBlock ≠ some g
theorem Apart.symm (h : Apart v u) : Apart u v := fun g hg e => h g e hg
theorem apart_new {B : Nat} (h : OwnI w' B v L) (k : OwnI w base u M) (hB : w.heap.size ≤ B) : Apart v u := fun g hg e => by
  have a := (h.lt g hg).1
  have b := (k.lt g e).2
  omega
theorem own_one1 (w : World) (x : Int) (base : Nat) (hb : base ≤ w.heap.size) : OwnI (w.alloc (.cells #[.int .i64 x] 3)) base (.slice (some ⟨w.heap.size, 0, none⟩) 1 1) [x] :=
  Lru.own_of_cells (L := [x]) (Lru.own_one w x) rfl hb (by simp) (by unfold maxLen; decide) (fun j hj => by
    obtain rfl : j = 0 := by simp at hj; omega
    simp [go_sem, gi])
theorem own_none (w : World) (base : Nat) : OwnI w base (.slice none 0 0) [] := World.ownsRow_nil _ _ _ _
end
theorem ret_bool {a b : Bool} (h : a = b) : Ending.returned (.bool a) = .returned (.bool b) := by rw [h]
theorem ret_int {a b : Int} (h : a = b) : Ending.returned (.int .i64 a) = .returned (.int .i64 b) := by rw [h]

end Go.Proofs.Ytpjgfehhhgcjnaa.Seg
