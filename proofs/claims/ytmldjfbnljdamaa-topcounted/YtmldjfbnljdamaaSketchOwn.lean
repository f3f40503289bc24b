/-
  Grids of the call's own, whose rows can be written.
-/
import Derived.Test.YtmldjfbnljdamaaSketchWalks4
import Derived.Deep.AppendLies
import Derived.Deep.RegionLaw
namespace Go.Proofs.Ytmldjfbnljdamaa.Skt
open Go.RowKit
set_option linter.unusedVariables false

/-- Block h is a row of the call's own with room for c ints that begins with L. -/
def RowC (w : World) (h c : Nat) (L : List Int) : Prop :=
  ∃ cur : Array Value, w.heap[h]? = some (.cells cur 3 (0, 0)) ∧ cur.size = c ∧ L.length ≤ c ∧ c ≤ maxLen ∧ ∀ j, j < L.length → cur[j]? = some (.int .i64 (gi L j))
section
variable {w w' : World} {h c : Nat} {L : List Int}
theorem RowC.lt (H : RowC w h c L) : h < w.heap.size := by obtain ⟨cur, h1, _⟩ := H; exact (Array.getElem?_eq_some_iff.1 h1).1
theorem RowC.kept (H : RowC w h c L) (hb : w'.heap[h]? = w.heap[h]?) : RowC w' h c L := by
  obtain ⟨cur, h1, h2⟩ := H; exact ⟨cur, hb.trans h1, h2⟩
theorem RowC.cell (H : RowC w h c L) {j : Nat} (hj : j < L.length) : w.cell? ⟨h, j, none⟩ = some (.int .i64 (gi L j)) := by
  obtain ⟨cur, h1, h2, h3, h4, h5⟩ := H
  rw [cell_of_row w h j _ _ (0, 0) h1]; exact h5 j hj
theorem RowC.frozen (H : RowC w h c L) (j : Nat) : w.frozen? ⟨h, j, none⟩ = false := by
  obtain ⟨cur, h1, _⟩ := H; simp [World.frozen?, h1]
theorem RowC.ints (H : RowC w h c L) : Ints w (some ⟨h, 0, none⟩) c L := by
  have hl := H.lt
  obtain ⟨cur, h1, h2, h3, h4, h5⟩ := id H
  exact ⟨h3, h4, fun e => (by cases e), fun _ => ⟨h, 0, rfl, hl, fun i hi => by rw [Nat.zero_add]; exact H.cell hi⟩⟩
theorem gi_set {L : List Int} {j i : Nat} (hj : j < L.length) (x : Int) : gi (L.set j x) i = if i = j then x else gi L i := by
  unfold gi
  rw [List.getD_eq_getElem?_getD, List.getD_eq_getElem?_getD, List.getElem?_set]
  by_cases e : i = j
  · subst e; simp [hj]
  · rw [if_neg (fun h => e h.symm), if_neg e]
theorem RowC.set (H : RowC w h c L) {j : Nat} (hj : j < L.length) (x : Int) : RowC (w.setCell ⟨h, j, none⟩ (.int .i64 x)) h c (L.set j x) := by
  obtain ⟨cur, h1, h2, h3, h4, h5⟩ := H
  refine ⟨cur.setIfInBounds j (.int .i64 x), heap_setCell_same w h j _ _ _ h1, by simpa using h2, by simpa using h3, h4, fun i hi => ?_⟩
  rw [List.length_set] at hi
  rw [gi_set hj, Array.getElem?_setIfInBounds]
  by_cases e : j = i
  · subst e; rw [if_pos rfl, if_pos (by omega), if_pos rfl]
  · rw [if_neg e, if_neg (fun h => e h.symm)]; exact h5 i hi
theorem RowC.of_rowI (H : RowI w h L) (hl : L.length ≤ 1048576) : RowC w h L.length L :=
  ⟨_, H, by simp, Nat.le_refl _, by unfold maxLen; omega, fun j hj => by
    rw [List.getElem?_toArray, List.getElem?_map, List.getElem?_eq_getElem hj, gi_get hj]; rfl⟩
end

/-- v is a slice of slices of the call's own (xs), each of them a row of its own in a block of its own, and reads as LL. -/
def MGx (w : World) (base : Nat) (v : Value) (LL : List (List Int)) (xs : List Value) : Prop :=
  w.ownsRow base 22 1 v LL.length xs ∧ ∃ hs cs : Nat → Nat,
    (∀ i, i < LL.length → xs[i]? = some (.slice (some ⟨hs i, 0, none⟩) (gl LL i).length (cs i)) ∧ RowC w (hs i) (cs i) (gl LL i) ∧ base ≤ hs i ∧ v.ownBlock ≠ some (hs i)) ∧
    (∀ i j, i < j → j < LL.length → hs i ≠ hs j)
def MG (w : World) (base : Nat) (v : Value) (LL : List (List Int)) : Prop := ∃ xs, MGx w base v LL xs
section
variable {w w' : World} {base : Nat} {v : Value} {LL : List (List Int)} {xs : List Value}
theorem MGx.nil (w : World) (base : Nat) : MGx w base (.slice none 0 0) [] [] :=
  ⟨World.ownsRow_nil _ _ _ _, fun _ => 0, fun _ => 0, fun i hi => absurd hi (by simp), fun i j _ hj => absurd hj (by simp)⟩
theorem MGx.setCell (h : MGx w base v LL xs) {p : Addr} (hp : p.block < base) (u : Value) : MGx (w.setCell p u) base v LL xs := by
  have hv := h.1.lt
  obtain ⟨ho, hs, cs, h3, h4⟩ := h
  have hg : w.grownBy (w.setCell p u) (some p.block) := ⟨rfl, rfl, rfl, by simp [World.setCell], fun k hk hr => Below.heap_setCell _ _ _ _ (fun e => hr (by rw [e]))⟩
  refine ⟨ho.kept hg (.inr (fun e => by have := (hv _ e).1; omega)), hs, cs, fun i hi => ?_, h4⟩
  obtain ⟨a1, a2, a3, a4⟩ := h3 i hi
  exact ⟨a1, a2.kept (Below.heap_setCell _ _ _ _ (by omega)), a3, a4⟩
theorem MG.setCell (h : MG w base v LL) {p : Addr} (hp : p.block < base) (u : Value) : MG (w.setCell p u) base v LL := by obtain ⟨xs, h⟩ := h; exact ⟨xs, h.setCell hp u⟩
theorem MGx.below (h : MGx w base v LL xs) (hb : Below w.heap.size w w') : MGx w' base v LL xs := by
  obtain ⟨ho, hs, cs, h3, h4⟩ := h
  have hg : w.grownBy w' none := ⟨hb.os, hb.tape, hb.output, hb.size, fun k hk _ => hb.block k hk⟩
  refine ⟨ho.kept hg (by cases hv : v.ownBlock <;> simp), hs, cs, fun i hi => ?_, h4⟩
  obtain ⟨a1, a2, a3, a4⟩ := h3 i hi
  exact ⟨a1, a2.kept (hb.block _ a2.lt), a3, a4⟩
theorem MG.below (h : MG w base v LL) (hb : Below w.heap.size w w') : MG w' base v LL := by obtain ⟨xs, h⟩ := h; exact ⟨xs, h.below hb⟩
theorem gl_snoc {LL : List (List Int)} {R : List Int} {i : Nat} : gl (LL ++ [R]) i = if i = LL.length then R else gl LL i := by
  unfold gl
  rw [List.getD_eq_getElem?_getD, List.getD_eq_getElem?_getD, List.getElem?_append]
  by_cases e : i = LL.length
  · subst e; simp
  · rw [if_neg e]
    by_cases h : i < LL.length
    · rw [if_pos h]
    · rw [if_neg h, List.getElem?_eq_none (by simp; omega), List.getElem?_eq_none (by omega)]
/-- A row is appended. -/
theorem MGx.snoc {wA w1 : World} {R : List Int} {p c g cap : Nat} (h : MGx w base v LL xs) (hA : Below w.heap.size w wA) (hR : RowC wA p c R) (hp : w.heap.size ≤ p) (hb : base ≤ w.heap.size)
    (hown : w1.ownsRow base 22 1 (.slice (some ⟨g, 0, none⟩) (LL.length + 1) cap) (LL.length + 1) (xs ++ [.slice (some ⟨p, 0, none⟩) R.length c]))
    (hgr : wA.grownBy w1 v.ownBlock) (hat : v.ownBlock = some g ∨ g = wA.heap.size) :
    MGx w1 base (.slice (some ⟨g, 0, none⟩) (LL.length + 1) cap) (LL ++ [R]) (xs ++ [.slice (some ⟨p, 0, none⟩) R.length c]) := by
  have hv := h.1.lt
  have hxl : xs.length = LL.length := by have := h.1.1; omega
  obtain ⟨ho, hs, cs, h3, h4⟩ := h
  refine ⟨by rw [List.length_append]; exact hown, fun i => if i = LL.length then p else hs i, fun i => if i = LL.length then c else cs i, fun i hi => ?_, fun i j hij hj => ?_⟩
  · simp only [List.length_append, List.length_singleton] at hi
    rw [gl_snoc]
    by_cases e : i = LL.length
    · subst e
      simp only [if_true]
      have hpl := hR.lt
      have hne : v.ownBlock ≠ some p := fun e => by have := (hv p e).2; omega
      refine ⟨by rw [List.getElem?_append_right (by omega), hxl, Nat.sub_self]; rfl, hR.kept (hgr.block _ hpl (fun e => hne e.symm)), by omega, ?_⟩
      rcases hat with e | e
      · show some g ≠ some p
        rw [← e]; exact hne
      · show some g ≠ some p
        intro e2; cases e2; omega
    · simp only [if_neg e]
      obtain ⟨a1, a2, a3, a4⟩ := h3 i (by omega)
      have hl := a2.lt
      have hl2 := hA.size
      refine ⟨by rw [List.getElem?_append_left (by omega)]; exact a1, a2.kept ((hgr.block _ (by omega) (fun e => a4 e.symm)).trans (hA.block _ hl)), a3, ?_⟩
      rcases hat with e | e
      · show some g ≠ some (hs i)
        rw [← e]; exact a4
      · show some g ≠ some (hs i)
        intro e2; cases e2; omega
  · simp only [List.length_append, List.length_singleton] at hj
    have hl : ∀ i, i < LL.length → hs i < w.heap.size := fun i hi => (h3 i hi).2.1.lt
    dsimp only
    by_cases e : j = LL.length
    · rw [if_neg (by omega), if_pos e]; have := hl i (by omega); omega
    · rw [if_neg (by omega), if_neg e]; exact h4 i j hij (by omega)
theorem MGx.grid (h : MGx w base v LL xs) : ∃ A c, v = .slice A LL.length c ∧ Grid base w A c LL := by
  obtain ⟨ho, hs, cs, h3, h4⟩ := h
  rcases ho.2 with ⟨rfl, h0⟩ | ⟨g, cap, cur, rfl, hb, hg, hn, hm, hsz, ht⟩
  · have e : LL = [] := List.length_eq_zero_iff.1 h0
    subst e
    exact ⟨none, 0, rfl, Grid.none_ _ _⟩
  · refine ⟨some ⟨g, 0, none⟩, cap, rfl, hn, hm, fun e => (by cases e), fun _ => ⟨g, 0, rfl, (Array.getElem?_eq_some_iff.1 hg).1, hb, fun i hi => ?_⟩⟩
    obtain ⟨a1, a2, a3, a4⟩ := h3 i hi
    refine ⟨_, _, ?_, a2.ints, fun a ha => by cases ha; exact a3⟩
    rw [Nat.zero_add, cell_of_row w g i _ _ (0, 0) hg]
    rw [← ht, List.getElem?_take, if_pos (by omega)] at a1
    simpa using a1
end

/-- 'append(rows, row)' at a step of a region that draws. -/
theorem step_append_row {W wr : World} {ops : Array Oper} {o : Oper} {a : Act} {K : Act → World → Prop} {Q : Exit → Act → World → Prop} {E : Prop} (hgd : o.guard = none) (s x : Operand)
    (ho : o.op = .call { callee := .builtin .append, args := #[s, x], argTypes := #[24, 24] })
    (base : Nat) (v : Value) (LL : List (List Int)) (xs : List Value) (hs : a.eval s = v) (hM : MGx wr base v LL xs) (hA : Below wr.heap.size wr W) (p c : Nat) (R : List Int) (hR : RowC W p c R) (hp : wr.heap.size ≤ p)
    (q : Nat) (hx : a.eval x = .slice (some ⟨q, 0, none⟩) 1 1) (hc : W.cell? ⟨q, 0, none⟩ = some (.slice (some ⟨p, 0, none⟩) R.length c)) (hl : LL.length ≤ 1000) (hb : base ≤ wr.heap.size)
    (h : ∀ g cap w1, MG w1 base (.slice (some ⟨g, 0, none⟩) (LL.length + 1) cap) (LL ++ [R]) → Below base W w1 → K (a.put o.dst (.slice (some ⟨g, 0, none⟩) (LL.length + 1) cap)) w1) :
    if Region.wanted o (yielded ops a.tmps) = true then Oper.wp Try.prog o a W K Q else E := by
  obtain ⟨i0, hi0, hz0, hz1, hz2⟩ := info_parts ints_info
  have hown := (hM.below hA).1
  refine step_append_lies W hgd s x 24 ho base 22 i0 (.slice none 0 0) 1 24 Try.underlying24 hi0 hz0 hz1 hz2 (by rfl) (by omega) v LL.length xs hs hown ⟨q, 0, none⟩ 1 1 [.slice (some ⟨p, 0, none⟩) R.length c] hx (by rfl) ?_ ?_ (by omega) (by unfold maxLen; omega) (by omega) (Nat.le_trans hb hA.size) W.heap.size rfl ?_
  · intro j u hj
    cases j with
    | zero =>
      simp only [List.getElem?_cons_zero, Option.some.injEq] at hj
      subst hj
      rw [add_none]; exact hc
    | succ j => simp at hj
  · intro u hu
    simp only [List.mem_singleton] at hu
    subst hu; rfl
  · intro g cap w1 hown1 hgr hat _
    refine h g cap w1 ⟨_, hM.snoc hA hR hp hb hown1 hgr hat⟩ ⟨hgr.os, hgr.tape, hgr.output, hgr.size, fun k hk => hgr.block k (by have := hA.size; omega) (fun e => ?_)⟩
    have := (hown.lt k e.symm).1
    omega

/-! ### emptySketch -/
/-- A variable of the sketch's type in block q: its width is W, its rows are v. -/
def VS (w : World) (q : Nat) (W : Int) (v : Value) : Prop := w.cell? ⟨q, 0, none⟩ = some (.int .i64 W) ∧ w.cell? ⟨q, 1, none⟩ = some v ∧ w.frozen? ⟨q, 1, none⟩ = false ∧ q < w.heap.size
def zeros (h m : Nat) : List (List Int) := List.replicate h (List.replicate m 0)
theorem zeros_succ (h m : Nat) : zeros (h + 1) m = zeros h m ++ [List.replicate m 0] := by unfold zeros; rw [List.replicate_succ']
theorem zeros_len (h m : Nat) : (zeros h m).length = h := by simp [zeros]

end Go.Proofs.Ytmldjfbnljdamaa.Skt
