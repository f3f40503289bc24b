/-
  Slots of the call's own: 48 rows of timers that grow one timer at a time; build of package wheel.
-/
import Derived.Test.YteldnohdijcbpaaWheelDelete
import Derived.Laws.ResultCell
import Derived.Laws.AppendOwnNone
namespace Go.Proofs.Yteldnohdijcbpaa.Whl
open Go.RowKit
set_option linter.unusedVariables false

theorem tms_info : (Try.prog.info? 32).map (fun i => (i.zero, i.size, i.bytes)) = some (some (.slice none 0 0), 1, 24) := by kernel_rfl
/-- 48 nil slices. -/
def nils : Array Value := (List.replicate 48 (Value.slice none 0 0)).toArray
theorem run_make_slots (w : World) :
    (Instr.makeSlice 22 (.int .i64 48) (.int .i64 48)).run Try.prog w = .ok (.slice (some ⟨w.heap.size, 0, none⟩) 48 48) (w.alloc (.cells nils 32)) := by
  obtain ⟨i0, hi0, hz0, hz1, hz2⟩ := info_parts tms_info
  have hr := run_make (P := Try.prog) w 22 32 i0 _ Try.underlying22 hi0 hz0 .i64 .i64 48 48 (by omega) (by omega) (by rw [hz2]; omega) (by omega)
  rw [show Int.toNat 48 = 48 from rfl, hz1, Nat.mul_one] at hr
  rw [hr]
  congr 3
  apply Array.ext'
  exact toList_madeCells_one _ _

/-- Block q holds the slots' slices; the rows lie from block base on, no two in one block. -/
def Rows (w : World) (base q : Nat) (vs : Nat → Value) (LL : List (List Tm)) : Prop :=
  w.heap[q]? = some (.cells ((List.range LL.length).map vs).toArray 32 (0, 0)) ∧ q < base ∧ LL.length ≤ 1000 ∧
  (∀ i, i < LL.length → OwnT w base (vs i) (gr LL i)) ∧ ∀ i j, i < LL.length → j < LL.length → i ≠ j → ∀ b, (vs i).ownBlock = some b → (vs j).ownBlock ≠ some b
section
variable {w w' : World} {base q : Nat} {vs : Nat → Value} {LL : List (List Tm)}
theorem Rows.lt (h : Rows w base q vs LL) : q < w.heap.size := (Array.getElem?_eq_some_iff.1 h.1).1
theorem Rows.below (h : Rows w base q vs LL) (hb : Below w.heap.size w w') : Rows w' base q vs LL := by
  have hq := h.lt
  obtain ⟨h1, h2, h0, h3, h4⟩ := h
  refine ⟨(hb.block _ hq).trans h1, h2, h0, fun i hi => ?_, h4⟩
  have hg : w.grownBy w' none := ⟨hb.os, hb.tape, hb.output, hb.size, fun k hk _ => hb.block k hk⟩
  exact (h3 i hi).kept hg (by cases hv : (vs i).ownBlock <;> simp)
theorem Rows.cell (h : Rows w base q vs LL) {i : Nat} (hi : i < LL.length) : w.cell? ⟨q, i, none⟩ = some (vs i) := by
  rw [cell_of_row w q i _ _ (0, 0) h.1]
  simp [hi]
theorem Rows.frozen (h : Rows w base q vs LL) (i : Nat) : w.frozen? ⟨q, i, none⟩ = false := by simp [World.frozen?, h.1]
theorem gr_set {LL : List (List Tm)} {s : Nat} (hs : s < LL.length) (M : List Tm) (i : Nat) : gr (LL.set s M) i = if i = s then M else gr LL i := by
  unfold gr
  rw [List.getD_eq_getElem?_getD, List.getD_eq_getElem?_getD, List.getElem?_set]
  by_cases e : i = s
  · subst e; simp [hs]
  · rw [if_neg (fun h => e h.symm), if_neg e]
/-- One row has got a timer, and its slice is stored. -/
theorem Rows.grow {wA w1 : World} {s g cap : Nat} {t : Tm} (h : Rows w base q vs LL) (hs : s < LL.length) (hA : Below w.heap.size w wA) (hb : base ≤ w.heap.size)
    (hown : OwnT w1 base (.slice (some ⟨g, 0, none⟩) (gr LL s ++ [t]).length cap) (gr LL s ++ [t])) (hgr : wA.grownBy w1 (vs s).ownBlock) (hat : (vs s).ownBlock = some g ∨ g = wA.heap.size) :
    Rows (w1.setCell ⟨q, s, none⟩ (.slice (some ⟨g, 0, none⟩) (gr LL s ++ [t]).length cap)) base q (fun i => if i = s then .slice (some ⟨g, 0, none⟩) (gr LL s ++ [t]).length cap else vs i) (LL.set s (gr LL s ++ [t])) := by
  have hq := h.lt
  have hA2 := h.below hA
  obtain ⟨h1, h2, h0, h3, h4⟩ := hA2
  have hq1 : (vs s).ownBlock ≠ some q := fun e => by have := ((h3 s hs).lt q e).1; omega
  have hk1 : w1.heap[q]? = some (.cells ((List.range LL.length).map vs).toArray 32 (0, 0)) := (hgr.block q (Nat.lt_of_lt_of_le hq hA.size) (fun e => hq1 e.symm)).trans h1
  have hgq : g ≠ q := by
    rcases hat with e | e
    · have := ((h3 s hs).lt g e).1; omega
    · have := hA.size; omega
  have hset : w1.grownBy (w1.setCell ⟨q, s, none⟩ (.slice (some ⟨g, 0, none⟩) (gr LL s ++ [t]).length cap)) (some q) := ⟨rfl, rfl, rfl, by simp [World.setCell], fun k hk hr => Below.heap_setCell _ _ _ _ (fun e => hr (by rw [e]))⟩
  refine ⟨?_, h2, by simpa using h0, fun i hi => ?_, fun i j hi hj hij b hbi => ?_⟩
  · rw [heap_setCell_same w1 q s _ _ _ hk1]
    generalize Value.slice (some ⟨g, 0, none⟩) (gr LL s ++ [t]).length cap = u
    rw [List.setIfInBounds_toArray, List.length_set]
    congr 3
    apply List.ext_getElem?
    intro k
    rw [List.getElem?_set, List.getElem?_map, List.getElem?_map]
    by_cases hk : k < LL.length
    · rw [List.getElem?_range hk]
      by_cases e : s = k
      · subst e; simp [hk]
      · rw [if_neg e]
        simp only [Option.map_some, if_neg (fun h : k = s => e h.symm)]
    · have e : s ≠ k := by omega
      rw [if_neg e, List.getElem?_eq_none (by simp; omega)]
      rfl
  · rw [gr_set hs]
    rw [List.length_set] at hi
    dsimp only
    by_cases e : i = s
    · rw [if_pos e, if_pos e]
      exact hown.kept hset (.inr (fun e2 => hgq (Option.some.inj e2)))
    · rw [if_neg e, if_neg e]
      have hne : (vs i).ownBlock = none ∨ (vs i).ownBlock ≠ (vs s).ownBlock := by
        cases hv : (vs i).ownBlock with
        | none => exact .inl rfl
        | some b => exact .inr (fun e2 => h4 i s hi hs e b hv e2.symm)
      refine ((h3 i hi).kept hgr hne).kept hset (.inr (fun e2 => ?_))
      have := ((h3 i hi).lt q e2).1
      omega
  · rw [List.length_set] at hi hj
    dsimp only at hbi ⊢
    have hlt : ∀ i, i < LL.length → ∀ b, (vs i).ownBlock = some b → b < wA.heap.size := fun i hi b hb => ((h3 i hi).lt b hb).2
    by_cases ei : i = s
    · rw [if_pos ei] at hbi
      have hbg : g = b := Option.some.inj hbi
      rw [if_neg (fun e => hij (by rw [ei, e]))]
      intro e2
      rcases hat with e | e
      · exact h4 s j hs hj (fun e3 => hij (by rw [ei, e3])) b (by rw [e, hbg]) e2
      · have := hlt j hj b e2; omega
    · rw [if_neg ei] at hbi
      by_cases ej : j = s
      · rw [if_pos ej]
        intro e2
        have hbg : g = b := Option.some.inj e2
        rcases hat with e | e
        · exact h4 i s hi hs ei b hbi (by rw [e, hbg])
        · have := hlt i hi b hbi; omega
      · rw [if_neg ej]
        exact h4 i j hi hj hij b hbi
/-- The slots read as LL. -/
theorem Rows.grid (h : Rows w base q vs LL) {c : Nat} (hc : LL.length ≤ c) (hc2 : c ≤ 1000) : Grid q w (some ⟨q, 0, none⟩) c LL := by
  have hq := h.lt
  refine ⟨hc, by unfold maxLen; omega, fun e => (by cases e), fun h0 => ⟨q, 0, rfl, hq, Nat.le_refl _, fun i hi => ?_⟩⟩
  obtain ⟨A, c, e, g1, g2⟩ := tms_of_own (h.2.2.2.1 i hi)
  refine ⟨A, c, ?_, g1, fun a ha => Nat.le_trans (Nat.le_of_lt h.2.1) (g2 a ha)⟩
  rw [Nat.zero_add, h.cell hi, e]
end

/-- 'slots[at] = append(slots[at], t)': the append. -/
theorem step_append_tm {W wr : World} {ops : Array Oper} {o : Oper} {a : Act} {K : Act → World → Prop} {Q : Exit → Act → World → Prop} {E : Prop} (hgd : o.guard = none) (s x : Operand)
    (ho : o.op = .call { callee := .builtin .append, args := #[s, x], argTypes := #[32, 32] })
    (base q : Nat) (vs : Nat → Value) (LL : List (List Tm)) (i : Nat) (hi : i < LL.length) (hs : a.eval s = vs i) (hR : Rows wr base q vs LL) (hA : Below wr.heap.size wr W) (t : Tm)
    (p : Nat) (hx : a.eval x = .slice (some ⟨p, 0, none⟩) 1 1) (hc0 : W.cell? ⟨p, 0, none⟩ = some (.int .i64 t.id)) (hc1 : W.cell? ⟨p, 1, none⟩ = some (.int .i64 t.tm)) (hl : (gr LL i).length ≤ 1000) (hb : base ≤ wr.heap.size)
    (n1 : Nat) (hn1 : n1 = (gr LL i ++ [t]).length)
    (h : ∀ g cap w1, (∀ u, u = Value.slice (some ⟨g, 0, none⟩) n1 cap → Rows (w1.setCell ⟨q, i, none⟩ u) base q (fun j => if j = i then u else vs j) (LL.set i (gr LL i ++ [t]))) → Below base W w1 → K (a.put o.dst (.slice (some ⟨g, 0, none⟩) n1 cap)) w1) :
    if Region.wanted o (yielded ops a.tmps) = true then Oper.wp Try.prog o a W K Q else E := by
  obtain ⟨i0, hi0, hz0, hz1, hz2⟩ := info_parts timer_info
  have hown := (hR.below hA).2.2.2.1 i hi
  refine step_append_lies W hgd s x 32 ho base 26 i0 _ 2 16 Try.underlying32 hi0 hz0 hz1 hz2 rfl (by omega) (vs i) (gr LL i).length (encTs (gr LL i)) hs hown ⟨p, 0, none⟩ 1 1 (encT t) hx (by rfl) ?_ ?_ (by omega) (by unfold maxLen; omega) (by omega) (Nat.le_trans hb hA.size) W.heap.size rfl ?_
  · intro j u hj
    rw [Addr.add_lit, Nat.zero_add]
    cases j with
    | zero => simp [encT] at hj; rw [← hj]; exact hc0
    | succ j =>
      cases j with
      | zero => simp [encT] at hj; rw [← hj]; exact hc1
      | succ j => simp [encT] at hj
  · intro u hu
    simp only [encT, List.mem_cons, List.not_mem_nil, or_false] at hu
    rcases hu with rfl | rfl <;> rfl
  · intro g cap w1 hown1 hgr hat _
    have e : encTs (gr LL i) ++ encT t = encTs (gr LL i ++ [t]) := by rw [encTs_app]; simp [encTs]
    rw [e, show (gr LL i).length + 1 = (gr LL i ++ [t]).length by simp, ] at hown1
    rw [show (gr LL i).length + 1 = n1 by rw [hn1]; simp]
    refine h g cap w1 (fun u hu => ?_) ⟨hgr.os, hgr.tape, hgr.output, hgr.size, fun k hk => hgr.block k (by have := hA.size; omega) (fun e => ?_)⟩
    · subst hu
      rw [hn1]
      exact hR.grow hi hA hb hown1 hgr hat
    · have := (hown.lt k e.symm).1
      omega

end Go.Proofs.Yteldnohdijcbpaa.Whl
