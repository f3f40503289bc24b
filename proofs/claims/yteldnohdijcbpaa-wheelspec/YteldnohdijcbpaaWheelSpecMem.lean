/-
  Wheels in variables that are written; rows that grow side by side.
-/
import Derived.Test.YteldnohdijcbpaaWheelRef6
import Derived.Test.YteldnohdijcbpaaWheelBegun
namespace Go.Proofs.Yteldnohdijcbpaa.Whl
open Go.RowKit Go.Maps
set_option linter.unusedVariables false

/-- A variable (block p) holds a wheel whose rows lie from block B on; it may be written. -/
def VG (w : World) (B p : Nat) (W : Whl) : Prop :=
  ∃ A c, p < w.heap.size ∧ w.cell? ⟨p, 0, none⟩ = some (.int .i64 W.now) ∧ w.cell? ⟨p, 1, none⟩ = some (.slice A W.slots.length c) ∧ w.frozen? ⟨p, 0, none⟩ = false ∧ w.frozen? ⟨p, 1, none⟩ = false ∧ Grid B w A c W.slots
section
variable {w w' : World} {B p : Nat} {W V : Whl}
theorem VG.below (h : VG w B p W) (hb : Below w.heap.size w w') : VG w' B p W := by
  obtain ⟨A, c, h1, h2, h3, h4, h5, h6⟩ := h
  exact ⟨A, c, Nat.lt_of_lt_of_le h1 hb.size, (hb.cell h1).trans h2, (hb.cell h1).trans h3, (hb.frozen h1).trans h4, (hb.frozen h1).trans h5, h6.below hb⟩
theorem VG.other (h : VG w B p W) {q : Nat} (hq : q ≠ p) (hB : q < B) (j : Nat) (u : Value) : VG (w.setCell ⟨q, j, none⟩ u) B p W := by
  obtain ⟨A, c, h1, h2, h3, h4, h5, h6⟩ := h
  have hk : ∀ k, (w.setCell ⟨q, j, none⟩ u).cell? ⟨p, k, none⟩ = w.cell? ⟨p, k, none⟩ := fun k => World.cell?_of_block (w := w) (a := ⟨p, k, none⟩) (Below.heap_setCell w ⟨q, j, none⟩ u p (fun e => hq e.symm))
  exact ⟨A, c, by simpa [World.setCell] using h1, (hk 0).trans h2, (hk 1).trans h3, by simpa [go_sem] using h4, by simpa [go_sem] using h5, h6.setCell (p := ⟨q, j, none⟩) hB u⟩
theorem VG.put (h : VG w B p W) {A : Option Addr} {c : Nat} (hg : Grid B w A c V.slots) (hp : p < B) :
    VG ((w.setCell ⟨p, 0, none⟩ (.int .i64 V.now)).setCell ⟨p, 1, none⟩ (.slice A V.slots.length c)) B p V := by
  obtain ⟨A', c', h1, h2, h3, h4, h5, h6⟩ := h
  exact ⟨A, c, by simpa [World.setCell] using h1, by simp [go_sem, h2], by simp [go_sem, h3], by simpa [go_sem] using h4, by simpa [go_sem] using h5, (hg.setCell (p := ⟨p, 0, none⟩) hp _).setCell (p := ⟨p, 1, none⟩) hp _⟩
theorem VG.other2 (h : VG w B p W) {q : Nat} (hq : q ≠ p) (hB : q < B) (u v : Value) : VG ((w.setCell ⟨q, 0, none⟩ u).setCell ⟨q, 1, none⟩ v) B p W := (h.other hq hB 0 u).other hq hB 1 v
theorem VG.new (w : World) (B : Nat) : VG (w.alloc zo) B w.heap.size Whl.no :=
  ⟨none, 0, by simp, by simp [go_sem, Whl.no], by simp [go_sem, Whl.no], by simp [go_sem], by simp [go_sem], Grid.none_ _ _⟩
end
/-- Four new variables. -/
theorem vg_four (w : World) (q : Nat) (hq : q = w.heap.size) :
    VG ((((w.alloc zo).alloc zo).alloc zo).alloc zo) (q + 4) q Whl.no ∧ VG ((((w.alloc zo).alloc zo).alloc zo).alloc zo) (q + 4) (q + 1) Whl.no ∧ VG ((((w.alloc zo).alloc zo).alloc zo).alloc zo) (q + 4) (q + 1 + 1) Whl.no ∧ VG ((((w.alloc zo).alloc zo).alloc zo).alloc zo) (q + 4) (q + 1 + 1 + 1) Whl.no ∧ Below q w ((((w.alloc zo).alloc zo).alloc zo).alloc zo) := by
  subst hq
  have z1 : (w.alloc zo).heap.size = w.heap.size + 1 := by simp
  have z2 : ((w.alloc zo).alloc zo).heap.size = w.heap.size + 1 + 1 := by simp
  have z3 : (((w.alloc zo).alloc zo).alloc zo).heap.size = w.heap.size + 1 + 1 + 1 := by simp
  have b1 : ∀ w : World, Below w.heap.size w (w.alloc zo) := fun w => (Below.refl _ _).alloc (Nat.le_refl _) _
  have v1 := VG.new w (w.heap.size + 4)
  have v2 := VG.new (w.alloc zo) (w.heap.size + 4)
  have v3 := VG.new ((w.alloc zo).alloc zo) (w.heap.size + 4)
  have v4 := VG.new (((w.alloc zo).alloc zo).alloc zo) (w.heap.size + 4)
  rw [z1] at v2
  rw [z2] at v3
  rw [z3] at v4
  exact ⟨((v1.below (b1 _)).below (b1 _)).below (b1 _), (v2.below (b1 _)).below (b1 _), v3.below (b1 _), v4, (((b1 w).alloc (by simp) _).alloc (by simp; omega) _).alloc (by simp; omega) _⟩

/-- 'append(v, t)': the row lies where it lay, or at a new block. -/
theorem wpList_append_lies1 {w : World} {ops : Array Oper} {rest : List Oper} {o : Oper} {a : Act} {Q : Exit → Act → World → Prop} (hgd : o.guard = none) (s x : Operand)
    (ho : o.op = .call { callee := .builtin .append, args := #[s, x], argTypes := #[32, 32] })
    (base : Nat) (v : Value) (L : List Tm) (hs : a.eval s = v) (hown : OwnT w base v L) (p : Nat) (t : Tm) (hx : a.eval x = .slice (some ⟨p, 0, none⟩) 1 1) (hc0 : w.cell? ⟨p, 0, none⟩ = some (.int .i64 t.id)) (hc1 : w.cell? ⟨p, 1, none⟩ = some (.int .i64 t.tm))
    (hn : L.length ≤ 1000) (hbase : base ≤ w.heap.size)
    (h : ∀ g cap w', OwnT w' base (.slice (some ⟨g, 0, none⟩) (L.length + 1) cap) (L ++ [t]) → w.grownBy w' v.ownBlock → (v.ownBlock = some g ∨ g = w.heap.size) → wpList Try.prog ops Q rest (a.put o.dst (.slice (some ⟨g, 0, none⟩) (L.length + 1) cap)) w') : wpList Try.prog ops Q (o :: rest) a w := by
  obtain ⟨i0, hi0, hz0, hz1, hz2⟩ := info_parts timer_info
  refine wpList_step fun K hK => ?_
  refine step_append_lies w hgd s x 32 ho base 26 i0 _ 2 16 Try.underlying32 hi0 hz0 hz1 hz2 rfl (by omega) v L.length (encTs L) hs hown ⟨p, 0, none⟩ 1 1 (encT t) hx (by rfl) ?_ ?_ (by omega) (by unfold maxLen; omega) (by omega) hbase w.heap.size rfl ?_
  · intro j u hj
    rw [Addr.add_lit, Nat.zero_add]
    cases j with
    | zero => simp [encT] at hj; rw [← hj]; exact hc0
    | succ j =>
      cases j with
      | zero => simp [encT] at hj; rw [← hj]; exact hc1
      | succ j => simp [encT] at hj
  · intro u hu
    simp only [encT, List.mem_cons, List.not_mem_nil, or_false] at hu
    rcases hu with rfl | rfl <;> rfl
  · intro g cap w1 hown1 hgr hat _
    have e : encTs L ++ encT t = encTs (L ++ [t]) := by rw [encTs_app]; simp [encTs]
    rw [e] at hown1
    refine hK _ _ (h g cap w1 ?_ hgr hat)
    show World.ownsRow _ _ _ _ _ (L ++ [t]).length _
    rw [show (L ++ [t]).length = L.length + 1 by simp]
    exact hown1

/-! ### what the loop of the law gathers -/
theorem del_snoc_y {L : List Tm} {t : Tm} {id : Int} (h : t.id ≠ id) : delT (L ++ [t]) id = delT L id ++ [t] := by unfold delT; rw [List.filter_append]; simp [h]
theorem del_snoc_n {L : List Tm} {t : Tm} {id : Int} (h : t.id = id) : delT (L ++ [t]) id = delT L id := by unfold delT; rw [List.filter_append]; simp [h]
theorem gone_snoc_y {L : List Tm} {t : Tm} {a : Int} (h : t.tm ≤ a) : goneT (L ++ [t]) a = goneT L a ++ [t] := by unfold goneT; rw [List.filter_append]; simp [h]
theorem gone_snoc_n {L : List Tm} {t : Tm} {a : Int} (h : ¬ t.tm ≤ a) : goneT (L ++ [t]) a = goneT L a := by unfold goneT; rw [List.filter_append]; simp [h]
theorem del_len_le (L : List Tm) (id : Int) : (delT L id).length ≤ L.length := List.length_filter_le _ _
theorem del_len_eq {L : List Tm} {id : Int} : (delT L id).length = L.length ↔ ¬ hasId L id := by
  unfold delT
  rw [List.length_filter_eq_length_iff]
  unfold hasId
  constructor
  · rintro h ⟨u, hu, e⟩
    have := h u hu
    simp [e] at this
  · intro h u hu
    simp only [bne_iff_ne]
    exact fun e => h ⟨u, hu, e⟩

end Go.Proofs.Yteldnohdijcbpaa.Whl
