/-
  The reference of package wheel: TimersSorted.
-/
import Derived.Test.YteldnohdijcbpaaWheelRef3
import Derived.Deep.RegionLaw
namespace Go.Proofs.Yteldnohdijcbpaa.Whl
open Go.RowKit Go.Maps
set_option linter.unusedVariables false

/-- 'append(v, xs...)' in a region that draws. -/
theorem step_append_tms {W : World} {ops : Array Oper} {o : Oper} {a : Act} {K : Act → World → Prop} {Q : Exit → Act → World → Prop} {E : Prop} (hgd : o.guard = none) (s x : Operand)
    (ho : o.op = .call { callee := .builtin .append, args := #[s, x], argTypes := #[32, 32] })
    (base : Nat) (v : Value) (L : List Tm) (hs : a.eval s = v) (hown : OwnT W base v L) (B : Option Addr) (d m : Nat) (M : List Tm) (hm : m = M.length) (hx : a.eval x = .slice B m d) (hM : Tms W B d M)
    (hn : L.length + m ≤ 16777216) (hbase : base ≤ W.heap.size)
    (h : ∀ v' w', OwnT w' base v' (L ++ M) → W.grownBy w' v.ownBlock → K (a.put o.dst v') w') :
    if Region.wanted o (yielded ops a.tmps) = true then Oper.wp Try.prog o a W K Q else E := by
  subst hm
  rw [if_pos (by simp [Region.wanted, hgd])]
  obtain ⟨i0, hi0, hz0, hz1, hz2⟩ := info_parts timer_info
  cases B with
  | none =>
    have hd := hM.2.2.1 rfl
    subst hd
    have e : M = [] := List.length_eq_zero_iff.1 (by have := hM.1; omega)
    subst e
    have hrun := run_append_owned_none (P := Try.prog) (w := W) base 32 o.type 26 i0 2 Try.underlying32 hi0 v L.length (encTs L) hown
    unfold Oper.wp
    simp only [List.length_nil] at hx
    simp [execOp, ho, resolve, invoke, builtin, hs, hx, hrun, Result.andThen]
    exact h v W (by simpa using hown) ⟨rfl, rfl, rfl, Nat.le_refl _, fun _ _ _ => rfl⟩
  | some ad =>
    refine wp_append_own W s x _ ho base 26 i0 _ 2 16 Try.underlying32 hi0 hz0 hz1 hz2 rfl (by decide) v L.length (encTs L) hs hown ad M.length d (encTs M) hx (encTs_len M) ?_ (encTs_one M) (by unfold maxLen; omega) (by omega) hbase ?_
    · intro j u hj
      have hl : j < M.length * 2 := by rw [← encTs_len]; exact (List.getElem?_eq_some_iff.1 hj).1
      obtain ⟨b, o, e, ht⟩ := hM.2.2.2 (by omega)
      cases e
      rw [Addr.add_lit]
      exact tms_cells ht j u hj
    · intro v' w' h1 h2 _
      exact h v' w' (by unfold OwnT; rw [List.length_append, encTs_app]; exact h1) h2

/-- The least of what is left is the next one. -/
theorem least_is {S left : List Tm} {k b : Nat} (hS : Sorted S) (hP : left.Perm (S.drop k)) (hk : k < S.length) (hb : b < left.length) (hmin : ∀ j, j < left.length → ¬ ltT (gt left j) (gt left b)) : gt left b = gt S k := by
  rw [List.drop_eq_getElem_cons hk, ← gt_get hk] at hP
  have h1 : gt S k ∈ left := hP.mem_iff.2 (by simp)
  have h2 : gt left b ∈ gt S k :: S.drop (k + 1) := hP.mem_iff.1 (gt_mem hb)
  obtain ⟨j, hj, e⟩ := List.getElem_of_mem h1
  rcases List.mem_cons.1 h2 with e2 | m
  · exact e2
  · exfalso
    refine hmin j hj ?_
    rw [gt_get hj, e]
    have hs2 : (gt S k :: S.drop (k + 1)).Pairwise ltT := by
      rw [gt_get hk, ← List.drop_eq_getElem_cons hk]
      exact List.Pairwise.sublist (List.drop_sublist _ _) hS
    exact (List.pairwise_cons.1 hs2).1 _ m
theorem perm_next {S left : List Tm} {k b : Nat} (hP : left.Perm (S.drop k)) (hk : k < S.length) (hb : b < left.length) (he : gt left b = gt S k) : (left.take b ++ left.drop (b + 1)).Perm (S.drop (k + 1)) := by
  have h1 : left.Perm (gt left b :: (left.take b ++ left.drop (b + 1))) := by
    conv => lhs; rw [← List.take_append_drop b left, List.drop_eq_getElem_cons hb, ← gt_get hb]
    exact List.perm_middle
  rw [List.drop_eq_getElem_cons hk, ← gt_get hk] at hP
  have h2 := h1.symm.trans hP
  rw [he] at h2
  exact h2.cons_inv

theorem Tms.grown {w w' : World} {A : Option Addr} {c : Nat} {L : List Tm} {q : Option Nat} (h : Tms w A c L) (hg : w.grownBy w' q) (hq : ∀ a, A = some a → q ≠ some a.block) : Tms w' A c L :=
  ⟨h.1, h.2.1, h.2.2.1, fun hl => by
    obtain ⟨b, o, e, h1, h2⟩ := h.2.2.2 hl
    have hb : ∀ k, w'.cell? ⟨b, k, none⟩ = w.cell? ⟨b, k, none⟩ := fun k => World.cell?_of_block (w := w) (a := ⟨b, k, none⟩) (hg.block b h1 (fun e2 => hq _ e e2.symm))
    exact ⟨b, o, e, Nat.lt_of_lt_of_le h1 hg.size, fun i hi => ⟨(hb _).trans (h2 i hi).1, (hb _).trans (h2 i hi).2⟩⟩⟩
theorem own_below {w w' : World} {base : Nat} {v : Value} {L : List Tm} (h : OwnT w base v L) (hb : Below w.heap.size w w') : OwnT w' base v L :=
  h.kept (row := none) ⟨hb.os, hb.tape, hb.output, hb.size, fun k hk _ => hb.block k hk⟩ (by cases hv : v.ownBlock <;> simp)

/-- Two timers of one block. -/
abbrev S5 (bl : Nat) {o1 o2 : Nat} (s t : Tm) (w w' : World) : Prop :=
  w'.cell? ⟨bl, o1, none⟩ = some (.int .i64 s.id) ∧ w'.cell? ⟨bl, o1 + 1, none⟩ = some (.int .i64 s.tm) ∧ w'.cell? ⟨bl, o2, none⟩ = some (.int .i64 t.id) ∧ w'.cell? ⟨bl, o2 + 1, none⟩ = some (.int .i64 t.tm) ∧ Below w.heap.size w w'
theorem S5.next {bl o1 o2 : Nat} {s t : Tm} {w w' w'' : World} (h : S5 bl (o1 := o1) (o2 := o2) s t w w') (hbl : bl < w.heap.size) (hb : Below w'.heap.size w' w'') : S5 bl (o1 := o1) (o2 := o2) s t w w'' := by
  obtain ⟨e1, e2, e3, e4, e5⟩ := h
  have hs : bl < w'.heap.size := Nat.lt_of_lt_of_le hbl e5.size
  exact ⟨(hb.cell (p := ⟨bl, o1, none⟩) hs).trans e1, (hb.cell (p := ⟨bl, o1 + 1, none⟩) hs).trans e2, (hb.cell (p := ⟨bl, o2, none⟩) hs).trans e3, (hb.cell (p := ⟨bl, o2 + 1, none⟩) hs).trans e4, e5.trans (hb.mono e5.size)⟩
theorem S5.drew {bl o1 o2 : Nat} {s t : Tm} {w w' : World} (h : S5 bl (o1 := o1) (o2 := o2) s t w w') : S5 bl (o1 := o1) (o2 := o2) s t w w'.drew := ⟨h.1, h.2.1, h.2.2.1, h.2.2.2.1, h.2.2.2.2.drew⟩
theorem bel_al {B : Nat} {w w' : World} (h : Below B w w') (hB : B ≤ w'.heap.size) (o : Obj) : Below B w (w'.alloc o) := h.alloc hB o
theorem own_empty (w : World) : OwnT (w.alloc (.cells #[] 26)) w.heap.size (.slice (some ⟨w.heap.size, 0, none⟩) 0 0) [] :=
  World.ownsRow_made w _ _ (Nat.le_refl _) (Nat.zero_le _) rfl

/-- What stands at each round of TimersSorted. -/
def TS (S : List Tm) (n : Nat) (w : World) (k : Nat) (left : List Tm) (v vl : Value) (wr : World) : Prop :=
  left.Perm (S.drop k) ∧ OwnT wr n v (S.take k) ∧ (∃ A c, vl = .slice A left.length c ∧ Tms wr A c left ∧ (∀ a, A = some a → a.spot = none) ∧ ∀ a, A = some a → v.ownBlock ≠ some a.block) ∧ Below n w wr

end Go.Proofs.Yteldnohdijcbpaa.Whl
