/-
  append(own, ints...) in a region that draws; rows of ints of the call's own beside segmented caches.
-/
import Derived.Test.YtpjgfehhhgcjnaaIntsLib2
import Derived.Test.YtpjgfehhhgcjnaaSegBegun
import Derived.Deep.RegionLaw
namespace Go.Proofs.Ytpjgfehhhgcjnaa.Seg
open Go.RowKit Go.Maps
set_option linter.unusedVariables false
set_option maxRecDepth 100000

/-- 'append(v, xs...)' in a region that draws. -/
theorem step_append_ints {W : World} {ops : Array Oper} {o : Oper} {a : Act} {K : Act → World → Prop} {Q : Exit → Act → World → Prop} {E : Prop} (hgd : o.guard = none) (s x : Operand)
    (ho : o.op = .call { callee := .builtin .append, args := #[s, x], argTypes := #[22, 22] })
    (base : Nat) (v : Value) (L : List Int) (hs : a.eval s = v) (hown : OwnI W base v L) (B : Option Addr) (d m : Nat) (M : List Int) (hm : m = M.length) (hx : a.eval x = .slice B m d) (hM : Ints W B d M)
    (hn : L.length + m ≤ 17592186044416) (hbase : base ≤ W.heap.size)
    (h : ∀ v' w', OwnI w' base v' (L ++ M) → W.grownBy w' v.ownBlock → K (a.put o.dst v') w') :
    if Region.wanted o (yielded ops a.tmps) = true then Oper.wp Try.prog o a W K Q else E := by
  subst hm
  rw [if_pos (by simp [Region.wanted, hgd])]
  obtain ⟨i0, hi0, hz0, hz1, hz2⟩ := info_parts int_info
  cases B with
  | none =>
    have hd := hM.2.2.1 rfl
    subst hd
    have e : M = [] := List.length_eq_zero_iff.1 (by have := hM.1; omega)
    subst e
    have hrun := run_append_owned_none (P := Try.prog) (w := W) base 22 o.type 3 i0 1 Try.underlying22 hi0 v L.length (L.map encI) hown
    unfold Oper.wp
    simp only [List.length_nil] at hx
    simp [execOp, ho, resolve, invoke, builtin, hs, hx, hrun, Result.andThen]
    exact h v W (by simpa using hown) ⟨rfl, rfl, rfl, Nat.le_refl _, fun _ _ _ => rfl⟩
  | some ad =>
    refine wp_append_own W s x _ ho base 3 i0 (.int .i64 0) 1 8 Try.underlying22 hi0 hz0 hz1 hz2 rfl (by decide) v L.length (L.map encI) hs hown ad M.length d (M.map encI) hx (by simp) ?_ ?_ (by unfold maxLen; omega) (by omega) hbase ?_
    · intro j u hj
      rw [List.getElem?_map] at hj
      by_cases hlt : j < M.length
      · obtain ⟨b, o, e, ht⟩ := hM.2.2.2 (by omega)
        cases e
        rw [List.getElem?_eq_getElem hlt] at hj
        simp only [Option.map_some, Option.some.injEq] at hj
        rw [add_none, ht.2 j hlt, gi_get hlt, ← hj]
      · rw [List.getElem?_eq_none (by omega)] at hj; cases hj
    · intro u hu
      obtain ⟨n, _, rfl⟩ := List.mem_map.1 hu
      rfl
    · intro v' w' h1 h2 _
      exact h v' w' (by unfold OwnI; rw [List.length_append, List.map_append]; exact h1) h2

theorem own_made (w : World) (base : Nat) (h : base ≤ w.heap.size) : OwnI (w.alloc (.cells #[] 3)) base (.slice (some ⟨w.heap.size, 0, none⟩) 0 0) [] :=
  World.ownsRow_made w _ _ h (Nat.zero_le _) rfl
theorem at_world {P : Program} {ops : Array Oper} {o : Oper} {a : Act} {K : Act → World → Prop} {Q : Exit → Act → World → Prop} {E : Prop} (W : World) (h : if Region.wanted o (yielded ops a.tmps) = true then Oper.wp P o a W K Q else E) : if Region.wanted o (yielded ops a.tmps) = true then Oper.wp P o a W K Q else E := h

/-- 'append(v, xs...)': v of the call's own, xs any slice of ints. -/
theorem wpList_append_intsL {w : World} {ops : Array Oper} {rest : List Oper} {o : Oper} {a : Act} {Q : Exit → Act → World → Prop} (hgd : o.guard = none) (s x : Operand)
    (ho : o.op = .call { callee := .builtin .append, args := #[s, x], argTypes := #[22, 22] })
    (base : Nat) (v : Value) (L : List Int) (hs : a.eval s = v) (hown : OwnI w base v L) (B : Option Addr) (d : Nat) (M : List Int) (hx : a.eval x = .slice B M.length d) (hM : Ints w B d M)
    (hn : L.length + M.length ≤ 17592186044416) (hbase : base ≤ w.heap.size)
    (h : ∀ v' w', OwnI w' base v' (L ++ M) → w.grownBy w' v.ownBlock → wpList Try.prog ops Q rest (a.put o.dst v') w') : wpList Try.prog ops Q (o :: rest) a w := by
  obtain ⟨i0, hi0, hz0, hz1, hz2⟩ := info_parts int_info
  cases B with
  | none =>
    have hd := hM.2.2.1 rfl
    subst hd
    have e : M = [] := List.length_eq_zero_iff.1 (by have := hM.1; omega)
    subst e
    refine wpList_append_own_none hgd s x _ ho base 3 i0 1 Try.underlying22 hi0 v L.length (L.map encI) hs hown hx (h v w (by simpa using hown) ⟨rfl, rfl, rfl, Nat.le_refl _, fun _ _ _ => rfl⟩)
  | some ad =>
    refine wpList_append_own w hgd s x _ ho base 3 i0 (.int .i64 0) 1 8 Try.underlying22 hi0 hz0 hz1 hz2 rfl (by decide) v L.length (L.map encI) hs hown ad M.length d (M.map encI) hx (by simp) ?_ ?_ (by unfold maxLen; omega) (by omega) hbase ?_
    · intro j u hj
      rw [List.getElem?_map] at hj
      by_cases hlt : j < M.length
      · obtain ⟨b, o, e, ht⟩ := hM.2.2.2 (by omega)
        cases e
        rw [List.getElem?_eq_getElem hlt] at hj
        simp only [Option.map_some, Option.some.injEq] at hj
        rw [add_none, ht.2 j hlt, gi_get hlt, ← hj]
      · rw [List.getElem?_eq_none (by omega)] at hj; cases hj
    · intro u hu
      obtain ⟨n, _, rfl⟩ := List.mem_map.1 hu
      rfl
    · intro v' w' h1 h2 _
      exact h v' w' (by unfold OwnI; rw [List.length_append, List.map_append]; exact h1) h2
theorem ints_one1 (w : World) (n : Int) (t : TypeId) : Ints (w.alloc (.cells #[.int .i64 n] t)) (some ⟨w.heap.size, 0, none⟩) 1 [n] := by
  refine ⟨Nat.le_refl _, by unfold maxLen; decide, fun e => (by cases e), fun _ => ⟨w.heap.size, 0, rfl, by simp, fun i hi => ?_⟩⟩
  obtain rfl : i = 0 := by simp at hi; omega
  simp [go_sem, gi]
theorem wpList_append_oneL {w : World} {ops : Array Oper} {rest : List Oper} {o : Oper} {a : Act} {Q : Exit → Act → World → Prop} (hgd : o.guard = none) (s x : Operand)
    (ho : o.op = .call { callee := .builtin .append, args := #[s, x], argTypes := #[22, 22] })
    (base : Nat) (v : Value) (L : List Int) (hs : a.eval s = v) (hown : OwnI w base v L) (n : Int) (t : TypeId)
    (hx : a.eval x = .slice (some ⟨w.heap.size, 0, none⟩) 1 1)
    (hn : L.length ≤ 17592186043904) (hbase : base ≤ w.heap.size)
    (h : ∀ v' w', OwnI w' base v' (L ++ [n]) → (w.alloc (.cells #[.int .i64 n] t)).grownBy w' v.ownBlock → wpList Try.prog ops Q rest (a.put o.dst v') w') : wpList Try.prog ops Q (o :: rest) a (w.alloc (.cells #[.int .i64 n] t)) :=
  wpList_append_intsL hgd s x ho base v L hs (hown.alloc _) (some ⟨w.heap.size, 0, none⟩) 1 [n] hx (ints_one1 w n t) (by simp; omega) (by simp; omega) h

end Go.Proofs.Ytpjgfehhhgcjnaa.Seg
