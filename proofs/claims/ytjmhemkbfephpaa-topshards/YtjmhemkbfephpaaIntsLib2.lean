/-
  What slices.Grow and slices.Concat do to slices of ints.
-/
import Derived.Test.YtjmhemkbfephpaaIntsLib
namespace Go.Proofs.Ytjmhemkbfephpaa
open Go.RowKit Go.Shelf
set_option linter.unusedVariables false

theorem info_parts {P : Program} {t : TypeId} {z : Option Value} {s b : Nat} (h : (P.info? t).map (fun i => (i.zero, i.size, i.bytes)) = some (z, s, b)) :
    ∃ i, P.info? t = some i ∧ i.zero = z ∧ i.size = s ∧ i.bytes = b := by
  cases hi : P.info? t with
  | none => rw [hi] at h; cases h
  | some i => rw [hi] at h; simp only [Option.map_some, Option.some.injEq, Prod.mk.injEq] at h; exact ⟨i, rfl, h.1, h.2.1, h.2.2⟩
theorem int_info : (Try.prog.info? 3).map (fun i => (i.zero, i.size, i.bytes)) = some (some (.int .i64 0), 1, 8) := by kernel_rfl

/-- 'append(v, xs...)': v of the call's own, xs any slice of ints. -/
theorem wpList_append_ints {w : World} {ops : Array Oper} {rest : List Oper} {o : Oper} {a : Act} {Q : Exit → Act → World → Prop} (hgd : o.guard = none) (s x : Operand)
    (ho : o.op = .call { callee := .builtin .append, args := #[s, x], argTypes := #[23, 23] })
    (base : Nat) (v : Value) (L : List Int) (hs : a.eval s = v) (hown : OwnI w base v L) (B : Option Addr) (d : Nat) (M : List Int) (hx : a.eval x = .slice B M.length d) (hM : Ints w B d M)
    (hn : L.length + M.length ≤ 1099511627776) (hbase : base ≤ w.heap.size)
    (h : ∀ v' w', OwnI w' base v' (L ++ M) → w.grownBy w' v.ownBlock → wpList Try.prog ops Q rest (a.put o.dst v') w') : wpList Try.prog ops Q (o :: rest) a w := by
  obtain ⟨i0, hi0, hz0, hz1, hz2⟩ := info_parts int_info
  cases B with
  | none =>
    have hd := hM.2.2.1 rfl
    subst hd
    have e : M = [] := List.length_eq_zero_iff.1 (by have := hM.1; omega)
    subst e
    refine wpList_append_own_none hgd s x _ ho base 3 i0 1 Try.underlying23 hi0 v L.length (L.map encI) hs hown hx (h v w (by simpa using hown) ⟨rfl, rfl, rfl, Nat.le_refl _, fun _ _ _ => rfl⟩)
  | some ad =>
    refine wpList_append_own w hgd s x _ ho base 3 i0 (.int .i64 0) 1 8 Try.underlying23 hi0 hz0 hz1 hz2 rfl (by decide) v L.length (L.map encI) hs hown ad M.length d (M.map encI) hx (by simp) ?_ ?_ (by unfold maxLen; omega) (by omega) hbase ?_
    · intro j u hj
      rw [List.getElem?_map] at hj
      by_cases hlt : j < M.length
      · obtain ⟨b, o, e, ht⟩ := hM.2.2.2 (by omega)
        cases e
        rw [List.getElem?_eq_getElem hlt] at hj
        simp only [Option.map_some, Option.some.injEq] at hj
        rw [add_none, ht.2 j hlt, gi_get hlt, ← hj]
      · rw [List.getElem?_eq_none (by omega)] at hj; cases hj
    · intro u hu
      obtain ⟨n, _, rfl⟩ := List.mem_map.1 hu
      rfl
    · intro v' w' h1 h2 _
      exact h v' w' (by unfold OwnI; rw [List.length_append, List.map_append]; exact h1) h2

def cat2 (L M : List Int) (k : Nat) : List Int := if k = 0 then [] else if k = 1 then L else L ++ M

end Go.Proofs.Ytjmhemkbfephpaa
