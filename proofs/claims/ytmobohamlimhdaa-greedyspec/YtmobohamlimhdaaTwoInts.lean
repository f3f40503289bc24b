/-
  append of ints in regions that draw.
-/
import Derived.Test.YtmobohamlimhdaaTwoRows
import Derived.Deep.RegionLaw
namespace Go.Proofs.Ytmobohamlimhdaa.Two
open Go.RowKit
set_option linter.unusedVariables false
set_option maxRecDepth 100000

/-- 'append(v, xs...)' in a region that draws. -/
theorem step_append_ints {W : World} {ops : Array Oper} {o : Oper} {a : Act} {K : Act → World → Prop} {Q : Exit → Act → World → Prop} {E : Prop} (hgd : o.guard = none) (s x : Operand)
    (ho : o.op = .call { callee := .builtin .append, args := #[s, x], argTypes := #[27, 27] })
    (base : Nat) (v : Value) (L : List Int) (hs : a.eval s = v) (hown : OwnI W base v L) (B : Option Addr) (d m : Nat) (M : List Int) (hm : m = M.length) (hx : a.eval x = .slice B m d) (hM : Ints W B d M)
    (hn : L.length + m ≤ 17592186044416) (hbase : base ≤ W.heap.size)
    (h : ∀ v' w', OwnI w' base v' (L ++ M) → W.grownBy w' v.ownBlock → K (a.put o.dst v') w') :
    if Region.wanted o (yielded ops a.tmps) = true then Oper.wp Try.prog o a W K Q else E := by
  subst hm
  rw [if_pos (by simp [Region.wanted, hgd])]
  obtain ⟨i0, hi0, hz0, hz1, hz2⟩ := info_parts int_info
  cases B with
  | none =>
    have hd := hM.2.2.1 rfl
    subst hd
    have e : M = [] := List.length_eq_zero_iff.1 (by have := hM.1; omega)
    subst e
    have hrun := run_append_owned_none (P := Try.prog) (w := W) base 27 o.type 3 i0 1 Try.underlying27 hi0 v L.length (L.map encI) hown
    unfold Oper.wp
    simp only [List.length_nil] at hx
    simp [execOp, ho, resolve, invoke, builtin, hs, hx, hrun, Result.andThen]
    exact h v W (by simpa using hown) ⟨rfl, rfl, rfl, Nat.le_refl _, fun _ _ _ => rfl⟩
  | some ad =>
    refine wp_append_own W s x _ ho base 3 i0 (.int .i64 0) 1 8 Try.underlying27 hi0 hz0 hz1 hz2 rfl (by decide) v L.length (L.map encI) hs hown ad M.length d (M.map encI) hx (by simp) ?_ ?_ (by unfold maxLen; omega) (by omega) hbase ?_
    · intro j u hj
      rw [List.getElem?_map] at hj
      by_cases hlt : j < M.length
      · obtain ⟨b, o, e, ht⟩ := hM.2.2.2 (by omega)
        cases e
        rw [List.getElem?_eq_getElem hlt] at hj
        simp only [Option.map_some, Option.some.injEq] at hj
        rw [add_none, ht.2 j hlt, gi_get hlt, ← hj]
      · rw [List.getElem?_eq_none (by omega)] at hj; cases hj
    · intro u hu
      obtain ⟨n, _, rfl⟩ := List.mem_map.1 hu
      rfl
    · intro v' w' h1 h2 _
      exact h v' w' (by unfold OwnI; rw [List.length_append, List.map_append]; exact h1) h2

theorem own_made (w : World) (base : Nat) (h : base ≤ w.heap.size) : OwnI (w.alloc (.cells #[] 3)) base (.slice (some ⟨w.heap.size, 0, none⟩) 0 0) [] :=
  World.ownsRow_made w _ _ h (Nat.zero_le _) rfl
theorem at_world {P : Program} {ops : Array Oper} {o : Oper} {a : Act} {K : Act → World → Prop} {Q : Exit → Act → World → Prop} {E : Prop} (W : World) (h : if Region.wanted o (yielded ops a.tmps) = true then Oper.wp P o a W K Q else E) : if Region.wanted o (yielded ops a.tmps) = true then Oper.wp P o a W K Q else E := h


theorem wpList_append_m {w : World} {ops : Array Oper} {rest : List Oper} {o : Oper} {a : Act} {Q : Exit → Act → World → Prop} (hgd : o.guard = none) (s x : Operand)
    (ho : o.op = .call { callee := .builtin .append, args := #[s, x], argTypes := #[27, 27] })
    (base : Nat) (v : Value) (L : List Int) (hs : a.eval s = v) (hown : OwnI w base v L) (B : Option Addr) (d m : Nat) (M : List Int) (hm : m = M.length) (hx : a.eval x = .slice B m d) (hM : Ints w B d M)
    (hn : L.length + M.length ≤ 1099511627776) (hbase : base ≤ w.heap.size)
    (h : ∀ v' w', OwnI w' base v' (L ++ M) → w.grownBy w' v.ownBlock → wpList Try.prog ops Q rest (a.put o.dst v') w') : wpList Try.prog ops Q (o :: rest) a w := by
  subst hm
  exact wpList_append_ints hgd s x ho base v L hs hown B d M hx hM hn hbase h

/-! ### An empty row and a row of one number, made in either order -/
section
variable (w : World) (x : Int)
abbrev eo : Obj := .cells #[] 3
abbrev xo (x : Int) : Obj := .cells #[.int .i64 x] 3
theorem nw_A : OwnI (w.alloc eo).drew w.heap.size (.slice (some ⟨w.heap.size, 0, none⟩) 0 0) [] := own_bel (own_made w _ (Nat.le_refl _)) (Below.refl _ _).drew
theorem nw_bA : Below w.heap.size w (w.alloc eo).drew := (bel_al (Below.refl _ _) (Nat.le_refl _) _).drew
theorem nw_B : OwnI ((w.alloc eo).alloc (xo x)).drew w.heap.size (.slice (some ⟨w.heap.size, 0, none⟩) 0 0) [] := own_bel (own_made w _ (Nat.le_refl _)) (bel_al (Below.refl _ _) (Nat.le_refl _) _).drew
theorem nw_xB : OwnI ((w.alloc eo).alloc (xo x)).drew w.heap.size (.slice (some ⟨w.heap.size + 1, 0, none⟩) 1 1) [x] := by
  have h := own_one1 (w.alloc eo) x w.heap.size (by simp)
  rw [show (w.alloc eo).heap.size = w.heap.size + 1 by simp] at h
  exact own_bel h (Below.refl _ _).drew
theorem nw_bB : Below w.heap.size w ((w.alloc eo).alloc (xo x)).drew := (bel_al (bel_al (Below.refl _ _) (Nat.le_refl _) _) (by simp) _).drew
theorem nw_C : OwnI ((w.alloc (xo x)).alloc eo).drew w.heap.size (.slice (some ⟨w.heap.size + 1, 0, none⟩) 0 0) [] := by
  have h := own_made (w.alloc (xo x)) w.heap.size (by simp)
  rw [show (w.alloc (xo x)).heap.size = w.heap.size + 1 by simp] at h
  exact own_bel h (Below.refl _ _).drew
theorem nw_xC : OwnI ((w.alloc (xo x)).alloc eo).drew w.heap.size (.slice (some ⟨w.heap.size, 0, none⟩) 1 1) [x] := own_bel (own_one1 w x w.heap.size (Nat.le_refl _)) (bel_al (Below.refl _ _) (Nat.le_refl _) _).drew
theorem nw_bC : Below w.heap.size w ((w.alloc (xo x)).alloc eo).drew := (bel_al (bel_al (Below.refl _ _) (Nat.le_refl _) _) (by simp) _).drew
theorem nw_bD : Below w.heap.size w (w.alloc (xo x)).drew := (bel_al (Below.refl _ _) (Nat.le_refl _) _).drew
end
theorem ap_ne {a b n c m d : Nat} (h : a ≠ b) : Apart (.slice (some ⟨a, 0, none⟩) n c) (.slice (some ⟨b, 0, none⟩) m d) := fun g h1 h2 => h (by cases h1; cases h2; rfl)
theorem own_ints {w : World} {base : Nat} {A : Option Addr} {n c : Nat} {L : List Int} (h : OwnI w base (.slice A n c) L) : Ints w A c L := by
  obtain ⟨A', c', e, hI⟩ := ints_of_own h
  cases e
  exact hI

end Go.Proofs.Ytmobohamlimhdaa.Two
