/-
  The walk of the law on a trace in two parts.
-/
import Derived.Test.YtdcimkllonflkaaLruBegun
import Derived.Test.YtdcimkllonflkaaIntsLib2
import Derived.Deep.DeepCutAuto
import Derived.Deep.RegionLaw
namespace Go.Proofs.Ytdcimkllonflkaa.Lru
open Go.RowKit Go.Maps
set_option linter.unusedVariables false

/-- 'append(v, xs...)' in a region that draws. -/
theorem step_append_ints {W : World} {ops : Array Oper} {o : Oper} {a : Act} {K : Act → World → Prop} {Q : Exit → Act → World → Prop} {E : Prop} (hgd : o.guard = none) (s x : Operand)
    (ho : o.op = .call { callee := .builtin .append, args := #[s, x], argTypes := #[25, 25] })
    (base : Nat) (v : Value) (L : List Int) (hs : a.eval s = v) (hown : OwnI W base v L) (B : Option Addr) (d m : Nat) (M : List Int) (hm : m = M.length) (hx : a.eval x = .slice B m d) (hM : Ints W B d M)
    (hn : L.length + m ≤ 17592186044416) (hbase : base ≤ W.heap.size)
    (h : ∀ v' w', OwnI w' base v' (L ++ M) → W.grownBy w' v.ownBlock → K (a.put o.dst v') w') :
    if Region.wanted o (yielded ops a.tmps) = true then Oper.wp Try.prog o a W K Q else E := by
  subst hm
  rw [if_pos (by simp [Region.wanted, hgd])]
  obtain ⟨i0, hi0, hz0, hz1, hz2⟩ := info_parts int_info
  cases B with
  | none =>
    have hd := hM.2.2.1 rfl
    subst hd
    have e : M = [] := List.length_eq_zero_iff.1 (by have := hM.1; omega)
    subst e
    have hrun := run_append_owned_none (P := Try.prog) (w := W) base 25 o.type 3 i0 1 Try.underlying25 hi0 v L.length (L.map encI) hown
    unfold Oper.wp
    simp only [List.length_nil] at hx
    simp [execOp, ho, resolve, invoke, builtin, hs, hx, hrun, Result.andThen]
    exact h v W (by simpa using hown) ⟨rfl, rfl, rfl, Nat.le_refl _, fun _ _ _ => rfl⟩
  | some ad =>
    refine wp_append_own W s x _ ho base 3 i0 (.int .i64 0) 1 8 Try.underlying25 hi0 hz0 hz1 hz2 rfl (by decide) v L.length (L.map encI) hs hown ad M.length d (M.map encI) hx (by simp) ?_ ?_ (by unfold maxLen; omega) (by omega) hbase ?_
    · intro j u hj
      rw [List.getElem?_map] at hj
      by_cases hlt : j < M.length
      · obtain ⟨b, o, e, ht⟩ := hM.2.2.2 (by omega)
        cases e
        rw [List.getElem?_eq_getElem hlt] at hj
        simp only [Option.map_some, Option.some.injEq] at hj
        rw [add_none, ht.2 j hlt, gi_get hlt, ← hj]
      · rw [List.getElem?_eq_none (by omega)] at hj; cases hj
    · intro u hu
      obtain ⟨n, _, rfl⟩ := List.mem_map.1 hu
      rfl
    · intro v' w' h1 h2 _
      exact h v' w' (by unfold OwnI; rw [List.length_append, List.map_append]; exact h1) h2

/-! ### A new variable of type Cache -/
def Zb (w : World) (p : Nat) : Prop := w.heap[p]? = some zo
theorem Zb.lt {w : World} {p : Nat} (h : Zb w p) : p < w.heap.size := (Array.getElem?_eq_some_iff.1 h).1
theorem Zb.cells {w : World} {p : Nat} (h : Zb w p) : w.cell? ⟨p, 0, none⟩ = some (.int .i64 0) ∧ w.cell? ⟨p, 1, none⟩ = some (.slice none 0 0) ∧ w.frozen? ⟨p, 0, none⟩ = false ∧ w.frozen? ⟨p, 1, none⟩ = false := by
  have h : w.heap[p]? = some (.cells #[.int .i64 0, .slice none 0 0] 49 (0, 0)) := h
  exact ⟨by rw [cell_of_row w p 0 _ _ (0, 0) h]; rfl, by rw [cell_of_row w p 1 _ _ (0, 0) h]; rfl, by simp [World.frozen?, h], by simp [World.frozen?, h]⟩
theorem Zb.below {w w' : World} {p : Nat} (h : Zb w p) (hb : Below w.heap.size w w') : Zb w' p := (hb.block p h.lt).trans h
theorem Zb.drew {w : World} {p : Nat} (h : Zb w p) : Zb w.drew p := h
theorem Zb.alloc {w : World} {p : Nat} (h : Zb w p) (o : Obj) : Zb (w.alloc o) p := h.below (bel_al (Below.refl _ _) (Nat.le_refl _) _)
theorem Zb.new (w : World) : Zb (w.alloc zo) w.heap.size := Array.getElem?_push_size
theorem Zb.own {w : World} {p base : Nat} {v : Value} {L : List Int} (h : Zb w p) (ho : OwnI w base v L) : v.ownBlock ≠ some p := by
  intro e
  rcases ho.2 with ⟨rfl, -⟩ | ⟨g, cap, cur, rfl, -, hg, -⟩
  · cases e
  · cases e
    have h : w.heap[g]? = some (.cells #[.int .i64 0, .slice none 0 0] 49 (0, 0)) := h
    rw [hg] at h
    simp at h
theorem Zb.grown {w w' : World} {p base : Nat} {v : Value} {L : List Int} (h : Zb w p) (ho : OwnI w base v L) (hg : w.grownBy w' v.ownBlock) : Zb w' p := (hg.block p h.lt (fun e => h.own ho e.symm)).trans h
theorem Zb.ne {w : World} {p : Nat} {B : Option Addr} (h : Zb w p) (hA : FA w B) : ∀ a, B = some a → a.block ≠ p := fun a ha e => by have := hA a ha; have := h.lt; omega

theorem own_made (w : World) (base : Nat) (h : base ≤ w.heap.size) : OwnI (w.alloc (.cells #[] 3)) base (.slice (some ⟨w.heap.size, 0, none⟩) 0 0) [] :=
  World.ownsRow_made w _ _ h (Nat.zero_le _) rfl
theorem own_bel {w w' : World} {base : Nat} {v : Value} {L : List Int} (h : OwnI w base v L) (hb : Below w.heap.size w w') : OwnI w' base v L :=
  h.kept (row := none) ⟨hb.os, hb.tape, hb.output, hb.size, fun k hk _ => hb.block k hk⟩ (by cases hv : v.ownBlock <;> simp)

section
variable (w : World)
theorem mk_ownA : OwnI (w.alloc (.cells #[] 3)).drew w.heap.size (.slice (some ⟨w.heap.size, 0, none⟩) 0 0) [] := own_bel (own_made w _ (Nat.le_refl _)) (Below.refl _ _).drew
theorem mk_ownB : OwnI ((w.alloc (.cells #[] 3)).alloc zo).drew w.heap.size (.slice (some ⟨w.heap.size, 0, none⟩) 0 0) [] := own_bel (own_made w _ (Nat.le_refl _)) (bel_al (Below.refl _ _) (Nat.le_refl _) _).drew
theorem mk_ownC : OwnI ((w.alloc zo).alloc (.cells #[] 3)).drew w.heap.size (.slice (some ⟨w.heap.size + 1, 0, none⟩) 0 0) [] := by
  have h := own_made (w.alloc zo) w.heap.size (by simp)
  rw [show (w.alloc zo).heap.size = w.heap.size + 1 by simp] at h
  exact own_bel h (Below.refl _ _).drew
theorem mk_zB : Zb ((w.alloc (.cells #[] 3)).alloc zo).drew (w.heap.size + 1) := by
  have h := Zb.new (w.alloc (.cells #[] 3))
  rw [show (w.alloc (.cells #[] 3)).heap.size = w.heap.size + 1 by simp] at h
  exact h
theorem mk_zC : Zb ((w.alloc zo).alloc (.cells #[] 3)).drew w.heap.size := (Zb.new w).alloc _
theorem mk_bA : Below w.heap.size w (w.alloc (.cells #[] 3)).drew := (bel_al (Below.refl _ _) (Nat.le_refl _) _).drew
theorem mk_bD : Below w.heap.size w (w.alloc zo).drew := (bel_al (Below.refl _ _) (Nat.le_refl _) _).drew
theorem mk_bB : Below w.heap.size w ((w.alloc (.cells #[] 3)).alloc zo).drew := (bel_al (bel_al (Below.refl _ _) (Nat.le_refl _) _) (by simp) _).drew
theorem mk_bC : Below w.heap.size w ((w.alloc zo).alloc (.cells #[] 3)).drew := (bel_al (bel_al (Below.refl _ _) (Nat.le_refl _) _) (by simp) _).drew
end

theorem at_world {P : Program} {ops : Array Oper} {o : Oper} {a : Act} {K : Act → World → Prop} {Q : Exit → Act → World → Prop} {E : Prop} (W : World) (h : if Region.wanted o (yielded ops a.tmps) = true then Oper.wp P o a W K Q else E) : if Region.wanted o (yielded ops a.tmps) = true then Oper.wp P o a W K Q else E := h

/-- A new variable is written. -/
theorem Zb.put {w : World} {p : Nat} {r : Int} {A : Option Addr} {c : Nat} {L : List Int} (h : Zb w p) (hI : Ints w A c L) (hA : ∀ a, A = some a → a.block ≠ p) :
    Bx ((w.setCell ⟨p, 0, none⟩ (.int .i64 r)).setCell ⟨p, 1, none⟩ (.slice A L.length c)) p r A c L := by
  obtain ⟨h1, h2, -, -⟩ := h.cells
  exact ⟨by simpa [World.setCell] using h.lt, by simp [go_sem, h1], by simp [go_sem, h2], (hI.setCell (p := ⟨p, 0, none⟩) hA _).setCell (p := ⟨p, 1, none⟩) hA _⟩

theorem parts_facts {r : Int} {L xs ys : List Int} (h : rnE r L xs = 0) : rnR r L xs = r ∧ Good r (rnL r L xs) ∧
    (rnE r (rnL r L xs) ys = 0 → rnE r L (xs ++ ys) = 0 → rnL r (rnL r L xs) ys = rnL r L (xs ++ ys) ∧ rnR r (rnL r L xs) ys = rnR r L (xs ++ ys) ∧ rnH r L (xs ++ ys) = rnH r L xs + rnH r (rnL r L xs) ys) ∧
    ((rnE r (rnL r L xs) ys ≠ 0 ∨ rnE r L (xs ++ ys) ≠ 0) → rnE r (rnL r L xs) ys ≠ rnE r L (xs ++ ys) → rnE r L (xs ++ ys) = 2) := by
  have g0 : checkC r L = 0 := by
    unfold rnE at h
    split at h
    · assumption
    · exact absurd h (by assumption)
  have ht : traceE xs = 0 := by unfold rnE at h; rwa [if_pos g0] at h
  have hg := check_zero.1 g0
  have hx := trace_zero.1 ht
  have eL : rnL r L xs = runL r L xs := by unfold rnL; rw [if_pos h]
  have hg2 : Good r (runL r L xs) := runL_good hg hx.2
  have g1 : checkC r (runL r L xs) = 0 := check_zero.2 hg2
  have e1 : rnE r (runL r L xs) ys = traceE ys := by unfold rnE; rw [if_pos g1]
  have e2 : rnE r L (xs ++ ys) = traceE (xs ++ ys) := by unfold rnE; rw [if_pos g0]
  rw [eL]
  refine ⟨by unfold rnR; rw [if_pos h], hg2, fun ha hb => ?_, fun hn hne => ?_⟩
  · refine ⟨?_, ?_, ?_⟩
    · unfold rnL; rw [if_pos ha, if_pos hb, runL_append]
    · unfold rnR; rw [if_pos ha, if_pos hb]
    · unfold rnH; rw [if_pos ha, if_pos hb, if_pos h, hitsM_append]; omega
  · rw [e1, e2] at hne
    rw [e2]
    unfold traceE at hne ⊢
    by_cases h1 : 200 < (xs ++ ys).length
    · rw [if_pos h1]
    · exfalso
      have h2 : ¬ 200 < ys.length := by rw [List.length_append] at h1; omega
      rw [if_neg h1, if_neg h2] at hne
      apply hne
      have : (∀ x ∈ ys, isK x) ↔ (∀ x ∈ xs ++ ys, isK x) := ⟨fun h x hm => (List.mem_append.1 hm).elim (hx.2 x) (h x), fun h x hm => h x (by simp [hm])⟩
      by_cases h3 : ∀ x ∈ ys, isK x
      · rw [if_pos h3, if_pos (this.1 h3)]
      · rw [if_neg h3, if_neg (fun hh => h3 (this.2 hh))]
theorem bad_facts {r : Int} {L xs : List Int} (h : rnE r L xs ≠ 0) : rnH r L xs = 0 ∧ (rnL r L xs).length = 0 := by
  unfold rnH rnL; rw [if_neg h, if_neg h]; exact ⟨rfl, rfl⟩
theorem rn_len {r : Int} {L xs : List Int} (h : rnE r L xs = 0) : xs.length ≤ 200 := by
  unfold rnE at h
  split at h
  · exact (trace_zero.1 h).1
  · exact absurd h (by assumption)
theorem below_put {B p : Nat} {w w' : World} (h : Below B w w') (hp : B ≤ p) (u v : Value) : Below B w ((w'.setCell ⟨p, 0, none⟩ u).setCell ⟨p, 1, none⟩ v) :=
  (h.setCell (p := ⟨p, 0, none⟩) hp _).setCell (p := ⟨p, 1, none⟩) hp _
theorem rnH_bound (r : Int) (L xs : List Int) : 0 ≤ rnH r L xs ∧ rnH r L xs ≤ 200 := by
  unfold rnH
  split
  · have := hitsM_le r L xs
    have : xs.length ≤ 200 := by
      rename_i h
      unfold rnE at h
      split at h
      · exact (trace_zero.1 h).1
      · exact absurd h (by assumption)
    omega
  · omega

end Go.Proofs.Ytdcimkllonflkaa.Lru
