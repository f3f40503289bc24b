/-
  The set of ids that Check of package wheel fills: a map of the call's own.
-/
import Derived.Test.YteldnohdijcbpaaWheelBuild
import Derived.Test.YteldnohdijcbpaaWheelCheckM
import Derived.Maps.OwnSet
import Derived.Maps.OwnOps
namespace Go.Proofs.Yteldnohdijcbpaa.Whl
open Go.RowKit Go.Maps
set_option linter.unusedVariables false

theorem plainElem_bool_inv {H : Type} {P : Program} {e : TypeId} (he : P.underlying e = some .bool) {v : Value} {z : DataW H × List MemPlace} (h : plainElem P e v = some z) : ∃ x, v = .bool x ∧ z = (.lit (.bool x), []) := by
  unfold plainElem at h
  rw [he] at h
  cases v <;> simp at h
  exact ⟨_, rfl, h.symm⟩

theorem keyInt : Keyed Try.prog 3 := int_keyed Try.underlying3
theorem zeroB (w : World) : (zeroValue 4).run Try.prog w = .ok (.bool false) w := by kernel_rfl

/-- Block b is the set of these ids. -/
def Seen (w : World) (b : Nat) (ids : List Int) : Prop :=
  ∃ D : DataW Unit, w.ownsMap Try.prog 3 (plainElem Try.prog 4) b ids.length D ∧ IsMap D ∧ (∀ x : Int, D.atKey (.int .i64 x) (.lit (.bool false)) = .lit (.bool (decide (x ∈ ids)))) ∧ Maps.size D = ids.length ∧ ∀ x : Int, Maps.has D (.int .i64 x) = decide (x ∈ ids)
section
variable {w w' : World} {b : Nat} {ids : List Int}
theorem Seen.lt (h : Seen w b ids) : b < w.heap.size := by
  obtain ⟨D, ⟨es, clock, hb, _⟩, _⟩ := h
  exact (Array.getElem?_eq_some_iff.1 hb).1
theorem Seen.below (h : Seen w b ids) (hb : Below w.heap.size w w') : Seen w' b ids := by
  obtain ⟨D, h1, h2⟩ := h
  have hg : w.grownBy w' none := ⟨hb.os, hb.tape, hb.output, hb.size, fun k hk _ => hb.block k hk⟩
  exact ⟨D, h1.kept hg (by simp), h2⟩
theorem Seen.kept (h : Seen w b ids) {B : Nat} (hB : b < B) (hb : Below B w w') : Seen w' b ids := by
  have hl := h.lt
  obtain ⟨D, ⟨es, clock, h1, h2⟩, h3⟩ := h
  exact ⟨D, ⟨es, clock, (hb.block b hB).trans h1, h2⟩, h3⟩
theorem Seen.new (w : World) : Seen (w.alloc (.map #[] 0)) w.heap.size [] :=
  ⟨.map [], World.ownsMap_made _ _ _ _, isMap_empty, fun x => by rfl, rfl, fun x => by rfl⟩
theorem Seen.look (h : Seen w b ids) {x : Int} (hx : (Lit.int .i64 x).wf = true) : (Instr.lookup 58 (.map (some b)) (.int .i64 x) false).run Try.prog w = .ok (.bool (decide (x ∈ ids))) w := by
  obtain ⟨D, h1, h2, h3, h4⟩ := h
  obtain ⟨v, ps, hrun, hv⟩ := h1.lookup keyInt Try.underlying58 (zeroB w) (plainElem_bool Try.underlying4 false) (keyOf_int_mk Try.underlying3 hx)
  obtain ⟨y, rfl, hy⟩ := plainElem_bool_inv Try.underlying4 hv
  simp only [Prod.mk.injEq] at hy
  have := hy.1
  rw [h3 x] at this
  simp only [DataW.lit.injEq, Lit.bool.injEq] at this
  rw [hrun, this]
theorem Seen.len (h : Seen w b ids) (ty : TypeId) : (Builtin.len_ #[58] ty #[.map (some b)]).run Try.prog w = .ok (.int .i64 (ids.length : Int)) w := by
  obtain ⟨D, h1, h2, h3, h4, h5⟩ := h
  rw [h1.len Try.underlying58 ty, h4]
theorem Seen.put (h : Seen w b ids) {x : Int} (hx : (Lit.int .i64 x).wf = true) (hn : x ∉ ids) (hl : ids.length ≤ 1048577) :
    ∃ w', (Instr.mapUpdate 58 (.map (some b)) (.int .i64 x) (.bool true)).run Try.prog w = .ok () w' ∧ Seen w' b (ids ++ [x]) ∧ w.grownBy w' (some b) := by
  obtain ⟨D, h1, h2, h3, h4, h5⟩ := h
  obtain ⟨w', hrun, hown, hg⟩ := h1.update keyInt Try.underlying58 (by unfold maxLen; omega) (keyOf_int_mk Try.underlying3 hx) (plainElem_bool Try.underlying4 true)
  have htd := h1.tidy keyInt
  refine ⟨w', hrun, ⟨D.put (.int .i64 x) (.lit (.bool true)), ?_, ?_, fun y => ?_, ?_, fun y => ?_⟩, hg⟩
  · rw [List.length_append]; exact hown
  · exact (hown.tidy keyInt).isMap
  · by_cases e : y = x
    · subst e
      rw [atKey_put_same h2 (by trivial)]
      simp
    · rw [atKey_put_other (by simpa using e), h3 y]
      simp [e]
  · rw [size_put htd, h5 x]
    simp [hn, h4]
  · by_cases e : y = x
    · subst e
      rw [has_put_same h2 (by trivial)]
      simp
    · rw [has_put_other (by simpa using e), h5 y]
      simp [e]
end

end Go.Proofs.Yteldnohdijcbpaa.Whl
