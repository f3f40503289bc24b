/-
  A slice of ints that came in, and what the bound says of its length.
-/
import Derived.Test.YtamgnndebokopaaLruOpen
import Derived.Test.YtamgnndebokopaaRows
namespace Go.Proofs.Ytamgnndebokopaa
open Go.ChangeShapes Go.WideShapes Go.RowKit Go.Joins
set_option linter.unusedVariables false

theorem bulk_one {H : Type} (d : DataW H) : 1 ≤ Rows.uptoBulk d := by
  cases d with
  | lit l => cases l <;> simp [Rows.uptoBulk]
  | _ => simp [Rows.uptoBulk]
theorem bulk_len {H : Type} (l : List (DataW H)) : l.length ≤ Rows.uptoBulkAll l := by
  induction l with
  | nil => simp [Rows.uptoBulkAll]
  | cons x r ih => have := bulk_one x; simp only [Rows.uptoBulkAll, List.length_cons]; omega

theorem ints_open_u {H : Type} {enc : TypeId × Value → H} {W : World} {base : Nat} {r : Reach} {v : Value} {d : DataW H} {p : List MemPlace}
    (hv : Value.okWide Try.prog W r base 22 v) (h : DataW.Trod enc Try.prog W 0 (fun _ => true) true 22 v d p) :
    ∃ (A : Option Addr) (c : Nat) (L : List Int), v = .slice A L.length c ∧ Ints W A c L ∧ L.length ≤ Rows.uptoBulk d := by
  obtain ⟨A, c, L, e, hL, hh⟩ := ints_open_s hv h
  refine ⟨A, c, L, e, hL, ?_⟩
  rcases hh with h0 | ⟨el, sp, rfl, hl⟩
  · omega
  · have := bulk_len el
    simp only [Rows.uptoBulk]
    omega

end Go.Proofs.Ytamgnndebokopaa
