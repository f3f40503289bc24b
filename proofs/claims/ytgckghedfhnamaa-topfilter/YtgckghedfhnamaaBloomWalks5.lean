/-
  What Union and Fold of package bloom return.
-/
import Derived.Test.YtgckghedfhnamaaBloomWalks4
namespace Go.Proofs.Ytgckghedfhnamaa
open Go.RowKit Go.Shelf
set_option linter.unusedVariables false

/-- A result of the filter's type lies in block m and can be written; all below it stands. -/
def RB (m : Nat) (w0 w' : World) : Prop :=
  w'.cell? ⟨m, 0, none⟩ = some (rd w' m 0) ∧ w'.cell? ⟨m, 1, none⟩ = some (rd w' m 1) ∧ w'.cell? ⟨m, 2, none⟩ = some (rd w' m 2) ∧
  w'.frozen? ⟨m, 0, none⟩ = false ∧ w'.frozen? ⟨m, 1, none⟩ = false ∧ w'.frozen? ⟨m, 2, none⟩ = false ∧ m + 1 ≤ w'.heap.size ∧ Below m w0 w'
theorem RB.next {m : Nat} {w0 w' w'' : World} {N : Nat} (h : RB m w0 w') (hN : m + 1 ≤ N) (hb : Below N w' w'') : RB m w0 w'' := by
  obtain ⟨a4, a5, a6, a7, a8, a9, hz, h4⟩ := h
  exact ⟨rd_below a4 hb (by omega), rd_below a5 hb (by omega), rd_below a6 hb (by omega),
    (hb.frozen (by show m < N; omega)).trans a7, (hb.frozen (by show m < N; omega)).trans a8, (hb.frozen (by show m < N; omega)).trans a9, Nat.le_trans hz hb.size, h4.trans (hb.mono (by omega))⟩
theorem RB.size {m : Nat} {w0 w' : World} (h : RB m w0 w') : m + 1 ≤ w'.heap.size := h.2.2.2.2.2.2.1
theorem RB.bel {m : Nat} {w0 w' : World} (h : RB m w0 w') : Below m w0 w' := h.2.2.2.2.2.2.2
theorem RB.new (w : World) : RB w.heap.size (w.alloc (.cells #[.int .i64 0, .int .i64 0, .slice none 0 0] 26)) (w.alloc (.cells #[.int .i64 0, .int .i64 0, .slice none 0 0] 26)) :=
  ⟨rd_of ⟨.int .i64 0, by simp [go_sem]⟩, rd_of ⟨.int .i64 0, by simp [go_sem]⟩, rd_of ⟨.slice none 0 0, by simp [go_sem]⟩, by simp [go_sem], by simp [go_sem], by simp [go_sem], by simp, Below.refl _ _⟩
theorem RB.put {m n : Nat} {G : Fl} {A' : Option Addr} {c' : Nat} {w w0 wk : World} (h : RB m w0 wk) (hn : n ≤ m) (H1 : Below n w w0) (hi : Ints wk A' c' G.set) (hne : ∀ a, A' = some a → m + 1 ≤ a.block) (u0 u1 u2 : Value) :
    Ints (((wk.setCell ⟨m, 0, none⟩ u0).setCell ⟨m, 1, none⟩ u1).setCell ⟨m, 2, none⟩ u2) A' c' G.set ∧ Below n w (((wk.setCell ⟨m, 0, none⟩ u0).setCell ⟨m, 1, none⟩ u1).setCell ⟨m, 2, none⟩ u2) := by
  have hq : ∀ a, A' = some a → a.block ≠ m := fun a ha => by have := hne a ha; omega
  exact ⟨((hi.setCell hq _).setCell hq _).setCell hq _, (((H1.trans (h.bel.mono hn)).setCell (p := ⟨m, 0, none⟩) hn _).setCell (p := ⟨m, 1, none⟩) hn _).setCell (p := ⟨m, 2, none⟩) hn _⟩

abbrev z3 : Obj := .cells #[.int .i64 0, .int .i64 0, .slice none 0 0] 26

end Go.Proofs.Ytgckghedfhnamaa
