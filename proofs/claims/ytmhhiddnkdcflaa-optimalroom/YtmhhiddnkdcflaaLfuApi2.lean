/-
  What Access, Run, Age and Victim of package lfu return.
-/
import Derived.Test.YtmhhiddnkdcflaaLfuApi
namespace Go.Proofs.Ytmhhiddnkdcflaa.Lfu
open Go.RowKit
open Lru (isRm isK keysE keysE_zero traceE trace_zero)
set_option linter.unusedVariables false
set_option maxRecDepth 100000

/-! ### The answers -/
def acE (r : Int) (F : List Us) (x : Int) : Int := if checkK r F = 0 then (if isK x then 0 else 3) else checkK r F
def acR (r : Int) (F : List Us) (x : Int) : Int := if acE r F x = 0 then r else 0
def acF (r : Int) (F : List Us) (x : Int) : List Us := if acE r F x = 0 then tch r F x else []
def acH (r : Int) (F : List Us) (x : Int) : Bool := if acE r F x = 0 then decide (x ∈ keys F) else false
def acG (r : Int) (F : List Us) (x : Int) : Int := if acE r F x = 0 then gone r F x else 0
def rnE (r : Int) (F : List Us) (xs : List Int) : Int := if checkK r F = 0 then traceE xs else checkK r F
def rnR (r : Int) (F : List Us) (xs : List Int) : Int := if rnE r F xs = 0 then r else 0
def rnF (r : Int) (F : List Us) (xs : List Int) : List Us := if rnE r F xs = 0 then runU r F xs else []
def rnH (r : Int) (F : List Us) (xs : List Int) : Int := if rnE r F xs = 0 then (hitsU r F xs : Int) else 0
def agR (r : Int) (F : List Us) : Int := if checkK r F = 0 then r else 0
def agF (r : Int) (F : List Us) : List Us := if checkK r F = 0 then half F else []
def viE (r : Int) (F : List Us) : Int := if checkK r F = 0 then (if F.length = 0 then 5 else 0) else checkK r F
def viN (r : Int) (F : List Us) : Int := if viE r F = 0 then (gu F (vicN F)).key else 0
/-- A slice of the call's own (or nil). -/
def FA (w : World) (A : Option Addr) : Prop := ∀ a, A = some a → w.heap.size ≤ a.block
theorem FA.none_ (w : World) : FA w none := fun a h => (by cases h)
def AR (r : Int) (F : List Us) (x : Int) (w : World) (e : Ending) (w' : World) : Prop :=
  ∃ A c, e = .returned (.tuple #[kv (acR r F x) (.slice A (acF r F x).length c), .bool (acH r F x), .int .i64 (acG r F x), .int .i64 (acE r F x)]) ∧ Uss w' A c (acF r F x) ∧ FA w A ∧ Below w.heap.size w w'
def NR (r : Int) (F : List Us) (xs : List Int) (w : World) (e : Ending) (w' : World) : Prop :=
  ∃ A c, e = .returned (.tuple #[kv (rnR r F xs) (.slice A (rnF r F xs).length c), .int .i64 (rnH r F xs), .int .i64 (rnE r F xs)]) ∧ Uss w' A c (rnF r F xs) ∧ FA w A ∧ Below w.heap.size w w'
def GR (r : Int) (F : List Us) (w : World) (e : Ending) (w' : World) : Prop :=
  ∃ A c, e = .returned (.tuple #[kv (agR r F) (.slice A (agF r F).length c), .int .i64 (checkK r F)]) ∧ Uss w' A c (agF r F) ∧ FA w A ∧ Below w.heap.size w w'
abbrev nk : Value := kv 0 (.slice none 0 0)
abbrev zk : Obj := ko 0 (.slice none 0 0)
theorem AR.bad {r : Int} {F : List Us} {x er : Int} {w w' : World} (he : acE r F x = er) (h0 : er ≠ 0) (hb : Below w.heap.size w w') : AR r F x w (.returned (.tuple #[nk, .bool false, .int .i64 0, .int .i64 er])) w' := by
  have h : ¬ acE r F x = 0 := by rw [he]; exact h0
  refine ⟨none, 0, ?_, ?_, FA.none_ _, hb⟩
  · unfold acR acF acH acG; rw [if_neg h, if_neg h, if_neg h, if_neg h, he]; rfl
  · unfold acF; rw [if_neg h]; exact Uss.none_ _
theorem NR.bad {r : Int} {F : List Us} {xs : List Int} {er : Int} {w w' : World} (he : rnE r F xs = er) (h0 : er ≠ 0) (hb : Below w.heap.size w w') : NR r F xs w (.returned (.tuple #[nk, .int .i64 0, .int .i64 er])) w' := by
  have h : ¬ rnE r F xs = 0 := by rw [he]; exact h0
  refine ⟨none, 0, ?_, ?_, FA.none_ _, hb⟩
  · unfold rnR rnF rnH; rw [if_neg h, if_neg h, if_neg h, he]; rfl
  · unfold rnF; rw [if_neg h]; exact Uss.none_ _
theorem GR.bad {r : Int} {F : List Us} {er : Int} {w w' : World} (he : checkK r F = er) (h0 : er ≠ 0) (hb : Below w.heap.size w w') : GR r F w (.returned (.tuple #[nk, .int .i64 er])) w' := by
  have h : ¬ checkK r F = 0 := by rw [he]; exact h0
  refine ⟨none, 0, ?_, ?_, FA.none_ _, hb⟩
  · unfold agR agF; rw [if_neg h, if_neg h, he]; rfl
  · unfold agF; rw [if_neg h]; exact Uss.none_ _
theorem AR.good {r : Int} {F : List Us} {x : Int} {w w' : World} {A : Option Addr} {c n : Nat} (he : acE r F x = 0) (hn' : n = (tch r F x).length) (hF : Uss w' A c (tch r F x)) (hA : FA w A) (hb : Below w.heap.size w w') :
    AR r F x w (.returned (.tuple #[kv r (.slice A n c), .bool (decide (x ∈ keys F)), .int .i64 (gone r F x), .int .i64 0])) w' := by
  subst hn'
  refine ⟨A, c, ?_, ?_, hA, hb⟩
  · unfold acR acF acH acG; rw [he, if_pos rfl, if_pos rfl, if_pos rfl, if_pos rfl]
  · unfold acF; rw [he, if_pos rfl]; exact hF
theorem NR.good {r : Int} {F : List Us} {xs : List Int} {w w' : World} {A : Option Addr} {c n : Nat} (he : rnE r F xs = 0) (hn' : n = (runU r F xs).length) (hF : Uss w' A c (runU r F xs)) (hA : FA w A) (hb : Below w.heap.size w w') :
    NR r F xs w (.returned (.tuple #[kv r (.slice A n c), .int .i64 (hitsU r F xs : Int), .int .i64 0])) w' := by
  subst hn'
  refine ⟨A, c, ?_, ?_, hA, hb⟩
  · unfold rnR rnF rnH; rw [he, if_pos rfl, if_pos rfl, if_pos rfl]
  · unfold rnF; rw [he, if_pos rfl]; exact hF
theorem GR.good {r : Int} {F : List Us} {w w' : World} {A : Option Addr} {c n : Nat} (he : checkK r F = 0) (hn' : n = F.length) (hF : Uss w' A c (half F)) (hA : FA w A) (hb : Below w.heap.size w w') :
    GR r F w (.returned (.tuple #[kv r (.slice A n c), .int .i64 0])) w' := by
  subst hn'
  refine ⟨A, c, ?_, ?_, hA, hb⟩
  · unfold agR agF; rw [he, if_pos rfl, if_pos rfl, half_len]
  · unfold agF; rw [he, if_pos rfl]; exact hF
theorem Kb.neF {w : World} {p : Nat} {r : Int} {v : Value} {B : Option Addr} (k : Kb w p r v) (hA : FA w B) : ∀ a, B = some a → p ≠ a.block := fun a ha e => by have := hA a ha; have := k.lt; omega
/-- The two boxes of a function of the package: its argument and its result. -/
theorem box2 (w : World) (r : Int) (v : Value) : Kb ((w.alloc (ko r v)).alloc zk) w.heap.size r v ∧ Kb ((w.alloc (ko r v)).alloc zk) (w.heap.size + 1) 0 (.slice none 0 0) ∧ Below w.heap.size w ((w.alloc (ko r v)).alloc zk) := by
  refine ⟨(Kb.new w r _).alloc _, ?_, bel_al (bel_al (Below.refl _ _) (Nat.le_refl _) _) (by simp) _⟩
  have := Kb.new (w.alloc (ko r v)) 0 (.slice none 0 0)
  rwa [show (w.alloc (ko r v)).heap.size = w.heap.size + 1 by simp] at this

end Go.Proofs.Ytmhhiddnkdcflaa.Lfu
