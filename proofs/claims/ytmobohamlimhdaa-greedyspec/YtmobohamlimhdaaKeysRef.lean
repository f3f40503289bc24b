/-
  Of the reference: KeysOnce, TraceCheck.
-/
import Derived.Test.YtmobohamlimhdaaLruWalks
namespace Go.Proofs.Ytmobohamlimhdaa.Kr
open Go.RowKit Go.Maps
open Lru (isRm isK keysE keysE_zero keysE_at traceE trace_zero ret_int slice_upto)
set_option linter.unusedVariables false
set_option maxRecDepth 100000

theorem hasInt_b (A : Option Addr) (c : Nat) (L : List Int) (n : Int) (b : Bool) (w : World) (ha : Ints w A c L) (hb : decide (n ∈ L) = b) :
    Calls Try.prog 20 #[.slice A L.length c, .int .i64 n] w fun e w' => e = .returned (.bool b) ∧ w' = w := by
  subst hb
  exact (hasInt_any A c L n w ha).mono (fun e w' ⟨h1, h2⟩ => ⟨h1, h2.symm⟩)
theorem betweenK (x : Int) (b : Bool) (w : World) (hb : decide (isK x) = b) : Calls Try.prog 28 #[.int .i64 x, .int .i64 0, .int .i64 1048576] w fun e w' => e = .returned (.bool b) ∧ w = w' := by
  subst hb
  exact between_any x 0 1048576 w
theorem betweenR (x : Int) (b : Bool) (w : World) (hb : decide (isRm x) = b) : Calls Try.prog 28 #[.int .i64 x, .int .i64 1, .int .i64 40] w fun e w' => e = .returned (.bool b) ∧ w = w' := by
  subst hb
  exact between_any x 1 40 w

end Go.Proofs.Ytmobohamlimhdaa.Kr
