/-
  The names of keys in the law on counted keys and sketches.
-/
import Derived.Test.YtmldjfbnljdamaaLfuApi3
import Derived.Test.YtmldjfbnljdamaaTopBase
import Derived.Laws.BytesArg
namespace Go.Proofs.Ytmldjfbnljdamaa.Tcn
open Go.RowKit
set_option linter.unusedVariables false
set_option maxRecDepth 100000

/-- The name of a key. -/
def nm (y : Int) : ByteArray := strOfNums [y % 256, y / 256 % 256, y / 65536 % 256]
theorem nm_size (y : Int) : (nm y).size = 3 := by unfold nm; rw [strOfNums_size]; rfl
theorem name_any (y : Int) (w : World) : Calls Try.prog 5 #[.int .i64 y] w fun e w' => e = .returned (.string (nm y)) ∧ Below w.heap.size w w' := by
  have kc := run_convert_bytes_arg (P := Try.prog) (w.alloc (.cells #[.int .u8 (y % 256), .int .u8 (y / 256 % 256), .int .u8 (y / 65536 % 256)] 5)) 28 5 Try.underlying28 Try.underlying5 w.heap.size 0 3 3 [y % 256, y / 256 % 256, y / 65536 % 256] rfl (fun i hi => by
    rcases (by omega : i = 0 ∨ i = 1 ∨ i = 2) with rfl | rfl | rfl <;> simp [go_sem]) 9 Try.underlying9
  have HB : Hid (Below w.heap.size w (w.alloc (.cells #[.int .u8 (y % 256), .int .u8 (y / 256 % 256), .int .u8 (y / 65536 % 256)] 5))) := Lib.hid ((Below.refl _ _).alloc (Nat.le_refl _) _)
  have HE : Hid (strOfNums [y % 256, y / 256 % 256, y / 65536 % 256] = nm y) := Lib.hid rfl
  rw [HE.out] at kc
  go_enter Try.func5, Try.ntmps5
  go_wp2
  go_ret
  exact ⟨rfl, HB.out⟩

end Go.Proofs.Ytmldjfbnljdamaa.Tcn
