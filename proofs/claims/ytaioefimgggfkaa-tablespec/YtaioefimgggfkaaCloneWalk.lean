/-
  strings.Clone returns the same bytes; nothing old turns.
  Conditions: the string has at most 2^48 bytes.
-/
import Derived.Test.YtaioefimgggfkaaHashWalks
import Derived.Shelf.Pu.Clone
namespace Go.Proofs.Ytaioefimgggfkaa
open Go.RowKit Go.Shelf

def ren : Ren := ⟨fun _ => 41, fun t => if t = 37 then 69 else if t = 47 then 70 else t, fun g => g⟩

theorem lays : LaysPu.n25 Try.prog ren := by
  constructor <;> first | kernel_rfl | (intro w; kernel_rfl) | (intro w; rfl)

theorem clone1_any (s : ByteArray) (w : World) (h : s.size ≤ 281474976710656) :
    Calls Try.prog 41 #[.string s] w fun e w' => e = .returned (.string s) ∧ Below w.heap.size w w' :=
  AnyPu.stringslite_Clone lays s w h

theorem clone_any (s : ByteArray) (w : World) (h : s.size ≤ 281474976710656) :
    Calls Try.prog 38 #[.string s] w fun e w' => e = .returned (.string s) ∧ Below w.heap.size w w' := by
  go_enter Try.func38, Try.ntmps38
  go_wp2_with fail
  refine (clone1_any s _ h).mono ?_
  rintro e w' ⟨rfl, hb⟩
  go_wp2
  go_ret
  exact ⟨rfl, hb⟩

end Go.Proofs.Ytaioefimgggfkaa
