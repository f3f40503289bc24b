/-
  No cell of these rows narrows 'for every input' (looked for: loops, veiled, ifaces, maps, wideKeys, modest, calm, conditions, laid).
  DERIVED. THE GIVEN ROWS OF THIS SEAT. 4 by the template 'for every input the law returns true; each argument reads behind the call as it read before'; 0 by the template 'total and deterministic' (their statements: YtdhcbdoiodgfhaaTotals.lean).
  GIVEN WITH THE SEED: the statements are not yours to turn. If you find one false, say at which input.
  Laid BY PROGRAM, IN A SANDBOX (cutbox-rows.mjs): the forced cells as the released guide's own fill.sh prints them over the translation 0155369c25fb269d… (all of the seat's roots in one cut). By AI agents, Wed Nov 11 2026. No macro, syntax, notation, axiom, sorry.
-/
import Derived.Test.YtdhcbdoiodgfhaaChecked
import GoSem.Claim
import GoSem.ClaimJoined
import GoSem.ClaimMapViews
import Derived.JoinedTies
import Derived.KernelRfl
namespace Go.Proofs.Ytdhcbdoiodgfhaa
/- THE CELL 'sum', in the pinned program and in every row, IS THE sha256 OF THE DUMP (.gsa) THAT YtdhcbdoiodgfhaaProg.lean LOADS. Nothing in Lean hashes anything: it is a label: what it is worth is what the hold of that sum in a sandbox is worth. -/
noncomputable def Try.pinned : Pinned := { name := "ytdhcbdoiodgfhaa", sum := "0155369c25fb269de1dde7b1832978d8968f45db7ca143bf449d192c3434ebf9", checked := Try.checked }
namespace Rows
def none {H : Type} : Left H := { results := [], args := [] }

/-- 'slopchestlaw.WheelSpec': WHATEVER THE INPUT: true; the input reads as it did. -/
def wheelSpecSpec : ChangeSpec := { name := "wheelSpec", fn := fun _ => fun
  | [d1, d2, d3, d4] => { results := [.lit (.bool true)], args := [d1, d2, d3, d4] }
  | _ => none }
def wheelSpecRow : OpenClaim := { program := "ytdhcbdoiodgfhaa", sum := "0155369c25fb269de1dde7b1832978d8968f45db7ca143bf449d192c3434ebf9", func := "slopchest/slopchestlaw.WheelSpec", spec := "wheelSpec", inPlace := ["slices.overlaps[slopchest/api.Timer]"], unfollowed := true, recurses := true, apart := false }
def WheelSpecSaid : Prop := wheelSpecRow.holds Try.pinned (OpenSpec.ofChange wheelSpecSpec)

/-- ITS FALSE NEIGHBOUR: 'it returns false'. Refute it at one input. -/
def wheelSpecWrong : ChangeSpec := { name := "wheelSpec", fn := fun _ => fun
  | [d1, d2, d3, d4] => { results := [.lit (.bool false)], args := [d1, d2, d3, d4] }
  | _ => none }
def WheelSpecWrongFalsely : Prop := wheelSpecRow.holds Try.pinned (OpenSpec.ofChange wheelSpecWrong)

/-- 'slopchestlaw.WheelParts': WHATEVER THE INPUT: true; the input reads as it did. -/
def wheelPartsSpec : ChangeSpec := { name := "wheelParts", fn := fun _ => fun
  | [d1, d2, d3] => { results := [.lit (.bool true)], args := [d1, d2, d3] }
  | _ => none }
def wheelPartsRow : OpenClaim := { program := "ytdhcbdoiodgfhaa", sum := "0155369c25fb269de1dde7b1832978d8968f45db7ca143bf449d192c3434ebf9", func := "slopchest/slopchestlaw.WheelParts", spec := "wheelParts", inPlace := ["slices.overlaps[slopchest/api.Timer]"], unfollowed := true, recurses := true, apart := false }
def WheelPartsSaid : Prop := wheelPartsRow.holds Try.pinned (OpenSpec.ofChange wheelPartsSpec)

/-- ITS FALSE NEIGHBOUR: 'it returns false'. Refute it at one input. -/
def wheelPartsWrong : ChangeSpec := { name := "wheelParts", fn := fun _ => fun
  | [d1, d2, d3] => { results := [.lit (.bool false)], args := [d1, d2, d3] }
  | _ => none }
def WheelPartsWrongFalsely : Prop := wheelPartsRow.holds Try.pinned (OpenSpec.ofChange wheelPartsWrong)

/-- 'slopchestlaw.WheelDue': WHATEVER THE INPUT: true; the input reads as it did. -/
def wheelDueSpec : ChangeSpec := { name := "wheelDue", fn := fun _ => fun
  | [d1, d2] => { results := [.lit (.bool true)], args := [d1, d2] }
  | _ => none }
def wheelDueRow : OpenClaim := { program := "ytdhcbdoiodgfhaa", sum := "0155369c25fb269de1dde7b1832978d8968f45db7ca143bf449d192c3434ebf9", func := "slopchest/slopchestlaw.WheelDue", spec := "wheelDue", inPlace := ["slices.overlaps[slopchest/api.Timer]"], unfollowed := true, recurses := true, apart := false }
def WheelDueSaid : Prop := wheelDueRow.holds Try.pinned (OpenSpec.ofChange wheelDueSpec)

/-- ITS FALSE NEIGHBOUR: 'it returns false'. Refute it at one input. -/
def wheelDueWrong : ChangeSpec := { name := "wheelDue", fn := fun _ => fun
  | [d1, d2] => { results := [.lit (.bool false)], args := [d1, d2] }
  | _ => none }
def WheelDueWrongFalsely : Prop := wheelDueRow.holds Try.pinned (OpenSpec.ofChange wheelDueWrong)

/-- 'slopchestlaw.WheelCancel': WHATEVER THE INPUT: true; the input reads as it did. -/
def wheelCancelSpec : ChangeSpec := { name := "wheelCancel", fn := fun _ => fun
  | [d1, d2, d3] => { results := [.lit (.bool true)], args := [d1, d2, d3] }
  | _ => none }
def wheelCancelRow : OpenClaim := { program := "ytdhcbdoiodgfhaa", sum := "0155369c25fb269de1dde7b1832978d8968f45db7ca143bf449d192c3434ebf9", func := "slopchest/slopchestlaw.WheelCancel", spec := "wheelCancel", inPlace := ["slices.overlaps[slopchest/api.Timer]"], unfollowed := true, recurses := true, apart := false }
def WheelCancelSaid : Prop := wheelCancelRow.holds Try.pinned (OpenSpec.ofChange wheelCancelSpec)

/-- ITS FALSE NEIGHBOUR: 'it returns false'. Refute it at one input. -/
def wheelCancelWrong : ChangeSpec := { name := "wheelCancel", fn := fun _ => fun
  | [d1, d2, d3] => { results := [.lit (.bool false)], args := [d1, d2, d3] }
  | _ => none }
def WheelCancelWrongFalsely : Prop := wheelCancelRow.holds Try.pinned (OpenSpec.ofChange wheelCancelWrong)

/- THE SECOND FORM. 'bulk': how many values and letters a reading holds, each counted each time it is reached (what is shared counts as often as it is met; a slice's spare places count too). A statement '..UptoSaid' is the law's where the arguments, and the package variables that the reading takes, are together of bulk at most 1048576: NARROWER than '..Said'. Prove '..Said' where nothing that the law and all that it calls make is longer than what came in: it says more and counts as full. Else prove '..UptoSaid'. A law counts once. -/
mutual
def uptoBulk {H : Type} : DataW H → Nat
  | .lit (.string bytes) => bytes.length + 1
  | .lit _ => 1
  | .nil => 1
  | .ptr d => uptoBulk d + 1
  | .slice elems spare => uptoBulkAll elems + uptoBulkAll spare + 1
  | .agg parts => uptoBulkAll parts + 1
  | .iface _ d => uptoBulk d + 1
  | .map entries => uptoBulkEntries entries + 1
  | .held _ => 1
def uptoBulkAll {H : Type} : List (DataW H) → Nat
  | [] => 0
  | d :: r => uptoBulk d + uptoBulkAll r
def uptoBulkEntries {H : Type} : List (Lit × DataW H) → Nat
  | [] => 0
  | x :: r => uptoBulkEntry x + uptoBulkEntries r
def uptoBulkEntry {H : Type} : Lit × DataW H → Nat
  | (.string bytes, d) => bytes.length + uptoBulk d + 1
  | (_, d) => uptoBulk d + 1
 end
def uptoSmall : (H : Type) → List (DataW H) → Bool := fun _ ds => decide (uptoBulkAll ds ≤ 1048576)
def OpenSpec.upto (s : _root_.Go.ChangeSpec) : _root_.Go.OpenSpec := { _root_.Go.OpenSpec.ofChange s with cond := some uptoSmall }

/-- 'slopchestlaw.WheelSpec', WHERE WHAT IT READS IS OF BULK AT MOST 1048576: true; the input reads as it did. -/
def wheelSpecUptoRow : OpenClaim := { program := "ytdhcbdoiodgfhaa", sum := "0155369c25fb269de1dde7b1832978d8968f45db7ca143bf449d192c3434ebf9", func := "slopchest/slopchestlaw.WheelSpec", spec := "wheelSpec", inPlace := ["slices.overlaps[slopchest/api.Timer]"], unfollowed := true, recurses := true, apart := false, narrowed := true }
def WheelSpecUptoSaid : Prop := wheelSpecUptoRow.holds Try.pinned (OpenSpec.upto wheelSpecSpec)

/-- 'slopchestlaw.WheelParts', WHERE WHAT IT READS IS OF BULK AT MOST 1048576: true; the input reads as it did. -/
def wheelPartsUptoRow : OpenClaim := { program := "ytdhcbdoiodgfhaa", sum := "0155369c25fb269de1dde7b1832978d8968f45db7ca143bf449d192c3434ebf9", func := "slopchest/slopchestlaw.WheelParts", spec := "wheelParts", inPlace := ["slices.overlaps[slopchest/api.Timer]"], unfollowed := true, recurses := true, apart := false, narrowed := true }
def WheelPartsUptoSaid : Prop := wheelPartsUptoRow.holds Try.pinned (OpenSpec.upto wheelPartsSpec)

/-- 'slopchestlaw.WheelDue', WHERE WHAT IT READS IS OF BULK AT MOST 1048576: true; the input reads as it did. -/
def wheelDueUptoRow : OpenClaim := { program := "ytdhcbdoiodgfhaa", sum := "0155369c25fb269de1dde7b1832978d8968f45db7ca143bf449d192c3434ebf9", func := "slopchest/slopchestlaw.WheelDue", spec := "wheelDue", inPlace := ["slices.overlaps[slopchest/api.Timer]"], unfollowed := true, recurses := true, apart := false, narrowed := true }
def WheelDueUptoSaid : Prop := wheelDueUptoRow.holds Try.pinned (OpenSpec.upto wheelDueSpec)

/-- 'slopchestlaw.WheelCancel', WHERE WHAT IT READS IS OF BULK AT MOST 1048576: true; the input reads as it did. -/
def wheelCancelUptoRow : OpenClaim := { program := "ytdhcbdoiodgfhaa", sum := "0155369c25fb269de1dde7b1832978d8968f45db7ca143bf449d192c3434ebf9", func := "slopchest/slopchestlaw.WheelCancel", spec := "wheelCancel", inPlace := ["slices.overlaps[slopchest/api.Timer]"], unfollowed := true, recurses := true, apart := false, narrowed := true }
def WheelCancelUptoSaid : Prop := wheelCancelUptoRow.holds Try.pinned (OpenSpec.upto wheelCancelSpec)

end Rows
end Go.Proofs.Ytdhcbdoiodgfhaa
