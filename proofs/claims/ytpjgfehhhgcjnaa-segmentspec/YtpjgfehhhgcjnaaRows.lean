/-
  No cell of these rows narrows 'for every input' (looked for: loops, veiled, ifaces, maps, wideKeys, modest, calm, conditions, laid).
  DERIVED. THE GIVEN ROWS OF THIS SEAT. 4 by the template 'for every input the law returns true; each argument reads behind the call as it read before'; 0 by the template 'total and deterministic' (their statements: YtpjgfehhhgcjnaaTotals.lean).
  GIVEN WITH THE SEED: the statements are not yours to turn. If you find one false, say at which input.
  Laid BY PROGRAM, IN A SANDBOX (cutbox-rows.mjs): the forced cells as the released guide's own fill.sh prints them over the translation 29642543b7fe91eb… (all of the seat's roots in one cut). By AI agents, Wed Nov 11 2026. No macro, syntax, notation, axiom, sorry.
-/
import Derived.Test.YtpjgfehhhgcjnaaChecked
import GoSem.Claim
import GoSem.ClaimJoined
import GoSem.ClaimMapViews
import Derived.JoinedTies
import Derived.KernelRfl
namespace Go.Proofs.Ytpjgfehhhgcjnaa
/- THE CELL 'sum', in the pinned program and in every row, IS THE sha256 OF THE DUMP (.gsa) THAT YtpjgfehhhgcjnaaProg.lean LOADS. Nothing in Lean hashes anything: it is a label: what it is worth is what the hold of that sum in a sandbox is worth. -/
noncomputable def Try.pinned : Pinned := { name := "ytpjgfehhhgcjnaa", sum := "29642543b7fe91eb2ed2e9451705ced684ff5de23bb2f36464af687b853a0a46", checked := Try.checked }
namespace Rows
def none {H : Type} : Left H := { results := [], args := [] }

/-- 'slopchestlaw.SegmentSpec': WHATEVER THE INPUT: true; the input reads as it did. -/
def segmentSpecSpec : ChangeSpec := { name := "segmentSpec", fn := fun _ => fun
  | [d1, d2, d3] => { results := [.lit (.bool true)], args := [d1, d2, d3] }
  | _ => none }
def segmentSpecRow : OpenClaim := { program := "ytpjgfehhhgcjnaa", sum := "29642543b7fe91eb2ed2e9451705ced684ff5de23bb2f36464af687b853a0a46", func := "slopchest/slopchestlaw.SegmentSpec", spec := "segmentSpec", inPlace := ["slices.overlaps[int]"], apart := false }
def SegmentSpecSaid : Prop := segmentSpecRow.holds Try.pinned (OpenSpec.ofChange segmentSpecSpec)

/-- ITS FALSE NEIGHBOUR: 'it returns false'. Refute it at one input. -/
def segmentSpecWrong : ChangeSpec := { name := "segmentSpec", fn := fun _ => fun
  | [d1, d2, d3] => { results := [.lit (.bool false)], args := [d1, d2, d3] }
  | _ => none }
def SegmentSpecWrongFalsely : Prop := segmentSpecRow.holds Try.pinned (OpenSpec.ofChange segmentSpecWrong)

/-- 'slopchestlaw.SegmentScan': WHATEVER THE INPUT: true; the input reads as it did. -/
def segmentScanSpec : ChangeSpec := { name := "segmentScan", fn := fun _ => fun
  | [d1, d2] => { results := [.lit (.bool true)], args := [d1, d2] }
  | _ => none }
def segmentScanRow : OpenClaim := { program := "ytpjgfehhhgcjnaa", sum := "29642543b7fe91eb2ed2e9451705ced684ff5de23bb2f36464af687b853a0a46", func := "slopchest/slopchestlaw.SegmentScan", spec := "segmentScan", inPlace := ["slices.overlaps[int]"], apart := false }
def SegmentScanSaid : Prop := segmentScanRow.holds Try.pinned (OpenSpec.ofChange segmentScanSpec)

/-- ITS FALSE NEIGHBOUR: 'it returns false'. Refute it at one input. -/
def segmentScanWrong : ChangeSpec := { name := "segmentScan", fn := fun _ => fun
  | [d1, d2] => { results := [.lit (.bool false)], args := [d1, d2] }
  | _ => none }
def SegmentScanWrongFalsely : Prop := segmentScanRow.holds Try.pinned (OpenSpec.ofChange segmentScanWrong)

/-- 'slopchestlaw.SegmentKeeps': WHATEVER THE INPUT: true; the input reads as it did. -/
def segmentKeepsSpec : ChangeSpec := { name := "segmentKeeps", fn := fun _ => fun
  | [d1, d2] => { results := [.lit (.bool true)], args := [d1, d2] }
  | _ => none }
def segmentKeepsRow : OpenClaim := { program := "ytpjgfehhhgcjnaa", sum := "29642543b7fe91eb2ed2e9451705ced684ff5de23bb2f36464af687b853a0a46", func := "slopchest/slopchestlaw.SegmentKeeps", spec := "segmentKeeps", inPlace := ["slices.overlaps[int]"], apart := false }
def SegmentKeepsSaid : Prop := segmentKeepsRow.holds Try.pinned (OpenSpec.ofChange segmentKeepsSpec)

/-- ITS FALSE NEIGHBOUR: 'it returns false'. Refute it at one input. -/
def segmentKeepsWrong : ChangeSpec := { name := "segmentKeeps", fn := fun _ => fun
  | [d1, d2] => { results := [.lit (.bool false)], args := [d1, d2] }
  | _ => none }
def SegmentKeepsWrongFalsely : Prop := segmentKeepsRow.holds Try.pinned (OpenSpec.ofChange segmentKeepsWrong)

/-- 'slopchestlaw.SegmentParts': WHATEVER THE INPUT: true; the input reads as it did. -/
def segmentPartsSpec : ChangeSpec := { name := "segmentParts", fn := fun _ => fun
  | [d1, d2, d3, d4] => { results := [.lit (.bool true)], args := [d1, d2, d3, d4] }
  | _ => none }
def segmentPartsRow : OpenClaim := { program := "ytpjgfehhhgcjnaa", sum := "29642543b7fe91eb2ed2e9451705ced684ff5de23bb2f36464af687b853a0a46", func := "slopchest/slopchestlaw.SegmentParts", spec := "segmentParts", inPlace := ["slices.overlaps[int]"], apart := false }
def SegmentPartsSaid : Prop := segmentPartsRow.holds Try.pinned (OpenSpec.ofChange segmentPartsSpec)

/-- ITS FALSE NEIGHBOUR: 'it returns false'. Refute it at one input. -/
def segmentPartsWrong : ChangeSpec := { name := "segmentParts", fn := fun _ => fun
  | [d1, d2, d3, d4] => { results := [.lit (.bool false)], args := [d1, d2, d3, d4] }
  | _ => none }
def SegmentPartsWrongFalsely : Prop := segmentPartsRow.holds Try.pinned (OpenSpec.ofChange segmentPartsWrong)

/- THE SECOND FORM. 'bulk': how many values and letters a reading holds, each counted each time it is reached (what is shared counts as often as it is met; a slice's spare places count too). A statement '..UptoSaid' is the law's where the arguments, and the package variables that the reading takes, are together of bulk at most 1048576: NARROWER than '..Said'. Prove '..Said' where nothing that the law and all that it calls make is longer than what came in: it says more and counts as full. Else prove '..UptoSaid'. A law counts once. -/
mutual
def uptoBulk {H : Type} : DataW H → Nat
  | .lit (.string bytes) => bytes.length + 1
  | .lit _ => 1
  | .nil => 1
  | .ptr d => uptoBulk d + 1
  | .slice elems spare => uptoBulkAll elems + uptoBulkAll spare + 1
  | .agg parts => uptoBulkAll parts + 1
  | .iface _ d => uptoBulk d + 1
  | .map entries => uptoBulkEntries entries + 1
  | .held _ => 1
def uptoBulkAll {H : Type} : List (DataW H) → Nat
  | [] => 0
  | d :: r => uptoBulk d + uptoBulkAll r
def uptoBulkEntries {H : Type} : List (Lit × DataW H) → Nat
  | [] => 0
  | x :: r => uptoBulkEntry x + uptoBulkEntries r
def uptoBulkEntry {H : Type} : Lit × DataW H → Nat
  | (.string bytes, d) => bytes.length + uptoBulk d + 1
  | (_, d) => uptoBulk d + 1
 end
def uptoSmall : (H : Type) → List (DataW H) → Bool := fun _ ds => decide (uptoBulkAll ds ≤ 1048576)
def OpenSpec.upto (s : _root_.Go.ChangeSpec) : _root_.Go.OpenSpec := { _root_.Go.OpenSpec.ofChange s with cond := some uptoSmall }

/-- 'slopchestlaw.SegmentSpec', WHERE WHAT IT READS IS OF BULK AT MOST 1048576: true; the input reads as it did. -/
def segmentSpecUptoRow : OpenClaim := { program := "ytpjgfehhhgcjnaa", sum := "29642543b7fe91eb2ed2e9451705ced684ff5de23bb2f36464af687b853a0a46", func := "slopchest/slopchestlaw.SegmentSpec", spec := "segmentSpec", inPlace := ["slices.overlaps[int]"], apart := false, narrowed := true }
def SegmentSpecUptoSaid : Prop := segmentSpecUptoRow.holds Try.pinned (OpenSpec.upto segmentSpecSpec)

/-- 'slopchestlaw.SegmentScan', WHERE WHAT IT READS IS OF BULK AT MOST 1048576: true; the input reads as it did. -/
def segmentScanUptoRow : OpenClaim := { program := "ytpjgfehhhgcjnaa", sum := "29642543b7fe91eb2ed2e9451705ced684ff5de23bb2f36464af687b853a0a46", func := "slopchest/slopchestlaw.SegmentScan", spec := "segmentScan", inPlace := ["slices.overlaps[int]"], apart := false, narrowed := true }
def SegmentScanUptoSaid : Prop := segmentScanUptoRow.holds Try.pinned (OpenSpec.upto segmentScanSpec)

/-- 'slopchestlaw.SegmentKeeps', WHERE WHAT IT READS IS OF BULK AT MOST 1048576: true; the input reads as it did. -/
def segmentKeepsUptoRow : OpenClaim := { program := "ytpjgfehhhgcjnaa", sum := "29642543b7fe91eb2ed2e9451705ced684ff5de23bb2f36464af687b853a0a46", func := "slopchest/slopchestlaw.SegmentKeeps", spec := "segmentKeeps", inPlace := ["slices.overlaps[int]"], apart := false, narrowed := true }
def SegmentKeepsUptoSaid : Prop := segmentKeepsUptoRow.holds Try.pinned (OpenSpec.upto segmentKeepsSpec)

/-- 'slopchestlaw.SegmentParts', WHERE WHAT IT READS IS OF BULK AT MOST 1048576: true; the input reads as it did. -/
def segmentPartsUptoRow : OpenClaim := { program := "ytpjgfehhhgcjnaa", sum := "29642543b7fe91eb2ed2e9451705ced684ff5de23bb2f36464af687b853a0a46", func := "slopchest/slopchestlaw.SegmentParts", spec := "segmentParts", inPlace := ["slices.overlaps[int]"], apart := false, narrowed := true }
def SegmentPartsUptoSaid : Prop := segmentPartsUptoRow.holds Try.pinned (OpenSpec.upto segmentPartsSpec)

end Rows
end Go.Proofs.Ytpjgfehhhgcjnaa
