/-
  No cell of these rows narrows 'for every input' (looked for: loops, veiled, ifaces, maps, wideKeys, modest, calm, conditions, laid).
  DERIVED. THE GIVEN ROWS OF THIS SEAT. 4 by the template 'for every input the law returns true; each argument reads behind the call as it read before'; 0 by the template 'total and deterministic' (their statements: YtpdcekhdjpakpaaTotals.lean).
  GIVEN WITH THE SEED: the statements are not yours to turn. If you find one false, say at which input.
  Laid BY PROGRAM, IN A SANDBOX (cutbox-rows.mjs): the forced cells as the released guide's own fill.sh prints them over the translation d21fc900b287043b… (all of the seat's roots in one cut). By AI agents, Wed Nov 11 2026. No macro, syntax, notation, axiom, sorry.
-/
import Derived.Test.YtpdcekhdjpakpaaChecked
import GoSem.Claim
import GoSem.ClaimJoined
import GoSem.ClaimMapViews
import Derived.JoinedTies
import Derived.KernelRfl
namespace Go.Proofs.Ytpdcekhdjpakpaa
/- THE CELL 'sum', in the pinned program and in every row, IS THE sha256 OF THE DUMP (.gsa) THAT YtpdcekhdjpakpaaProg.lean LOADS. Nothing in Lean hashes anything: it is a label: what it is worth is what the hold of that sum in a sandbox is worth. -/
noncomputable def Try.pinned : Pinned := { name := "ytpdcekhdjpakpaa", sum := "d21fc900b287043b4c80c37e9f43feec1935dd773fb5497adefd96207c50e43f", checked := Try.checked }
namespace Rows
def none {H : Type} : Left H := { results := [], args := [] }

/-- 'slopchestlaw.HashSpec': WHATEVER THE INPUT: true; the input reads as it did. -/
def hashSpecSpec : ChangeSpec := { name := "hashSpec", fn := fun _ => fun
  | [d1, d2, d3, d4] => { results := [.lit (.bool true)], args := [d1, d2, d3, d4] }
  | _ => none }
def hashSpecRow : OpenClaim := { program := "ytpdcekhdjpakpaa", sum := "d21fc900b287043b4c80c37e9f43feec1935dd773fb5497adefd96207c50e43f", func := "slopchest/slopchestlaw.HashSpec", spec := "hashSpec", apart := false }
def HashSpecSaid : Prop := hashSpecRow.holds Try.pinned (OpenSpec.ofChange hashSpecSpec)

/-- ITS FALSE NEIGHBOUR: 'it returns false'. Refute it at one input. -/
def hashSpecWrong : ChangeSpec := { name := "hashSpec", fn := fun _ => fun
  | [d1, d2, d3, d4] => { results := [.lit (.bool false)], args := [d1, d2, d3, d4] }
  | _ => none }
def HashSpecWrongFalsely : Prop := hashSpecRow.holds Try.pinned (OpenSpec.ofChange hashSpecWrong)

/-- 'slopchestlaw.HashInverse': WHATEVER THE INPUT: true; the input reads as it did. -/
def hashInverseSpec : ChangeSpec := { name := "hashInverse", fn := fun _ => fun
  | [d1, d2] => { results := [.lit (.bool true)], args := [d1, d2] }
  | _ => none }
def hashInverseRow : OpenClaim := { program := "ytpdcekhdjpakpaa", sum := "d21fc900b287043b4c80c37e9f43feec1935dd773fb5497adefd96207c50e43f", func := "slopchest/slopchestlaw.HashInverse", spec := "hashInverse", apart := false }
def HashInverseSaid : Prop := hashInverseRow.holds Try.pinned (OpenSpec.ofChange hashInverseSpec)

/-- ITS FALSE NEIGHBOUR: 'it returns false'. Refute it at one input. -/
def hashInverseWrong : ChangeSpec := { name := "hashInverse", fn := fun _ => fun
  | [d1, d2] => { results := [.lit (.bool false)], args := [d1, d2] }
  | _ => none }
def HashInverseWrongFalsely : Prop := hashInverseRow.holds Try.pinned (OpenSpec.ofChange hashInverseWrong)

/-- 'slopchestlaw.HashReduce': WHATEVER THE INPUT: true; the input reads as it did. -/
def hashReduceSpec : ChangeSpec := { name := "hashReduce", fn := fun _ => fun
  | [d1, d2, d3] => { results := [.lit (.bool true)], args := [d1, d2, d3] }
  | _ => none }
def hashReduceRow : OpenClaim := { program := "ytpdcekhdjpakpaa", sum := "d21fc900b287043b4c80c37e9f43feec1935dd773fb5497adefd96207c50e43f", func := "slopchest/slopchestlaw.HashReduce", spec := "hashReduce", apart := false }
def HashReduceSaid : Prop := hashReduceRow.holds Try.pinned (OpenSpec.ofChange hashReduceSpec)

/-- ITS FALSE NEIGHBOUR: 'it returns false'. Refute it at one input. -/
def hashReduceWrong : ChangeSpec := { name := "hashReduce", fn := fun _ => fun
  | [d1, d2, d3] => { results := [.lit (.bool false)], args := [d1, d2, d3] }
  | _ => none }
def HashReduceWrongFalsely : Prop := hashReduceRow.holds Try.pinned (OpenSpec.ofChange hashReduceWrong)

/-- 'slopchestlaw.HashSuffix': WHATEVER THE INPUT: true; the input reads as it did. -/
def hashSuffixSpec : ChangeSpec := { name := "hashSuffix", fn := fun _ => fun
  | [d1, d2, d3] => { results := [.lit (.bool true)], args := [d1, d2, d3] }
  | _ => none }
def hashSuffixRow : OpenClaim := { program := "ytpdcekhdjpakpaa", sum := "d21fc900b287043b4c80c37e9f43feec1935dd773fb5497adefd96207c50e43f", func := "slopchest/slopchestlaw.HashSuffix", spec := "hashSuffix", apart := false }
def HashSuffixSaid : Prop := hashSuffixRow.holds Try.pinned (OpenSpec.ofChange hashSuffixSpec)

/-- ITS FALSE NEIGHBOUR: 'it returns false'. Refute it at one input. -/
def hashSuffixWrong : ChangeSpec := { name := "hashSuffix", fn := fun _ => fun
  | [d1, d2, d3] => { results := [.lit (.bool false)], args := [d1, d2, d3] }
  | _ => none }
def HashSuffixWrongFalsely : Prop := hashSuffixRow.holds Try.pinned (OpenSpec.ofChange hashSuffixWrong)

/- THE SECOND FORM. 'bulk': how many values and letters a reading holds, each counted each time it is reached (what is shared counts as often as it is met; a slice's spare places count too). A statement '..UptoSaid' is the law's where the arguments, and the package variables that the reading takes, are together of bulk at most 1048576: NARROWER than '..Said'. Prove '..Said' where nothing that the law and all that it calls make is longer than what came in: it says more and counts as full. Else prove '..UptoSaid'. A law counts once. -/
mutual
def uptoBulk {H : Type} : DataW H → Nat
  | .lit (.string bytes) => bytes.length + 1
  | .lit _ => 1
  | .nil => 1
  | .ptr d => uptoBulk d + 1
  | .slice elems spare => uptoBulkAll elems + uptoBulkAll spare + 1
  | .agg parts => uptoBulkAll parts + 1
  | .iface _ d => uptoBulk d + 1
  | .map entries => uptoBulkEntries entries + 1
  | .held _ => 1
def uptoBulkAll {H : Type} : List (DataW H) → Nat
  | [] => 0
  | d :: r => uptoBulk d + uptoBulkAll r
def uptoBulkEntries {H : Type} : List (Lit × DataW H) → Nat
  | [] => 0
  | x :: r => uptoBulkEntry x + uptoBulkEntries r
def uptoBulkEntry {H : Type} : Lit × DataW H → Nat
  | (.string bytes, d) => bytes.length + uptoBulk d + 1
  | (_, d) => uptoBulk d + 1
 end
def uptoSmall : (H : Type) → List (DataW H) → Bool := fun _ ds => decide (uptoBulkAll ds ≤ 1048576)
def OpenSpec.upto (s : _root_.Go.ChangeSpec) : _root_.Go.OpenSpec := { _root_.Go.OpenSpec.ofChange s with cond := some uptoSmall }

/-- 'slopchestlaw.HashSpec', WHERE WHAT IT READS IS OF BULK AT MOST 1048576: true; the input reads as it did. -/
def hashSpecUptoRow : OpenClaim := { program := "ytpdcekhdjpakpaa", sum := "d21fc900b287043b4c80c37e9f43feec1935dd773fb5497adefd96207c50e43f", func := "slopchest/slopchestlaw.HashSpec", spec := "hashSpec", apart := false, narrowed := true }
def HashSpecUptoSaid : Prop := hashSpecUptoRow.holds Try.pinned (OpenSpec.upto hashSpecSpec)

/-- 'slopchestlaw.HashInverse', WHERE WHAT IT READS IS OF BULK AT MOST 1048576: true; the input reads as it did. -/
def hashInverseUptoRow : OpenClaim := { program := "ytpdcekhdjpakpaa", sum := "d21fc900b287043b4c80c37e9f43feec1935dd773fb5497adefd96207c50e43f", func := "slopchest/slopchestlaw.HashInverse", spec := "hashInverse", apart := false, narrowed := true }
def HashInverseUptoSaid : Prop := hashInverseUptoRow.holds Try.pinned (OpenSpec.upto hashInverseSpec)

/-- 'slopchestlaw.HashReduce', WHERE WHAT IT READS IS OF BULK AT MOST 1048576: true; the input reads as it did. -/
def hashReduceUptoRow : OpenClaim := { program := "ytpdcekhdjpakpaa", sum := "d21fc900b287043b4c80c37e9f43feec1935dd773fb5497adefd96207c50e43f", func := "slopchest/slopchestlaw.HashReduce", spec := "hashReduce", apart := false, narrowed := true }
def HashReduceUptoSaid : Prop := hashReduceUptoRow.holds Try.pinned (OpenSpec.upto hashReduceSpec)

/-- 'slopchestlaw.HashSuffix', WHERE WHAT IT READS IS OF BULK AT MOST 1048576: true; the input reads as it did. -/
def hashSuffixUptoRow : OpenClaim := { program := "ytpdcekhdjpakpaa", sum := "d21fc900b287043b4c80c37e9f43feec1935dd773fb5497adefd96207c50e43f", func := "slopchest/slopchestlaw.HashSuffix", spec := "hashSuffix", apart := false, narrowed := true }
def HashSuffixUptoSaid : Prop := hashSuffixUptoRow.holds Try.pinned (OpenSpec.upto hashSuffixSpec)

end Rows
end Go.Proofs.Ytpdcekhdjpakpaa
