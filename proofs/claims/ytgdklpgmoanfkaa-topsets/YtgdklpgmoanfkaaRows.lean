/-
  No cell of these rows narrows 'for every input' (looked for: loops, veiled, ifaces, maps, wideKeys, modest, calm, conditions, laid).
  DERIVED. THE GIVEN ROWS OF THIS SEAT. 5 by the template 'for every input the law returns true; each argument reads behind the call as it read before'; 0 by the template 'total and deterministic' (their statements: YtgdklpgmoanfkaaTotals.lean).
  GIVEN WITH THE SEED: the statements are not yours to turn. If you find one false, say at which input.
  Laid BY PROGRAM, IN A SANDBOX (cutbox-rows.mjs): the forced cells as the released guide's own fill.sh prints them over the translation 0b5b126d56aea790… (all of the seat's roots in one cut). By AI agents, Wed Nov 11 2026. No macro, syntax, notation, axiom, sorry.
-/
import Derived.Test.YtgdklpgmoanfkaaChecked
import GoSem.Claim
import GoSem.ClaimJoined
import GoSem.ClaimMapViews
import Derived.JoinedTies
import Derived.KernelRfl
namespace Go.Proofs.Ytgdklpgmoanfkaa
/- THE CELL 'sum', in the pinned program and in every row, IS THE sha256 OF THE DUMP (.gsa) THAT YtgdklpgmoanfkaaProg.lean LOADS. Nothing in Lean hashes anything: it is a label: what it is worth is what the hold of that sum in a sandbox is worth. -/
noncomputable def Try.pinned : Pinned := { name := "ytgdklpgmoanfkaa", sum := "0b5b126d56aea7906fafe8e90906e2e2fa8ea9b55f3ad66b11df1be47b2a9755", checked := Try.checked }
namespace Rows
def none {H : Type} : Left H := { results := [], args := [] }

/-- 'slopchestlaw.WorksetSpec': WHATEVER THE INPUT: true; the input reads as it did. -/
def worksetSpecSpec : ChangeSpec := { name := "worksetSpec", fn := fun _ => fun
  | [d1, d2, d3, d4] => { results := [.lit (.bool true)], args := [d1, d2, d3, d4] }
  | _ => none }
def worksetSpecRow : OpenClaim := { program := "ytgdklpgmoanfkaa", sum := "0b5b126d56aea7906fafe8e90906e2e2fa8ea9b55f3ad66b11df1be47b2a9755", func := "slopchest/slopchestlaw.WorksetSpec", spec := "worksetSpec", recurses := true, apart := false }
def WorksetSpecSaid : Prop := worksetSpecRow.holds Try.pinned (OpenSpec.ofChange worksetSpecSpec)

/-- ITS FALSE NEIGHBOUR: 'it returns false'. Refute it at one input. -/
def worksetSpecWrong : ChangeSpec := { name := "worksetSpec", fn := fun _ => fun
  | [d1, d2, d3, d4] => { results := [.lit (.bool false)], args := [d1, d2, d3, d4] }
  | _ => none }
def WorksetSpecWrongFalsely : Prop := worksetSpecRow.holds Try.pinned (OpenSpec.ofChange worksetSpecWrong)

/-- 'slopchestlaw.WorksetGrows': WHATEVER THE INPUT: true; the input reads as it did. -/
def worksetGrowsSpec : ChangeSpec := { name := "worksetGrows", fn := fun _ => fun
  | [d1, d2, d3, d4] => { results := [.lit (.bool true)], args := [d1, d2, d3, d4] }
  | _ => none }
def worksetGrowsRow : OpenClaim := { program := "ytgdklpgmoanfkaa", sum := "0b5b126d56aea7906fafe8e90906e2e2fa8ea9b55f3ad66b11df1be47b2a9755", func := "slopchest/slopchestlaw.WorksetGrows", spec := "worksetGrows", recurses := true, apart := false }
def WorksetGrowsSaid : Prop := worksetGrowsRow.holds Try.pinned (OpenSpec.ofChange worksetGrowsSpec)

/-- ITS FALSE NEIGHBOUR: 'it returns false'. Refute it at one input. -/
def worksetGrowsWrong : ChangeSpec := { name := "worksetGrows", fn := fun _ => fun
  | [d1, d2, d3, d4] => { results := [.lit (.bool false)], args := [d1, d2, d3, d4] }
  | _ => none }
def WorksetGrowsWrongFalsely : Prop := worksetGrowsRow.holds Try.pinned (OpenSpec.ofChange worksetGrowsWrong)

/-- 'slopchestlaw.WorksetRoom': WHATEVER THE INPUT: true; the input reads as it did. -/
def worksetRoomSpec : ChangeSpec := { name := "worksetRoom", fn := fun _ => fun
  | [d1, d2, d3] => { results := [.lit (.bool true)], args := [d1, d2, d3] }
  | _ => none }
def worksetRoomRow : OpenClaim := { program := "ytgdklpgmoanfkaa", sum := "0b5b126d56aea7906fafe8e90906e2e2fa8ea9b55f3ad66b11df1be47b2a9755", func := "slopchest/slopchestlaw.WorksetRoom", spec := "worksetRoom", inPlace := ["slices.overlaps[int]"], recurses := true, apart := false }
def WorksetRoomSaid : Prop := worksetRoomRow.holds Try.pinned (OpenSpec.ofChange worksetRoomSpec)

/-- ITS FALSE NEIGHBOUR: 'it returns false'. Refute it at one input. -/
def worksetRoomWrong : ChangeSpec := { name := "worksetRoom", fn := fun _ => fun
  | [d1, d2, d3] => { results := [.lit (.bool false)], args := [d1, d2, d3] }
  | _ => none }
def WorksetRoomWrongFalsely : Prop := worksetRoomRow.holds Try.pinned (OpenSpec.ofChange worksetRoomWrong)

/-- 'slopchestlaw.WorksetSteps': WHATEVER THE INPUT: true; the input reads as it did. -/
def worksetStepsSpec : ChangeSpec := { name := "worksetSteps", fn := fun _ => fun
  | [d1, d2] => { results := [.lit (.bool true)], args := [d1, d2] }
  | _ => none }
def worksetStepsRow : OpenClaim := { program := "ytgdklpgmoanfkaa", sum := "0b5b126d56aea7906fafe8e90906e2e2fa8ea9b55f3ad66b11df1be47b2a9755", func := "slopchest/slopchestlaw.WorksetSteps", spec := "worksetSteps", recurses := true, apart := false }
def WorksetStepsSaid : Prop := worksetStepsRow.holds Try.pinned (OpenSpec.ofChange worksetStepsSpec)

/-- ITS FALSE NEIGHBOUR: 'it returns false'. Refute it at one input. -/
def worksetStepsWrong : ChangeSpec := { name := "worksetSteps", fn := fun _ => fun
  | [d1, d2] => { results := [.lit (.bool false)], args := [d1, d2] }
  | _ => none }
def WorksetStepsWrongFalsely : Prop := worksetStepsRow.holds Try.pinned (OpenSpec.ofChange worksetStepsWrong)

/-- 'slopchesttop.TopSets': WHATEVER THE INPUT: true; the input reads as it did. -/
def topSetsSpec : ChangeSpec := { name := "topSets", fn := fun _ => fun
  | [d1, d2] => { results := [.lit (.bool true)], args := [d1, d2] }
  | _ => none }
def topSetsRow : OpenClaim := { program := "ytgdklpgmoanfkaa", sum := "0b5b126d56aea7906fafe8e90906e2e2fa8ea9b55f3ad66b11df1be47b2a9755", func := "slopchest/slopchesttop.TopSets", spec := "topSets", inPlace := ["slices.overlaps[int]"], unfollowed := true, recurses := true, apart := false }
def TopSetsSaid : Prop := topSetsRow.holds Try.pinned (OpenSpec.ofChange topSetsSpec)

/-- ITS FALSE NEIGHBOUR: 'it returns false'. Refute it at one input. -/
def topSetsWrong : ChangeSpec := { name := "topSets", fn := fun _ => fun
  | [d1, d2] => { results := [.lit (.bool false)], args := [d1, d2] }
  | _ => none }
def TopSetsWrongFalsely : Prop := topSetsRow.holds Try.pinned (OpenSpec.ofChange topSetsWrong)

/- THE SECOND FORM. 'bulk': how many values and letters a reading holds, each counted each time it is reached (what is shared counts as often as it is met; a slice's spare places count too). A statement '..UptoSaid' is the law's where the arguments, and the package variables that the reading takes, are together of bulk at most 1048576: NARROWER than '..Said'. Prove '..Said' where nothing that the law and all that it calls make is longer than what came in: it says more and counts as full. Else prove '..UptoSaid'. A law counts once. -/
mutual
def uptoBulk {H : Type} : DataW H → Nat
  | .lit (.string bytes) => bytes.length + 1
  | .lit _ => 1
  | .nil => 1
  | .ptr d => uptoBulk d + 1
  | .slice elems spare => uptoBulkAll elems + uptoBulkAll spare + 1
  | .agg parts => uptoBulkAll parts + 1
  | .iface _ d => uptoBulk d + 1
  | .map entries => uptoBulkEntries entries + 1
  | .held _ => 1
def uptoBulkAll {H : Type} : List (DataW H) → Nat
  | [] => 0
  | d :: r => uptoBulk d + uptoBulkAll r
def uptoBulkEntries {H : Type} : List (Lit × DataW H) → Nat
  | [] => 0
  | x :: r => uptoBulkEntry x + uptoBulkEntries r
def uptoBulkEntry {H : Type} : Lit × DataW H → Nat
  | (.string bytes, d) => bytes.length + uptoBulk d + 1
  | (_, d) => uptoBulk d + 1
 end
def uptoSmall : (H : Type) → List (DataW H) → Bool := fun _ ds => decide (uptoBulkAll ds ≤ 1048576)
def OpenSpec.upto (s : _root_.Go.ChangeSpec) : _root_.Go.OpenSpec := { _root_.Go.OpenSpec.ofChange s with cond := some uptoSmall }

/-- 'slopchestlaw.WorksetSpec', WHERE WHAT IT READS IS OF BULK AT MOST 1048576: true; the input reads as it did. -/
def worksetSpecUptoRow : OpenClaim := { program := "ytgdklpgmoanfkaa", sum := "0b5b126d56aea7906fafe8e90906e2e2fa8ea9b55f3ad66b11df1be47b2a9755", func := "slopchest/slopchestlaw.WorksetSpec", spec := "worksetSpec", recurses := true, apart := false, narrowed := true }
def WorksetSpecUptoSaid : Prop := worksetSpecUptoRow.holds Try.pinned (OpenSpec.upto worksetSpecSpec)

/-- 'slopchestlaw.WorksetGrows', WHERE WHAT IT READS IS OF BULK AT MOST 1048576: true; the input reads as it did. -/
def worksetGrowsUptoRow : OpenClaim := { program := "ytgdklpgmoanfkaa", sum := "0b5b126d56aea7906fafe8e90906e2e2fa8ea9b55f3ad66b11df1be47b2a9755", func := "slopchest/slopchestlaw.WorksetGrows", spec := "worksetGrows", recurses := true, apart := false, narrowed := true }
def WorksetGrowsUptoSaid : Prop := worksetGrowsUptoRow.holds Try.pinned (OpenSpec.upto worksetGrowsSpec)

/-- 'slopchestlaw.WorksetRoom', WHERE WHAT IT READS IS OF BULK AT MOST 1048576: true; the input reads as it did. -/
def worksetRoomUptoRow : OpenClaim := { program := "ytgdklpgmoanfkaa", sum := "0b5b126d56aea7906fafe8e90906e2e2fa8ea9b55f3ad66b11df1be47b2a9755", func := "slopchest/slopchestlaw.WorksetRoom", spec := "worksetRoom", inPlace := ["slices.overlaps[int]"], recurses := true, apart := false, narrowed := true }
def WorksetRoomUptoSaid : Prop := worksetRoomUptoRow.holds Try.pinned (OpenSpec.upto worksetRoomSpec)

/-- 'slopchestlaw.WorksetSteps', WHERE WHAT IT READS IS OF BULK AT MOST 1048576: true; the input reads as it did. -/
def worksetStepsUptoRow : OpenClaim := { program := "ytgdklpgmoanfkaa", sum := "0b5b126d56aea7906fafe8e90906e2e2fa8ea9b55f3ad66b11df1be47b2a9755", func := "slopchest/slopchestlaw.WorksetSteps", spec := "worksetSteps", recurses := true, apart := false, narrowed := true }
def WorksetStepsUptoSaid : Prop := worksetStepsUptoRow.holds Try.pinned (OpenSpec.upto worksetStepsSpec)

/-- 'slopchesttop.TopSets', WHERE WHAT IT READS IS OF BULK AT MOST 1048576: true; the input reads as it did. -/
def topSetsUptoRow : OpenClaim := { program := "ytgdklpgmoanfkaa", sum := "0b5b126d56aea7906fafe8e90906e2e2fa8ea9b55f3ad66b11df1be47b2a9755", func := "slopchest/slopchesttop.TopSets", spec := "topSets", inPlace := ["slices.overlaps[int]"], unfollowed := true, recurses := true, apart := false, narrowed := true }
def TopSetsUptoSaid : Prop := topSetsUptoRow.holds Try.pinned (OpenSpec.upto topSetsSpec)

end Rows
end Go.Proofs.Ytgdklpgmoanfkaa
