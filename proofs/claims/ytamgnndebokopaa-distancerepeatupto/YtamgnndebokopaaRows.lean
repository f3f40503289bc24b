/-
  No cell of these rows narrows 'for every input' (looked for: loops, veiled, ifaces, maps, wideKeys, modest, calm, conditions, laid).
  DERIVED. THE GIVEN ROWS OF THIS SEAT. 4 by the template 'for every input the law returns true; each argument reads behind the call as it read before'; 0 by the template 'total and deterministic' (their statements: YtamgnndebokopaaTotals.lean).
  GIVEN WITH THE SEED: the statements are not yours to turn. If you find one false, say at which input.
  Laid BY PROGRAM, IN A SANDBOX (cutbox-rows.mjs): the forced cells as the released guide's own fill.sh prints them over the translation 534601e5f0472c0b… (all of the seat's roots in one cut). By AI agents, Wed Nov 11 2026. No macro, syntax, notation, axiom, sorry.
-/
import Derived.Test.YtamgnndebokopaaChecked
import GoSem.Claim
import GoSem.ClaimJoined
import GoSem.ClaimMapViews
import Derived.JoinedTies
import Derived.KernelRfl
namespace Go.Proofs.Ytamgnndebokopaa
/- THE CELL 'sum', in the pinned program and in every row, IS THE sha256 OF THE DUMP (.gsa) THAT YtamgnndebokopaaProg.lean LOADS. Nothing in Lean hashes anything: it is a label: what it is worth is what the hold of that sum in a sandbox is worth. -/
noncomputable def Try.pinned : Pinned := { name := "ytamgnndebokopaa", sum := "534601e5f0472c0b2be62ca8a94876547227452072a04490524e11554e019098", checked := Try.checked }
namespace Rows
def none {H : Type} : Left H := { results := [], args := [] }

/-- 'slopchestlaw.DistanceSpec': WHATEVER THE INPUT: true; the input reads as it did. -/
def distanceSpecSpec : ChangeSpec := { name := "distanceSpec", fn := fun _ => fun
  | [d1, d2] => { results := [.lit (.bool true)], args := [d1, d2] }
  | _ => none }
def distanceSpecRow : OpenClaim := { program := "ytamgnndebokopaa", sum := "534601e5f0472c0b2be62ca8a94876547227452072a04490524e11554e019098", func := "slopchest/slopchestlaw.DistanceSpec", spec := "distanceSpec", inPlace := ["slices.overlaps[int]"], apart := false }
def DistanceSpecSaid : Prop := distanceSpecRow.holds Try.pinned (OpenSpec.ofChange distanceSpecSpec)

/-- ITS FALSE NEIGHBOUR: 'it returns false'. Refute it at one input. -/
def distanceSpecWrong : ChangeSpec := { name := "distanceSpec", fn := fun _ => fun
  | [d1, d2] => { results := [.lit (.bool false)], args := [d1, d2] }
  | _ => none }
def DistanceSpecWrongFalsely : Prop := distanceSpecRow.holds Try.pinned (OpenSpec.ofChange distanceSpecWrong)

/-- 'slopchestlaw.DistanceHits': WHATEVER THE INPUT: true; the input reads as it did. -/
def distanceHitsSpec : ChangeSpec := { name := "distanceHits", fn := fun _ => fun
  | [d1, d2] => { results := [.lit (.bool true)], args := [d1, d2] }
  | _ => none }
def distanceHitsRow : OpenClaim := { program := "ytamgnndebokopaa", sum := "534601e5f0472c0b2be62ca8a94876547227452072a04490524e11554e019098", func := "slopchest/slopchestlaw.DistanceHits", spec := "distanceHits", inPlace := ["slices.overlaps[int]"], apart := false }
def DistanceHitsSaid : Prop := distanceHitsRow.holds Try.pinned (OpenSpec.ofChange distanceHitsSpec)

/-- ITS FALSE NEIGHBOUR: 'it returns false'. Refute it at one input. -/
def distanceHitsWrong : ChangeSpec := { name := "distanceHits", fn := fun _ => fun
  | [d1, d2] => { results := [.lit (.bool false)], args := [d1, d2] }
  | _ => none }
def DistanceHitsWrongFalsely : Prop := distanceHitsRow.holds Try.pinned (OpenSpec.ofChange distanceHitsWrong)

/-- 'slopchestlaw.DistanceMonotone': WHATEVER THE INPUT: true; the input reads as it did. -/
def distanceMonotoneSpec : ChangeSpec := { name := "distanceMonotone", fn := fun _ => fun
  | [d1, d2, d3] => { results := [.lit (.bool true)], args := [d1, d2, d3] }
  | _ => none }
def distanceMonotoneRow : OpenClaim := { program := "ytamgnndebokopaa", sum := "534601e5f0472c0b2be62ca8a94876547227452072a04490524e11554e019098", func := "slopchest/slopchestlaw.DistanceMonotone", spec := "distanceMonotone", inPlace := ["slices.overlaps[int]"], apart := false }
def DistanceMonotoneSaid : Prop := distanceMonotoneRow.holds Try.pinned (OpenSpec.ofChange distanceMonotoneSpec)

/-- ITS FALSE NEIGHBOUR: 'it returns false'. Refute it at one input. -/
def distanceMonotoneWrong : ChangeSpec := { name := "distanceMonotone", fn := fun _ => fun
  | [d1, d2, d3] => { results := [.lit (.bool false)], args := [d1, d2, d3] }
  | _ => none }
def DistanceMonotoneWrongFalsely : Prop := distanceMonotoneRow.holds Try.pinned (OpenSpec.ofChange distanceMonotoneWrong)

/-- 'slopchestlaw.DistanceRepeat': WHATEVER THE INPUT: true; the input reads as it did. -/
def distanceRepeatSpec : ChangeSpec := { name := "distanceRepeat", fn := fun _ => fun
  | [d] => { results := [.lit (.bool true)], args := [d] }
  | _ => none }
def distanceRepeatRow : OpenClaim := { program := "ytamgnndebokopaa", sum := "534601e5f0472c0b2be62ca8a94876547227452072a04490524e11554e019098", func := "slopchest/slopchestlaw.DistanceRepeat", spec := "distanceRepeat", inPlace := ["slices.overlaps[int]"], apart := false }
def DistanceRepeatSaid : Prop := distanceRepeatRow.holds Try.pinned (OpenSpec.ofChange distanceRepeatSpec)

/-- ITS FALSE NEIGHBOUR: 'it returns false'. Refute it at one input. -/
def distanceRepeatWrong : ChangeSpec := { name := "distanceRepeat", fn := fun _ => fun
  | [d] => { results := [.lit (.bool false)], args := [d] }
  | _ => none }
def DistanceRepeatWrongFalsely : Prop := distanceRepeatRow.holds Try.pinned (OpenSpec.ofChange distanceRepeatWrong)

/- THE SECOND FORM. 'bulk': how many values and letters a reading holds, each counted each time it is reached (what is shared counts as often as it is met; a slice's spare places count too). A statement '..UptoSaid' is the law's where the arguments, and the package variables that the reading takes, are together of bulk at most 1048576: NARROWER than '..Said'. Prove '..Said' where nothing that the law and all that it calls make is longer than what came in: it says more and counts as full. Else prove '..UptoSaid'. A law counts once. -/
mutual
def uptoBulk {H : Type} : DataW H → Nat
  | .lit (.string bytes) => bytes.length + 1
  | .lit _ => 1
  | .nil => 1
  | .ptr d => uptoBulk d + 1
  | .slice elems spare => uptoBulkAll elems + uptoBulkAll spare + 1
  | .agg parts => uptoBulkAll parts + 1
  | .iface _ d => uptoBulk d + 1
  | .map entries => uptoBulkEntries entries + 1
  | .held _ => 1
def uptoBulkAll {H : Type} : List (DataW H) → Nat
  | [] => 0
  | d :: r => uptoBulk d + uptoBulkAll r
def uptoBulkEntries {H : Type} : List (Lit × DataW H) → Nat
  | [] => 0
  | x :: r => uptoBulkEntry x + uptoBulkEntries r
def uptoBulkEntry {H : Type} : Lit × DataW H → Nat
  | (.string bytes, d) => bytes.length + uptoBulk d + 1
  | (_, d) => uptoBulk d + 1
 end
def uptoSmall : (H : Type) → List (DataW H) → Bool := fun _ ds => decide (uptoBulkAll ds ≤ 1048576)
def OpenSpec.upto (s : _root_.Go.ChangeSpec) : _root_.Go.OpenSpec := { _root_.Go.OpenSpec.ofChange s with cond := some uptoSmall }

/-- 'slopchestlaw.DistanceSpec', WHERE WHAT IT READS IS OF BULK AT MOST 1048576: true; the input reads as it did. -/
def distanceSpecUptoRow : OpenClaim := { program := "ytamgnndebokopaa", sum := "534601e5f0472c0b2be62ca8a94876547227452072a04490524e11554e019098", func := "slopchest/slopchestlaw.DistanceSpec", spec := "distanceSpec", inPlace := ["slices.overlaps[int]"], apart := false, narrowed := true }
def DistanceSpecUptoSaid : Prop := distanceSpecUptoRow.holds Try.pinned (OpenSpec.upto distanceSpecSpec)

/-- 'slopchestlaw.DistanceHits', WHERE WHAT IT READS IS OF BULK AT MOST 1048576: true; the input reads as it did. -/
def distanceHitsUptoRow : OpenClaim := { program := "ytamgnndebokopaa", sum := "534601e5f0472c0b2be62ca8a94876547227452072a04490524e11554e019098", func := "slopchest/slopchestlaw.DistanceHits", spec := "distanceHits", inPlace := ["slices.overlaps[int]"], apart := false, narrowed := true }
def DistanceHitsUptoSaid : Prop := distanceHitsUptoRow.holds Try.pinned (OpenSpec.upto distanceHitsSpec)

/-- 'slopchestlaw.DistanceMonotone', WHERE WHAT IT READS IS OF BULK AT MOST 1048576: true; the input reads as it did. -/
def distanceMonotoneUptoRow : OpenClaim := { program := "ytamgnndebokopaa", sum := "534601e5f0472c0b2be62ca8a94876547227452072a04490524e11554e019098", func := "slopchest/slopchestlaw.DistanceMonotone", spec := "distanceMonotone", inPlace := ["slices.overlaps[int]"], apart := false, narrowed := true }
def DistanceMonotoneUptoSaid : Prop := distanceMonotoneUptoRow.holds Try.pinned (OpenSpec.upto distanceMonotoneSpec)

/-- 'slopchestlaw.DistanceRepeat', WHERE WHAT IT READS IS OF BULK AT MOST 1048576: true; the input reads as it did. -/
def distanceRepeatUptoRow : OpenClaim := { program := "ytamgnndebokopaa", sum := "534601e5f0472c0b2be62ca8a94876547227452072a04490524e11554e019098", func := "slopchest/slopchestlaw.DistanceRepeat", spec := "distanceRepeat", inPlace := ["slices.overlaps[int]"], apart := false, narrowed := true }
def DistanceRepeatUptoSaid : Prop := distanceRepeatUptoRow.holds Try.pinned (OpenSpec.upto distanceRepeatSpec)

end Rows
end Go.Proofs.Ytamgnndebokopaa
