/-
  No cell of these rows narrows 'for every input' (looked for: loops, veiled, ifaces, maps, wideKeys, modest, calm, conditions, laid).
  DERIVED. THE GIVEN ROWS OF THIS SEAT. 5 by the template 'for every input the law returns true; each argument reads behind the call as it read before'; 0 by the template 'total and deterministic' (their statements: YtplgobggicojjaaTotals.lean).
  GIVEN WITH THE SEED: the statements are not yours to turn. If you find one false, say at which input.
  Laid BY PROGRAM, IN A SANDBOX (cutbox-rows.mjs): the forced cells as the released guide's own fill.sh prints them over the translation 99a87b9b41984ad9… (all of the seat's roots in one cut). By AI agents, Wed Nov 11 2026. No macro, syntax, notation, axiom, sorry.
-/
import Derived.Test.YtplgobggicojjaaChecked
import GoSem.Claim
import GoSem.ClaimJoined
import GoSem.ClaimMapViews
import Derived.JoinedTies
import Derived.KernelRfl
namespace Go.Proofs.Ytplgobggicojjaa
/- THE CELL 'sum', in the pinned program and in every row, IS THE sha256 OF THE DUMP (.gsa) THAT YtplgobggicojjaaProg.lean LOADS. Nothing in Lean hashes anything: it is a label: what it is worth is what the hold of that sum in a sandbox is worth. -/
noncomputable def Try.pinned : Pinned := { name := "ytplgobggicojjaa", sum := "99a87b9b41984ad917d666322f725cef0acdcc9a353dcfa9d3efbd06999f4021", checked := Try.checked }
namespace Rows
def none {H : Type} : Left H := { results := [], args := [] }

/-- 'slopchestlaw.LruSpec': WHATEVER THE INPUT: true; the input reads as it did. -/
def lruSpecSpec : ChangeSpec := { name := "lruSpec", fn := fun _ => fun
  | [d1, d2, d3, d4] => { results := [.lit (.bool true)], args := [d1, d2, d3, d4] }
  | _ => none }
def lruSpecRow : OpenClaim := { program := "ytplgobggicojjaa", sum := "99a87b9b41984ad917d666322f725cef0acdcc9a353dcfa9d3efbd06999f4021", func := "slopchest/slopchestlaw.LruSpec", spec := "lruSpec", inPlace := ["slices.overlaps[int]"], apart := false }
def LruSpecSaid : Prop := lruSpecRow.holds Try.pinned (OpenSpec.ofChange lruSpecSpec)

/-- ITS FALSE NEIGHBOUR: 'it returns false'. Refute it at one input. -/
def lruSpecWrong : ChangeSpec := { name := "lruSpec", fn := fun _ => fun
  | [d1, d2, d3, d4] => { results := [.lit (.bool false)], args := [d1, d2, d3, d4] }
  | _ => none }
def LruSpecWrongFalsely : Prop := lruSpecRow.holds Try.pinned (OpenSpec.ofChange lruSpecWrong)

/-- 'slopchestlaw.LruInclusion': WHATEVER THE INPUT: true; the input reads as it did. -/
def lruInclusionSpec : ChangeSpec := { name := "lruInclusion", fn := fun _ => fun
  | [d1, d2, d3] => { results := [.lit (.bool true)], args := [d1, d2, d3] }
  | _ => none }
def lruInclusionRow : OpenClaim := { program := "ytplgobggicojjaa", sum := "99a87b9b41984ad917d666322f725cef0acdcc9a353dcfa9d3efbd06999f4021", func := "slopchest/slopchestlaw.LruInclusion", spec := "lruInclusion", inPlace := ["slices.overlaps[int]"], apart := false }
def LruInclusionSaid : Prop := lruInclusionRow.holds Try.pinned (OpenSpec.ofChange lruInclusionSpec)

/-- ITS FALSE NEIGHBOUR: 'it returns false'. Refute it at one input. -/
def lruInclusionWrong : ChangeSpec := { name := "lruInclusion", fn := fun _ => fun
  | [d1, d2, d3] => { results := [.lit (.bool false)], args := [d1, d2, d3] }
  | _ => none }
def LruInclusionWrongFalsely : Prop := lruInclusionRow.holds Try.pinned (OpenSpec.ofChange lruInclusionWrong)

/-- 'slopchestlaw.LruParts': WHATEVER THE INPUT: true; the input reads as it did. -/
def lruPartsSpec : ChangeSpec := { name := "lruParts", fn := fun _ => fun
  | [d1, d2, d3] => { results := [.lit (.bool true)], args := [d1, d2, d3] }
  | _ => none }
def lruPartsRow : OpenClaim := { program := "ytplgobggicojjaa", sum := "99a87b9b41984ad917d666322f725cef0acdcc9a353dcfa9d3efbd06999f4021", func := "slopchest/slopchestlaw.LruParts", spec := "lruParts", inPlace := ["slices.overlaps[int]"], apart := false }
def LruPartsSaid : Prop := lruPartsRow.holds Try.pinned (OpenSpec.ofChange lruPartsSpec)

/-- ITS FALSE NEIGHBOUR: 'it returns false'. Refute it at one input. -/
def lruPartsWrong : ChangeSpec := { name := "lruParts", fn := fun _ => fun
  | [d1, d2, d3] => { results := [.lit (.bool false)], args := [d1, d2, d3] }
  | _ => none }
def LruPartsWrongFalsely : Prop := lruPartsRow.holds Try.pinned (OpenSpec.ofChange lruPartsWrong)

/-- 'slopchestlaw.LruRecent': WHATEVER THE INPUT: true; the input reads as it did. -/
def lruRecentSpec : ChangeSpec := { name := "lruRecent", fn := fun _ => fun
  | [d1, d2, d3] => { results := [.lit (.bool true)], args := [d1, d2, d3] }
  | _ => none }
def lruRecentRow : OpenClaim := { program := "ytplgobggicojjaa", sum := "99a87b9b41984ad917d666322f725cef0acdcc9a353dcfa9d3efbd06999f4021", func := "slopchest/slopchestlaw.LruRecent", spec := "lruRecent", inPlace := ["slices.overlaps[int]"], apart := false }
def LruRecentSaid : Prop := lruRecentRow.holds Try.pinned (OpenSpec.ofChange lruRecentSpec)

/-- ITS FALSE NEIGHBOUR: 'it returns false'. Refute it at one input. -/
def lruRecentWrong : ChangeSpec := { name := "lruRecent", fn := fun _ => fun
  | [d1, d2, d3] => { results := [.lit (.bool false)], args := [d1, d2, d3] }
  | _ => none }
def LruRecentWrongFalsely : Prop := lruRecentRow.holds Try.pinned (OpenSpec.ofChange lruRecentWrong)

/-- 'slopchesttop.TopFilter': WHATEVER THE INPUT: true; the input reads as it did. -/
def topFilterSpec : ChangeSpec := { name := "topFilter", fn := fun _ => fun
  | [d1, d2, d3, d4, d5] => { results := [.lit (.bool true)], args := [d1, d2, d3, d4, d5] }
  | _ => none }
def topFilterRow : OpenClaim := { program := "ytplgobggicojjaa", sum := "99a87b9b41984ad917d666322f725cef0acdcc9a353dcfa9d3efbd06999f4021", func := "slopchest/slopchesttop.TopFilter", spec := "topFilter", inPlace := ["slices.overlaps[int]"], recurses := true, apart := false }
def TopFilterSaid : Prop := topFilterRow.holds Try.pinned (OpenSpec.ofChange topFilterSpec)

/-- ITS FALSE NEIGHBOUR: 'it returns false'. Refute it at one input. -/
def topFilterWrong : ChangeSpec := { name := "topFilter", fn := fun _ => fun
  | [d1, d2, d3, d4, d5] => { results := [.lit (.bool false)], args := [d1, d2, d3, d4, d5] }
  | _ => none }
def TopFilterWrongFalsely : Prop := topFilterRow.holds Try.pinned (OpenSpec.ofChange topFilterWrong)

/- THE SECOND FORM. 'bulk': how many values and letters a reading holds, each counted each time it is reached (what is shared counts as often as it is met; a slice's spare places count too). A statement '..UptoSaid' is the law's where the arguments, and the package variables that the reading takes, are together of bulk at most 1048576: NARROWER than '..Said'. Prove '..Said' where nothing that the law and all that it calls make is longer than what came in: it says more and counts as full. Else prove '..UptoSaid'. A law counts once. -/
mutual
def uptoBulk {H : Type} : DataW H → Nat
  | .lit (.string bytes) => bytes.length + 1
  | .lit _ => 1
  | .nil => 1
  | .ptr d => uptoBulk d + 1
  | .slice elems spare => uptoBulkAll elems + uptoBulkAll spare + 1
  | .agg parts => uptoBulkAll parts + 1
  | .iface _ d => uptoBulk d + 1
  | .map entries => uptoBulkEntries entries + 1
  | .held _ => 1
def uptoBulkAll {H : Type} : List (DataW H) → Nat
  | [] => 0
  | d :: r => uptoBulk d + uptoBulkAll r
def uptoBulkEntries {H : Type} : List (Lit × DataW H) → Nat
  | [] => 0
  | x :: r => uptoBulkEntry x + uptoBulkEntries r
def uptoBulkEntry {H : Type} : Lit × DataW H → Nat
  | (.string bytes, d) => bytes.length + uptoBulk d + 1
  | (_, d) => uptoBulk d + 1
 end
def uptoSmall : (H : Type) → List (DataW H) → Bool := fun _ ds => decide (uptoBulkAll ds ≤ 1048576)
def OpenSpec.upto (s : _root_.Go.ChangeSpec) : _root_.Go.OpenSpec := { _root_.Go.OpenSpec.ofChange s with cond := some uptoSmall }

/-- 'slopchestlaw.LruSpec', WHERE WHAT IT READS IS OF BULK AT MOST 1048576: true; the input reads as it did. -/
def lruSpecUptoRow : OpenClaim := { program := "ytplgobggicojjaa", sum := "99a87b9b41984ad917d666322f725cef0acdcc9a353dcfa9d3efbd06999f4021", func := "slopchest/slopchestlaw.LruSpec", spec := "lruSpec", inPlace := ["slices.overlaps[int]"], apart := false, narrowed := true }
def LruSpecUptoSaid : Prop := lruSpecUptoRow.holds Try.pinned (OpenSpec.upto lruSpecSpec)

/-- 'slopchestlaw.LruInclusion', WHERE WHAT IT READS IS OF BULK AT MOST 1048576: true; the input reads as it did. -/
def lruInclusionUptoRow : OpenClaim := { program := "ytplgobggicojjaa", sum := "99a87b9b41984ad917d666322f725cef0acdcc9a353dcfa9d3efbd06999f4021", func := "slopchest/slopchestlaw.LruInclusion", spec := "lruInclusion", inPlace := ["slices.overlaps[int]"], apart := false, narrowed := true }
def LruInclusionUptoSaid : Prop := lruInclusionUptoRow.holds Try.pinned (OpenSpec.upto lruInclusionSpec)

/-- 'slopchestlaw.LruParts', WHERE WHAT IT READS IS OF BULK AT MOST 1048576: true; the input reads as it did. -/
def lruPartsUptoRow : OpenClaim := { program := "ytplgobggicojjaa", sum := "99a87b9b41984ad917d666322f725cef0acdcc9a353dcfa9d3efbd06999f4021", func := "slopchest/slopchestlaw.LruParts", spec := "lruParts", inPlace := ["slices.overlaps[int]"], apart := false, narrowed := true }
def LruPartsUptoSaid : Prop := lruPartsUptoRow.holds Try.pinned (OpenSpec.upto lruPartsSpec)

/-- 'slopchestlaw.LruRecent', WHERE WHAT IT READS IS OF BULK AT MOST 1048576: true; the input reads as it did. -/
def lruRecentUptoRow : OpenClaim := { program := "ytplgobggicojjaa", sum := "99a87b9b41984ad917d666322f725cef0acdcc9a353dcfa9d3efbd06999f4021", func := "slopchest/slopchestlaw.LruRecent", spec := "lruRecent", inPlace := ["slices.overlaps[int]"], apart := false, narrowed := true }
def LruRecentUptoSaid : Prop := lruRecentUptoRow.holds Try.pinned (OpenSpec.upto lruRecentSpec)

/-- 'slopchesttop.TopFilter', WHERE WHAT IT READS IS OF BULK AT MOST 1048576: true; the input reads as it did. -/
def topFilterUptoRow : OpenClaim := { program := "ytplgobggicojjaa", sum := "99a87b9b41984ad917d666322f725cef0acdcc9a353dcfa9d3efbd06999f4021", func := "slopchest/slopchesttop.TopFilter", spec := "topFilter", inPlace := ["slices.overlaps[int]"], recurses := true, apart := false, narrowed := true }
def TopFilterUptoSaid : Prop := topFilterUptoRow.holds Try.pinned (OpenSpec.upto topFilterSpec)

end Rows
end Go.Proofs.Ytplgobggicojjaa
