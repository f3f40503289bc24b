/-
  No cell of these rows narrows 'for every input' (looked for: loops, veiled, ifaces, maps, wideKeys, modest, calm, conditions, laid).
  DERIVED. THE GIVEN ROWS OF THIS SEAT. 4 by the template 'for every input the law returns true; each argument reads behind the call as it read before'; 0 by the template 'total and deterministic' (their statements: YtfeejodeiakfoaaTotals.lean).
  GIVEN WITH THE SEED: the statements are not yours to turn. If you find one false, say at which input.
  Laid BY PROGRAM, IN A SANDBOX (cutbox-rows.mjs): the forced cells as the released guide's own fill.sh prints them over the translation 15b6dbaf2b362d0c… (all of the seat's roots in one cut). By AI agents, Wed Nov 11 2026. No macro, syntax, notation, axiom, sorry.
-/
import Derived.Test.YtfeejodeiakfoaaChecked
import GoSem.Claim
import GoSem.ClaimJoined
import GoSem.ClaimMapViews
import Derived.JoinedTies
import Derived.KernelRfl
namespace Go.Proofs.Ytfeejodeiakfoaa
/- THE CELL 'sum', in the pinned program and in every row, IS THE sha256 OF THE DUMP (.gsa) THAT YtfeejodeiakfoaaProg.lean LOADS. Nothing in Lean hashes anything: it is a label: what it is worth is what the hold of that sum in a sandbox is worth. -/
noncomputable def Try.pinned : Pinned := { name := "ytfeejodeiakfoaa", sum := "15b6dbaf2b362d0c0eab5c041a655991eba208ab927eafc3f0561b604926b780", checked := Try.checked }
namespace Rows
def none {H : Type} : Left H := { results := [], args := [] }

/-- 'slopchestlaw.SketchSpec': WHATEVER THE INPUT: true; the input reads as it did. -/
def sketchSpecSpec : ChangeSpec := { name := "sketchSpec", fn := fun _ => fun
  | [d1, d2, d3, d4] => { results := [.lit (.bool true)], args := [d1, d2, d3, d4] }
  | _ => none }
def sketchSpecRow : OpenClaim := { program := "ytfeejodeiakfoaa", sum := "15b6dbaf2b362d0c0eab5c041a655991eba208ab927eafc3f0561b604926b780", func := "slopchest/slopchestlaw.SketchSpec", spec := "sketchSpec", unfollowed := true, recurses := true, apart := false }
def SketchSpecSaid : Prop := sketchSpecRow.holds Try.pinned (OpenSpec.ofChange sketchSpecSpec)

/-- ITS FALSE NEIGHBOUR: 'it returns false'. Refute it at one input. -/
def sketchSpecWrong : ChangeSpec := { name := "sketchSpec", fn := fun _ => fun
  | [d1, d2, d3, d4] => { results := [.lit (.bool false)], args := [d1, d2, d3, d4] }
  | _ => none }
def SketchSpecWrongFalsely : Prop := sketchSpecRow.holds Try.pinned (OpenSpec.ofChange sketchSpecWrong)

/-- 'slopchestlaw.SketchEstimate': WHATEVER THE INPUT: true; the input reads as it did. -/
def sketchEstimateSpec : ChangeSpec := { name := "sketchEstimate", fn := fun _ => fun
  | [d1, d2, d3, d4] => { results := [.lit (.bool true)], args := [d1, d2, d3, d4] }
  | _ => none }
def sketchEstimateRow : OpenClaim := { program := "ytfeejodeiakfoaa", sum := "15b6dbaf2b362d0c0eab5c041a655991eba208ab927eafc3f0561b604926b780", func := "slopchest/slopchestlaw.SketchEstimate", spec := "sketchEstimate", unfollowed := true, recurses := true, apart := false }
def SketchEstimateSaid : Prop := sketchEstimateRow.holds Try.pinned (OpenSpec.ofChange sketchEstimateSpec)

/-- ITS FALSE NEIGHBOUR: 'it returns false'. Refute it at one input. -/
def sketchEstimateWrong : ChangeSpec := { name := "sketchEstimate", fn := fun _ => fun
  | [d1, d2, d3, d4] => { results := [.lit (.bool false)], args := [d1, d2, d3, d4] }
  | _ => none }
def SketchEstimateWrongFalsely : Prop := sketchEstimateRow.holds Try.pinned (OpenSpec.ofChange sketchEstimateWrong)

/-- 'slopchestlaw.SketchMerge': WHATEVER THE INPUT: true; the input reads as it did. -/
def sketchMergeSpec : ChangeSpec := { name := "sketchMerge", fn := fun _ => fun
  | [d1, d2, d3, d4] => { results := [.lit (.bool true)], args := [d1, d2, d3, d4] }
  | _ => none }
def sketchMergeRow : OpenClaim := { program := "ytfeejodeiakfoaa", sum := "15b6dbaf2b362d0c0eab5c041a655991eba208ab927eafc3f0561b604926b780", func := "slopchest/slopchestlaw.SketchMerge", spec := "sketchMerge", unfollowed := true, recurses := true, apart := false }
def SketchMergeSaid : Prop := sketchMergeRow.holds Try.pinned (OpenSpec.ofChange sketchMergeSpec)

/-- ITS FALSE NEIGHBOUR: 'it returns false'. Refute it at one input. -/
def sketchMergeWrong : ChangeSpec := { name := "sketchMerge", fn := fun _ => fun
  | [d1, d2, d3, d4] => { results := [.lit (.bool false)], args := [d1, d2, d3, d4] }
  | _ => none }
def SketchMergeWrongFalsely : Prop := sketchMergeRow.holds Try.pinned (OpenSpec.ofChange sketchMergeWrong)

/-- 'slopchestlaw.SketchAdds': WHATEVER THE INPUT: true; the input reads as it did. -/
def sketchAddsSpec : ChangeSpec := { name := "sketchAdds", fn := fun _ => fun
  | [d1, d2, d3, d4] => { results := [.lit (.bool true)], args := [d1, d2, d3, d4] }
  | _ => none }
def sketchAddsRow : OpenClaim := { program := "ytfeejodeiakfoaa", sum := "15b6dbaf2b362d0c0eab5c041a655991eba208ab927eafc3f0561b604926b780", func := "slopchest/slopchestlaw.SketchAdds", spec := "sketchAdds", unfollowed := true, recurses := true, apart := false }
def SketchAddsSaid : Prop := sketchAddsRow.holds Try.pinned (OpenSpec.ofChange sketchAddsSpec)

/-- ITS FALSE NEIGHBOUR: 'it returns false'. Refute it at one input. -/
def sketchAddsWrong : ChangeSpec := { name := "sketchAdds", fn := fun _ => fun
  | [d1, d2, d3, d4] => { results := [.lit (.bool false)], args := [d1, d2, d3, d4] }
  | _ => none }
def SketchAddsWrongFalsely : Prop := sketchAddsRow.holds Try.pinned (OpenSpec.ofChange sketchAddsWrong)

/- THE SECOND FORM. 'bulk': how many values and letters a reading holds, each counted each time it is reached (what is shared counts as often as it is met; a slice's spare places count too). A statement '..UptoSaid' is the law's where the arguments, and the package variables that the reading takes, are together of bulk at most 1048576: NARROWER than '..Said'. Prove '..Said' where nothing that the law and all that it calls make is longer than what came in: it says more and counts as full. Else prove '..UptoSaid'. A law counts once. -/
mutual
def uptoBulk {H : Type} : DataW H → Nat
  | .lit (.string bytes) => bytes.length + 1
  | .lit _ => 1
  | .nil => 1
  | .ptr d => uptoBulk d + 1
  | .slice elems spare => uptoBulkAll elems + uptoBulkAll spare + 1
  | .agg parts => uptoBulkAll parts + 1
  | .iface _ d => uptoBulk d + 1
  | .map entries => uptoBulkEntries entries + 1
  | .held _ => 1
def uptoBulkAll {H : Type} : List (DataW H) → Nat
  | [] => 0
  | d :: r => uptoBulk d + uptoBulkAll r
def uptoBulkEntries {H : Type} : List (Lit × DataW H) → Nat
  | [] => 0
  | x :: r => uptoBulkEntry x + uptoBulkEntries r
def uptoBulkEntry {H : Type} : Lit × DataW H → Nat
  | (.string bytes, d) => bytes.length + uptoBulk d + 1
  | (_, d) => uptoBulk d + 1
 end
def uptoSmall : (H : Type) → List (DataW H) → Bool := fun _ ds => decide (uptoBulkAll ds ≤ 1048576)
def OpenSpec.upto (s : _root_.Go.ChangeSpec) : _root_.Go.OpenSpec := { _root_.Go.OpenSpec.ofChange s with cond := some uptoSmall }

/-- 'slopchestlaw.SketchSpec', WHERE WHAT IT READS IS OF BULK AT MOST 1048576: true; the input reads as it did. -/
def sketchSpecUptoRow : OpenClaim := { program := "ytfeejodeiakfoaa", sum := "15b6dbaf2b362d0c0eab5c041a655991eba208ab927eafc3f0561b604926b780", func := "slopchest/slopchestlaw.SketchSpec", spec := "sketchSpec", unfollowed := true, recurses := true, apart := false, narrowed := true }
def SketchSpecUptoSaid : Prop := sketchSpecUptoRow.holds Try.pinned (OpenSpec.upto sketchSpecSpec)

/-- 'slopchestlaw.SketchEstimate', WHERE WHAT IT READS IS OF BULK AT MOST 1048576: true; the input reads as it did. -/
def sketchEstimateUptoRow : OpenClaim := { program := "ytfeejodeiakfoaa", sum := "15b6dbaf2b362d0c0eab5c041a655991eba208ab927eafc3f0561b604926b780", func := "slopchest/slopchestlaw.SketchEstimate", spec := "sketchEstimate", unfollowed := true, recurses := true, apart := false, narrowed := true }
def SketchEstimateUptoSaid : Prop := sketchEstimateUptoRow.holds Try.pinned (OpenSpec.upto sketchEstimateSpec)

/-- 'slopchestlaw.SketchMerge', WHERE WHAT IT READS IS OF BULK AT MOST 1048576: true; the input reads as it did. -/
def sketchMergeUptoRow : OpenClaim := { program := "ytfeejodeiakfoaa", sum := "15b6dbaf2b362d0c0eab5c041a655991eba208ab927eafc3f0561b604926b780", func := "slopchest/slopchestlaw.SketchMerge", spec := "sketchMerge", unfollowed := true, recurses := true, apart := false, narrowed := true }
def SketchMergeUptoSaid : Prop := sketchMergeUptoRow.holds Try.pinned (OpenSpec.upto sketchMergeSpec)

/-- 'slopchestlaw.SketchAdds', WHERE WHAT IT READS IS OF BULK AT MOST 1048576: true; the input reads as it did. -/
def sketchAddsUptoRow : OpenClaim := { program := "ytfeejodeiakfoaa", sum := "15b6dbaf2b362d0c0eab5c041a655991eba208ab927eafc3f0561b604926b780", func := "slopchest/slopchestlaw.SketchAdds", spec := "sketchAdds", unfollowed := true, recurses := true, apart := false, narrowed := true }
def SketchAddsUptoSaid : Prop := sketchAddsUptoRow.holds Try.pinned (OpenSpec.upto sketchAddsSpec)

end Rows
end Go.Proofs.Ytfeejodeiakfoaa
