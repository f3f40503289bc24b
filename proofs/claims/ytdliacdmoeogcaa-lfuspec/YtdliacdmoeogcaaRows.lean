/-
  No cell of these rows narrows 'for every input' (looked for: loops, veiled, ifaces, maps, wideKeys, modest, calm, conditions, laid).
  DERIVED. THE GIVEN ROWS OF THIS SEAT. 4 by the template 'for every input the law returns true; each argument reads behind the call as it read before'; 0 by the template 'total and deterministic' (their statements: YtdliacdmoeogcaaTotals.lean).
  GIVEN WITH THE SEED: the statements are not yours to turn. If you find one false, say at which input.
  Laid BY PROGRAM, IN A SANDBOX (cutbox-rows.mjs): the forced cells as the released guide's own fill.sh prints them over the translation cd71d210743eb2f1… (all of the seat's roots in one cut). By AI agents, Wed Nov 11 2026. No macro, syntax, notation, axiom, sorry.
-/
import Derived.Test.YtdliacdmoeogcaaChecked
import GoSem.Claim
import GoSem.ClaimJoined
import GoSem.ClaimMapViews
import Derived.JoinedTies
import Derived.KernelRfl
namespace Go.Proofs.Ytdliacdmoeogcaa
/- THE CELL 'sum', in the pinned program and in every row, IS THE sha256 OF THE DUMP (.gsa) THAT YtdliacdmoeogcaaProg.lean LOADS. Nothing in Lean hashes anything: it is a label: what it is worth is what the hold of that sum in a sandbox is worth. -/
noncomputable def Try.pinned : Pinned := { name := "ytdliacdmoeogcaa", sum := "cd71d210743eb2f18edee35855c11c556ecf5ba172460ff56d95d367a2ec0cfc", checked := Try.checked }
namespace Rows
def none {H : Type} : Left H := { results := [], args := [] }

/-- 'slopchestlaw.LfuSpec': WHATEVER THE INPUT: true; the input reads as it did. -/
def lfuSpecSpec : ChangeSpec := { name := "lfuSpec", fn := fun _ => fun
  | [d1, d2, d3] => { results := [.lit (.bool true)], args := [d1, d2, d3] }
  | _ => none }
def lfuSpecRow : OpenClaim := { program := "ytdliacdmoeogcaa", sum := "cd71d210743eb2f18edee35855c11c556ecf5ba172460ff56d95d367a2ec0cfc", func := "slopchest/slopchestlaw.LfuSpec", spec := "lfuSpec", inPlace := ["slices.overlaps[slopchest/api.Use]"], unfollowed := true, recurses := true, apart := false }
def LfuSpecSaid : Prop := lfuSpecRow.holds Try.pinned (OpenSpec.ofChange lfuSpecSpec)

/-- ITS FALSE NEIGHBOUR: 'it returns false'. Refute it at one input. -/
def lfuSpecWrong : ChangeSpec := { name := "lfuSpec", fn := fun _ => fun
  | [d1, d2, d3] => { results := [.lit (.bool false)], args := [d1, d2, d3] }
  | _ => none }
def LfuSpecWrongFalsely : Prop := lfuSpecRow.holds Try.pinned (OpenSpec.ofChange lfuSpecWrong)

/-- 'slopchestlaw.LfuVictim': WHATEVER THE INPUT: true; the input reads as it did. -/
def lfuVictimSpec : ChangeSpec := { name := "lfuVictim", fn := fun _ => fun
  | [d1, d2] => { results := [.lit (.bool true)], args := [d1, d2] }
  | _ => none }
def lfuVictimRow : OpenClaim := { program := "ytdliacdmoeogcaa", sum := "cd71d210743eb2f18edee35855c11c556ecf5ba172460ff56d95d367a2ec0cfc", func := "slopchest/slopchestlaw.LfuVictim", spec := "lfuVictim", inPlace := ["slices.overlaps[slopchest/api.Use]"], unfollowed := true, recurses := true, apart := false }
def LfuVictimSaid : Prop := lfuVictimRow.holds Try.pinned (OpenSpec.ofChange lfuVictimSpec)

/-- ITS FALSE NEIGHBOUR: 'it returns false'. Refute it at one input. -/
def lfuVictimWrong : ChangeSpec := { name := "lfuVictim", fn := fun _ => fun
  | [d1, d2] => { results := [.lit (.bool false)], args := [d1, d2] }
  | _ => none }
def LfuVictimWrongFalsely : Prop := lfuVictimRow.holds Try.pinned (OpenSpec.ofChange lfuVictimWrong)

/-- 'slopchestlaw.LfuCounts': WHATEVER THE INPUT: true; the input reads as it did. -/
def lfuCountsSpec : ChangeSpec := { name := "lfuCounts", fn := fun _ => fun
  | [d1, d2] => { results := [.lit (.bool true)], args := [d1, d2] }
  | _ => none }
def lfuCountsRow : OpenClaim := { program := "ytdliacdmoeogcaa", sum := "cd71d210743eb2f18edee35855c11c556ecf5ba172460ff56d95d367a2ec0cfc", func := "slopchest/slopchestlaw.LfuCounts", spec := "lfuCounts", inPlace := ["slices.overlaps[slopchest/api.Use]"], unfollowed := true, recurses := true, apart := false }
def LfuCountsSaid : Prop := lfuCountsRow.holds Try.pinned (OpenSpec.ofChange lfuCountsSpec)

/-- ITS FALSE NEIGHBOUR: 'it returns false'. Refute it at one input. -/
def lfuCountsWrong : ChangeSpec := { name := "lfuCounts", fn := fun _ => fun
  | [d1, d2] => { results := [.lit (.bool false)], args := [d1, d2] }
  | _ => none }
def LfuCountsWrongFalsely : Prop := lfuCountsRow.holds Try.pinned (OpenSpec.ofChange lfuCountsWrong)

/-- 'slopchestlaw.LfuParts': WHATEVER THE INPUT: true; the input reads as it did. -/
def lfuPartsSpec : ChangeSpec := { name := "lfuParts", fn := fun _ => fun
  | [d1, d2, d3] => { results := [.lit (.bool true)], args := [d1, d2, d3] }
  | _ => none }
def lfuPartsRow : OpenClaim := { program := "ytdliacdmoeogcaa", sum := "cd71d210743eb2f18edee35855c11c556ecf5ba172460ff56d95d367a2ec0cfc", func := "slopchest/slopchestlaw.LfuParts", spec := "lfuParts", inPlace := ["slices.overlaps[slopchest/api.Use]"], unfollowed := true, recurses := true, apart := false }
def LfuPartsSaid : Prop := lfuPartsRow.holds Try.pinned (OpenSpec.ofChange lfuPartsSpec)

/-- ITS FALSE NEIGHBOUR: 'it returns false'. Refute it at one input. -/
def lfuPartsWrong : ChangeSpec := { name := "lfuParts", fn := fun _ => fun
  | [d1, d2, d3] => { results := [.lit (.bool false)], args := [d1, d2, d3] }
  | _ => none }
def LfuPartsWrongFalsely : Prop := lfuPartsRow.holds Try.pinned (OpenSpec.ofChange lfuPartsWrong)

/- THE SECOND FORM. 'bulk': how many values and letters a reading holds, each counted each time it is reached (what is shared counts as often as it is met; a slice's spare places count too). A statement '..UptoSaid' is the law's where the arguments, and the package variables that the reading takes, are together of bulk at most 1048576: NARROWER than '..Said'. Prove '..Said' where nothing that the law and all that it calls make is longer than what came in: it says more and counts as full. Else prove '..UptoSaid'. A law counts once. -/
mutual
def uptoBulk {H : Type} : DataW H → Nat
  | .lit (.string bytes) => bytes.length + 1
  | .lit _ => 1
  | .nil => 1
  | .ptr d => uptoBulk d + 1
  | .slice elems spare => uptoBulkAll elems + uptoBulkAll spare + 1
  | .agg parts => uptoBulkAll parts + 1
  | .iface _ d => uptoBulk d + 1
  | .map entries => uptoBulkEntries entries + 1
  | .held _ => 1
def uptoBulkAll {H : Type} : List (DataW H) → Nat
  | [] => 0
  | d :: r => uptoBulk d + uptoBulkAll r
def uptoBulkEntries {H : Type} : List (Lit × DataW H) → Nat
  | [] => 0
  | x :: r => uptoBulkEntry x + uptoBulkEntries r
def uptoBulkEntry {H : Type} : Lit × DataW H → Nat
  | (.string bytes, d) => bytes.length + uptoBulk d + 1
  | (_, d) => uptoBulk d + 1
 end
def uptoSmall : (H : Type) → List (DataW H) → Bool := fun _ ds => decide (uptoBulkAll ds ≤ 1048576)
def OpenSpec.upto (s : _root_.Go.ChangeSpec) : _root_.Go.OpenSpec := { _root_.Go.OpenSpec.ofChange s with cond := some uptoSmall }

/-- 'slopchestlaw.LfuSpec', WHERE WHAT IT READS IS OF BULK AT MOST 1048576: true; the input reads as it did. -/
def lfuSpecUptoRow : OpenClaim := { program := "ytdliacdmoeogcaa", sum := "cd71d210743eb2f18edee35855c11c556ecf5ba172460ff56d95d367a2ec0cfc", func := "slopchest/slopchestlaw.LfuSpec", spec := "lfuSpec", inPlace := ["slices.overlaps[slopchest/api.Use]"], unfollowed := true, recurses := true, apart := false, narrowed := true }
def LfuSpecUptoSaid : Prop := lfuSpecUptoRow.holds Try.pinned (OpenSpec.upto lfuSpecSpec)

/-- 'slopchestlaw.LfuVictim', WHERE WHAT IT READS IS OF BULK AT MOST 1048576: true; the input reads as it did. -/
def lfuVictimUptoRow : OpenClaim := { program := "ytdliacdmoeogcaa", sum := "cd71d210743eb2f18edee35855c11c556ecf5ba172460ff56d95d367a2ec0cfc", func := "slopchest/slopchestlaw.LfuVictim", spec := "lfuVictim", inPlace := ["slices.overlaps[slopchest/api.Use]"], unfollowed := true, recurses := true, apart := false, narrowed := true }
def LfuVictimUptoSaid : Prop := lfuVictimUptoRow.holds Try.pinned (OpenSpec.upto lfuVictimSpec)

/-- 'slopchestlaw.LfuCounts', WHERE WHAT IT READS IS OF BULK AT MOST 1048576: true; the input reads as it did. -/
def lfuCountsUptoRow : OpenClaim := { program := "ytdliacdmoeogcaa", sum := "cd71d210743eb2f18edee35855c11c556ecf5ba172460ff56d95d367a2ec0cfc", func := "slopchest/slopchestlaw.LfuCounts", spec := "lfuCounts", inPlace := ["slices.overlaps[slopchest/api.Use]"], unfollowed := true, recurses := true, apart := false, narrowed := true }
def LfuCountsUptoSaid : Prop := lfuCountsUptoRow.holds Try.pinned (OpenSpec.upto lfuCountsSpec)

/-- 'slopchestlaw.LfuParts', WHERE WHAT IT READS IS OF BULK AT MOST 1048576: true; the input reads as it did. -/
def lfuPartsUptoRow : OpenClaim := { program := "ytdliacdmoeogcaa", sum := "cd71d210743eb2f18edee35855c11c556ecf5ba172460ff56d95d367a2ec0cfc", func := "slopchest/slopchestlaw.LfuParts", spec := "lfuParts", inPlace := ["slices.overlaps[slopchest/api.Use]"], unfollowed := true, recurses := true, apart := false, narrowed := true }
def LfuPartsUptoSaid : Prop := lfuPartsUptoRow.holds Try.pinned (OpenSpec.upto lfuPartsSpec)

end Rows
end Go.Proofs.Ytdliacdmoeogcaa
