/-
  No cell of these rows narrows 'for every input' (looked for: loops, veiled, ifaces, maps, wideKeys, modest, calm, conditions, laid).
  DERIVED. THE GIVEN ROWS OF THIS SEAT. 4 by the template 'for every input the law returns true; each argument reads behind the call as it read before'; 0 by the template 'total and deterministic' (their statements: YtmhhiddnkdcflaaTotals.lean).
  GIVEN WITH THE SEED: the statements are not yours to turn. If you find one false, say at which input.
  Laid BY PROGRAM, IN A SANDBOX (cutbox-rows.mjs): the forced cells as the released guide's own fill.sh prints them over the translation 4e8798383536582e… (all of the seat's roots in one cut). By AI agents, Wed Nov 11 2026. No macro, syntax, notation, axiom, sorry.
-/
import Derived.Test.YtmhhiddnkdcflaaChecked
import GoSem.Claim
import GoSem.ClaimJoined
import GoSem.ClaimMapViews
import Derived.JoinedTies
import Derived.KernelRfl
namespace Go.Proofs.Ytmhhiddnkdcflaa
/- THE CELL 'sum', in the pinned program and in every row, IS THE sha256 OF THE DUMP (.gsa) THAT YtmhhiddnkdcflaaProg.lean LOADS. Nothing in Lean hashes anything: it is a label: what it is worth is what the hold of that sum in a sandbox is worth. -/
noncomputable def Try.pinned : Pinned := { name := "ytmhhiddnkdcflaa", sum := "4e8798383536582e80733d9a2544c6648957efbf864fe59aa09f47cdeef140f4", checked := Try.checked }
namespace Rows
def none {H : Type} : Left H := { results := [], args := [] }

/-- 'slopchestlaw.OptimalSpec': WHATEVER THE INPUT: true; the input reads as it did. -/
def optimalSpecSpec : ChangeSpec := { name := "optimalSpec", fn := fun _ => fun
  | [d1, d2, d3, d4, d5] => { results := [.lit (.bool true)], args := [d1, d2, d3, d4, d5] }
  | _ => none }
def optimalSpecRow : OpenClaim := { program := "ytmhhiddnkdcflaa", sum := "4e8798383536582e80733d9a2544c6648957efbf864fe59aa09f47cdeef140f4", func := "slopchest/slopchestlaw.OptimalSpec", spec := "optimalSpec", unfollowed := true, recurses := true, apart := false }
def OptimalSpecSaid : Prop := optimalSpecRow.holds Try.pinned (OpenSpec.ofChange optimalSpecSpec)

/-- ITS FALSE NEIGHBOUR: 'it returns false'. Refute it at one input. -/
def optimalSpecWrong : ChangeSpec := { name := "optimalSpec", fn := fun _ => fun
  | [d1, d2, d3, d4, d5] => { results := [.lit (.bool false)], args := [d1, d2, d3, d4, d5] }
  | _ => none }
def OptimalSpecWrongFalsely : Prop := optimalSpecRow.holds Try.pinned (OpenSpec.ofChange optimalSpecWrong)

/-- 'slopchestlaw.OptimalBeats': WHATEVER THE INPUT: true; the input reads as it did. -/
def optimalBeatsSpec : ChangeSpec := { name := "optimalBeats", fn := fun _ => fun
  | [d1, d2] => { results := [.lit (.bool true)], args := [d1, d2] }
  | _ => none }
def optimalBeatsRow : OpenClaim := { program := "ytmhhiddnkdcflaa", sum := "4e8798383536582e80733d9a2544c6648957efbf864fe59aa09f47cdeef140f4", func := "slopchest/slopchestlaw.OptimalBeats", spec := "optimalBeats", inPlace := ["slices.overlaps[int]", "slices.overlaps[slopchest/api.Use]"], unfollowed := true, recurses := true, apart := false }
def OptimalBeatsSaid : Prop := optimalBeatsRow.holds Try.pinned (OpenSpec.ofChange optimalBeatsSpec)

/-- ITS FALSE NEIGHBOUR: 'it returns false'. Refute it at one input. -/
def optimalBeatsWrong : ChangeSpec := { name := "optimalBeats", fn := fun _ => fun
  | [d1, d2] => { results := [.lit (.bool false)], args := [d1, d2] }
  | _ => none }
def OptimalBeatsWrongFalsely : Prop := optimalBeatsRow.holds Try.pinned (OpenSpec.ofChange optimalBeatsWrong)

/-- 'slopchestlaw.OptimalFewest': WHATEVER THE INPUT: true; the input reads as it did. -/
def optimalFewestSpec : ChangeSpec := { name := "optimalFewest", fn := fun _ => fun
  | [d1, d2] => { results := [.lit (.bool true)], args := [d1, d2] }
  | _ => none }
def optimalFewestRow : OpenClaim := { program := "ytmhhiddnkdcflaa", sum := "4e8798383536582e80733d9a2544c6648957efbf864fe59aa09f47cdeef140f4", func := "slopchest/slopchestlaw.OptimalFewest", spec := "optimalFewest", unfollowed := true, recurses := true, apart := false }
def OptimalFewestSaid : Prop := optimalFewestRow.holds Try.pinned (OpenSpec.ofChange optimalFewestSpec)

/-- ITS FALSE NEIGHBOUR: 'it returns false'. Refute it at one input. -/
def optimalFewestWrong : ChangeSpec := { name := "optimalFewest", fn := fun _ => fun
  | [d1, d2] => { results := [.lit (.bool false)], args := [d1, d2] }
  | _ => none }
def OptimalFewestWrongFalsely : Prop := optimalFewestRow.holds Try.pinned (OpenSpec.ofChange optimalFewestWrong)

/-- 'slopchestlaw.OptimalRoom': WHATEVER THE INPUT: true; the input reads as it did. -/
def optimalRoomSpec : ChangeSpec := { name := "optimalRoom", fn := fun _ => fun
  | [d1, d2, d3] => { results := [.lit (.bool true)], args := [d1, d2, d3] }
  | _ => none }
def optimalRoomRow : OpenClaim := { program := "ytmhhiddnkdcflaa", sum := "4e8798383536582e80733d9a2544c6648957efbf864fe59aa09f47cdeef140f4", func := "slopchest/slopchestlaw.OptimalRoom", spec := "optimalRoom", inPlace := ["slices.overlaps[int]"], unfollowed := true, recurses := true, apart := false }
def OptimalRoomSaid : Prop := optimalRoomRow.holds Try.pinned (OpenSpec.ofChange optimalRoomSpec)

/-- ITS FALSE NEIGHBOUR: 'it returns false'. Refute it at one input. -/
def optimalRoomWrong : ChangeSpec := { name := "optimalRoom", fn := fun _ => fun
  | [d1, d2, d3] => { results := [.lit (.bool false)], args := [d1, d2, d3] }
  | _ => none }
def OptimalRoomWrongFalsely : Prop := optimalRoomRow.holds Try.pinned (OpenSpec.ofChange optimalRoomWrong)

/- THE SECOND FORM. 'bulk': how many values and letters a reading holds, each counted each time it is reached (what is shared counts as often as it is met; a slice's spare places count too). A statement '..UptoSaid' is the law's where the arguments, and the package variables that the reading takes, are together of bulk at most 1048576: NARROWER than '..Said'. Prove '..Said' where nothing that the law and all that it calls make is longer than what came in: it says more and counts as full. Else prove '..UptoSaid'. A law counts once. -/
mutual
def uptoBulk {H : Type} : DataW H → Nat
  | .lit (.string bytes) => bytes.length + 1
  | .lit _ => 1
  | .nil => 1
  | .ptr d => uptoBulk d + 1
  | .slice elems spare => uptoBulkAll elems + uptoBulkAll spare + 1
  | .agg parts => uptoBulkAll parts + 1
  | .iface _ d => uptoBulk d + 1
  | .map entries => uptoBulkEntries entries + 1
  | .held _ => 1
def uptoBulkAll {H : Type} : List (DataW H) → Nat
  | [] => 0
  | d :: r => uptoBulk d + uptoBulkAll r
def uptoBulkEntries {H : Type} : List (Lit × DataW H) → Nat
  | [] => 0
  | x :: r => uptoBulkEntry x + uptoBulkEntries r
def uptoBulkEntry {H : Type} : Lit × DataW H → Nat
  | (.string bytes, d) => bytes.length + uptoBulk d + 1
  | (_, d) => uptoBulk d + 1
 end
def uptoSmall : (H : Type) → List (DataW H) → Bool := fun _ ds => decide (uptoBulkAll ds ≤ 1048576)
def OpenSpec.upto (s : _root_.Go.ChangeSpec) : _root_.Go.OpenSpec := { _root_.Go.OpenSpec.ofChange s with cond := some uptoSmall }

/-- 'slopchestlaw.OptimalSpec', WHERE WHAT IT READS IS OF BULK AT MOST 1048576: true; the input reads as it did. -/
def optimalSpecUptoRow : OpenClaim := { program := "ytmhhiddnkdcflaa", sum := "4e8798383536582e80733d9a2544c6648957efbf864fe59aa09f47cdeef140f4", func := "slopchest/slopchestlaw.OptimalSpec", spec := "optimalSpec", unfollowed := true, recurses := true, apart := false, narrowed := true }
def OptimalSpecUptoSaid : Prop := optimalSpecUptoRow.holds Try.pinned (OpenSpec.upto optimalSpecSpec)

/-- 'slopchestlaw.OptimalBeats', WHERE WHAT IT READS IS OF BULK AT MOST 1048576: true; the input reads as it did. -/
def optimalBeatsUptoRow : OpenClaim := { program := "ytmhhiddnkdcflaa", sum := "4e8798383536582e80733d9a2544c6648957efbf864fe59aa09f47cdeef140f4", func := "slopchest/slopchestlaw.OptimalBeats", spec := "optimalBeats", inPlace := ["slices.overlaps[int]", "slices.overlaps[slopchest/api.Use]"], unfollowed := true, recurses := true, apart := false, narrowed := true }
def OptimalBeatsUptoSaid : Prop := optimalBeatsUptoRow.holds Try.pinned (OpenSpec.upto optimalBeatsSpec)

/-- 'slopchestlaw.OptimalFewest', WHERE WHAT IT READS IS OF BULK AT MOST 1048576: true; the input reads as it did. -/
def optimalFewestUptoRow : OpenClaim := { program := "ytmhhiddnkdcflaa", sum := "4e8798383536582e80733d9a2544c6648957efbf864fe59aa09f47cdeef140f4", func := "slopchest/slopchestlaw.OptimalFewest", spec := "optimalFewest", unfollowed := true, recurses := true, apart := false, narrowed := true }
def OptimalFewestUptoSaid : Prop := optimalFewestUptoRow.holds Try.pinned (OpenSpec.upto optimalFewestSpec)

/-- 'slopchestlaw.OptimalRoom', WHERE WHAT IT READS IS OF BULK AT MOST 1048576: true; the input reads as it did. -/
def optimalRoomUptoRow : OpenClaim := { program := "ytmhhiddnkdcflaa", sum := "4e8798383536582e80733d9a2544c6648957efbf864fe59aa09f47cdeef140f4", func := "slopchest/slopchestlaw.OptimalRoom", spec := "optimalRoom", inPlace := ["slices.overlaps[int]"], unfollowed := true, recurses := true, apart := false, narrowed := true }
def OptimalRoomUptoSaid : Prop := optimalRoomUptoRow.holds Try.pinned (OpenSpec.upto optimalRoomSpec)

end Rows
end Go.Proofs.Ytmhhiddnkdcflaa
