/-
  No cell of these rows narrows 'for every input' (looked for: loops, veiled, ifaces, maps, wideKeys, modest, calm, conditions, laid).
  DERIVED. THE GIVEN ROWS OF THIS SEAT. 5 by the template 'for every input the law returns true; each argument reads behind the call as it read before'; 0 by the template 'total and deterministic' (their statements: YtdcimkllonflkaaTotals.lean).
  GIVEN WITH THE SEED: the statements are not yours to turn. If you find one false, say at which input.
  Laid BY PROGRAM, IN A SANDBOX (cutbox-rows.mjs): the forced cells as the released guide's own fill.sh prints them over the translation 5c4c8ab4d2222f05… (all of the seat's roots in one cut). By AI agents, Wed Nov 11 2026. No macro, syntax, notation, axiom, sorry.
-/
import Derived.Test.YtdcimkllonflkaaChecked
import GoSem.Claim
import GoSem.ClaimJoined
import GoSem.ClaimMapViews
import Derived.JoinedTies
import Derived.KernelRfl
namespace Go.Proofs.Ytdcimkllonflkaa
/- THE CELL 'sum', in the pinned program and in every row, IS THE sha256 OF THE DUMP (.gsa) THAT YtdcimkllonflkaaProg.lean LOADS. Nothing in Lean hashes anything: it is a label: what it is worth is what the hold of that sum in a sandbox is worth. -/
noncomputable def Try.pinned : Pinned := { name := "ytdcimkllonflkaa", sum := "5c4c8ab4d2222f056581d57700299ac6154cdb868690358310c5a7092762ecaf", checked := Try.checked }
namespace Rows
def none {H : Type} : Left H := { results := [], args := [] }

/-- 'slopchestlaw.ClockSpec': WHATEVER THE INPUT: true; the input reads as it did. -/
def clockSpecSpec : ChangeSpec := { name := "clockSpec", fn := fun _ => fun
  | [d1, d2, d3] => { results := [.lit (.bool true)], args := [d1, d2, d3] }
  | _ => none }
def clockSpecRow : OpenClaim := { program := "ytdcimkllonflkaa", sum := "5c4c8ab4d2222f056581d57700299ac6154cdb868690358310c5a7092762ecaf", func := "slopchest/slopchestlaw.ClockSpec", spec := "clockSpec", unfollowed := true, recurses := true, apart := false }
def ClockSpecSaid : Prop := clockSpecRow.holds Try.pinned (OpenSpec.ofChange clockSpecSpec)

/-- ITS FALSE NEIGHBOUR: 'it returns false'. Refute it at one input. -/
def clockSpecWrong : ChangeSpec := { name := "clockSpec", fn := fun _ => fun
  | [d1, d2, d3] => { results := [.lit (.bool false)], args := [d1, d2, d3] }
  | _ => none }
def ClockSpecWrongFalsely : Prop := clockSpecRow.holds Try.pinned (OpenSpec.ofChange clockSpecWrong)

/-- 'slopchestlaw.ClockParts': WHATEVER THE INPUT: true; the input reads as it did. -/
def clockPartsSpec : ChangeSpec := { name := "clockParts", fn := fun _ => fun
  | [d1, d2, d3] => { results := [.lit (.bool true)], args := [d1, d2, d3] }
  | _ => none }
def clockPartsRow : OpenClaim := { program := "ytdcimkllonflkaa", sum := "5c4c8ab4d2222f056581d57700299ac6154cdb868690358310c5a7092762ecaf", func := "slopchest/slopchestlaw.ClockParts", spec := "clockParts", unfollowed := true, recurses := true, apart := false }
def ClockPartsSaid : Prop := clockPartsRow.holds Try.pinned (OpenSpec.ofChange clockPartsSpec)

/-- ITS FALSE NEIGHBOUR: 'it returns false'. Refute it at one input. -/
def clockPartsWrong : ChangeSpec := { name := "clockParts", fn := fun _ => fun
  | [d1, d2, d3] => { results := [.lit (.bool false)], args := [d1, d2, d3] }
  | _ => none }
def ClockPartsWrongFalsely : Prop := clockPartsRow.holds Try.pinned (OpenSpec.ofChange clockPartsWrong)

/-- 'slopchestlaw.ClockSpares': WHATEVER THE INPUT: true; the input reads as it did. -/
def clockSparesSpec : ChangeSpec := { name := "clockSpares", fn := fun _ => fun
  | [d1, d2] => { results := [.lit (.bool true)], args := [d1, d2] }
  | _ => none }
def clockSparesRow : OpenClaim := { program := "ytdcimkllonflkaa", sum := "5c4c8ab4d2222f056581d57700299ac6154cdb868690358310c5a7092762ecaf", func := "slopchest/slopchestlaw.ClockSpares", spec := "clockSpares", unfollowed := true, recurses := true, apart := false }
def ClockSparesSaid : Prop := clockSparesRow.holds Try.pinned (OpenSpec.ofChange clockSparesSpec)

/-- ITS FALSE NEIGHBOUR: 'it returns false'. Refute it at one input. -/
def clockSparesWrong : ChangeSpec := { name := "clockSpares", fn := fun _ => fun
  | [d1, d2] => { results := [.lit (.bool false)], args := [d1, d2] }
  | _ => none }
def ClockSparesWrongFalsely : Prop := clockSparesRow.holds Try.pinned (OpenSpec.ofChange clockSparesWrong)

/-- 'slopchestlaw.ClockFifo': WHATEVER THE INPUT: true; the input reads as it did. -/
def clockFifoSpec : ChangeSpec := { name := "clockFifo", fn := fun _ => fun
  | [d1, d2] => { results := [.lit (.bool true)], args := [d1, d2] }
  | _ => none }
def clockFifoRow : OpenClaim := { program := "ytdcimkllonflkaa", sum := "5c4c8ab4d2222f056581d57700299ac6154cdb868690358310c5a7092762ecaf", func := "slopchest/slopchestlaw.ClockFifo", spec := "clockFifo", unfollowed := true, recurses := true, apart := false }
def ClockFifoSaid : Prop := clockFifoRow.holds Try.pinned (OpenSpec.ofChange clockFifoSpec)

/-- ITS FALSE NEIGHBOUR: 'it returns false'. Refute it at one input. -/
def clockFifoWrong : ChangeSpec := { name := "clockFifo", fn := fun _ => fun
  | [d1, d2] => { results := [.lit (.bool false)], args := [d1, d2] }
  | _ => none }
def ClockFifoWrongFalsely : Prop := clockFifoRow.holds Try.pinned (OpenSpec.ofChange clockFifoWrong)

/-- 'slopchesttop.TopFifo': WHATEVER THE INPUT: true; the input reads as it did. -/
def topFifoSpec : ChangeSpec := { name := "topFifo", fn := fun _ => fun
  | [d1, d2] => { results := [.lit (.bool true)], args := [d1, d2] }
  | _ => none }
def topFifoRow : OpenClaim := { program := "ytdcimkllonflkaa", sum := "5c4c8ab4d2222f056581d57700299ac6154cdb868690358310c5a7092762ecaf", func := "slopchest/slopchesttop.TopFifo", spec := "topFifo", inPlace := ["slices.overlaps[int]"], unfollowed := true, recurses := true, apart := false }
def TopFifoSaid : Prop := topFifoRow.holds Try.pinned (OpenSpec.ofChange topFifoSpec)

/-- ITS FALSE NEIGHBOUR: 'it returns false'. Refute it at one input. -/
def topFifoWrong : ChangeSpec := { name := "topFifo", fn := fun _ => fun
  | [d1, d2] => { results := [.lit (.bool false)], args := [d1, d2] }
  | _ => none }
def TopFifoWrongFalsely : Prop := topFifoRow.holds Try.pinned (OpenSpec.ofChange topFifoWrong)

/- THE SECOND FORM. 'bulk': how many values and letters a reading holds, each counted each time it is reached (what is shared counts as often as it is met; a slice's spare places count too). A statement '..UptoSaid' is the law's where the arguments, and the package variables that the reading takes, are together of bulk at most 1048576: NARROWER than '..Said'. Prove '..Said' where nothing that the law and all that it calls make is longer than what came in: it says more and counts as full. Else prove '..UptoSaid'. A law counts once. -/
mutual
def uptoBulk {H : Type} : DataW H → Nat
  | .lit (.string bytes) => bytes.length + 1
  | .lit _ => 1
  | .nil => 1
  | .ptr d => uptoBulk d + 1
  | .slice elems spare => uptoBulkAll elems + uptoBulkAll spare + 1
  | .agg parts => uptoBulkAll parts + 1
  | .iface _ d => uptoBulk d + 1
  | .map entries => uptoBulkEntries entries + 1
  | .held _ => 1
def uptoBulkAll {H : Type} : List (DataW H) → Nat
  | [] => 0
  | d :: r => uptoBulk d + uptoBulkAll r
def uptoBulkEntries {H : Type} : List (Lit × DataW H) → Nat
  | [] => 0
  | x :: r => uptoBulkEntry x + uptoBulkEntries r
def uptoBulkEntry {H : Type} : Lit × DataW H → Nat
  | (.string bytes, d) => bytes.length + uptoBulk d + 1
  | (_, d) => uptoBulk d + 1
 end
def uptoSmall : (H : Type) → List (DataW H) → Bool := fun _ ds => decide (uptoBulkAll ds ≤ 1048576)
def OpenSpec.upto (s : _root_.Go.ChangeSpec) : _root_.Go.OpenSpec := { _root_.Go.OpenSpec.ofChange s with cond := some uptoSmall }

/-- 'slopchestlaw.ClockSpec', WHERE WHAT IT READS IS OF BULK AT MOST 1048576: true; the input reads as it did. -/
def clockSpecUptoRow : OpenClaim := { program := "ytdcimkllonflkaa", sum := "5c4c8ab4d2222f056581d57700299ac6154cdb868690358310c5a7092762ecaf", func := "slopchest/slopchestlaw.ClockSpec", spec := "clockSpec", unfollowed := true, recurses := true, apart := false, narrowed := true }
def ClockSpecUptoSaid : Prop := clockSpecUptoRow.holds Try.pinned (OpenSpec.upto clockSpecSpec)

/-- 'slopchestlaw.ClockParts', WHERE WHAT IT READS IS OF BULK AT MOST 1048576: true; the input reads as it did. -/
def clockPartsUptoRow : OpenClaim := { program := "ytdcimkllonflkaa", sum := "5c4c8ab4d2222f056581d57700299ac6154cdb868690358310c5a7092762ecaf", func := "slopchest/slopchestlaw.ClockParts", spec := "clockParts", unfollowed := true, recurses := true, apart := false, narrowed := true }
def ClockPartsUptoSaid : Prop := clockPartsUptoRow.holds Try.pinned (OpenSpec.upto clockPartsSpec)

/-- 'slopchestlaw.ClockSpares', WHERE WHAT IT READS IS OF BULK AT MOST 1048576: true; the input reads as it did. -/
def clockSparesUptoRow : OpenClaim := { program := "ytdcimkllonflkaa", sum := "5c4c8ab4d2222f056581d57700299ac6154cdb868690358310c5a7092762ecaf", func := "slopchest/slopchestlaw.ClockSpares", spec := "clockSpares", unfollowed := true, recurses := true, apart := false, narrowed := true }
def ClockSparesUptoSaid : Prop := clockSparesUptoRow.holds Try.pinned (OpenSpec.upto clockSparesSpec)

/-- 'slopchestlaw.ClockFifo', WHERE WHAT IT READS IS OF BULK AT MOST 1048576: true; the input reads as it did. -/
def clockFifoUptoRow : OpenClaim := { program := "ytdcimkllonflkaa", sum := "5c4c8ab4d2222f056581d57700299ac6154cdb868690358310c5a7092762ecaf", func := "slopchest/slopchestlaw.ClockFifo", spec := "clockFifo", unfollowed := true, recurses := true, apart := false, narrowed := true }
def ClockFifoUptoSaid : Prop := clockFifoUptoRow.holds Try.pinned (OpenSpec.upto clockFifoSpec)

/-- 'slopchesttop.TopFifo', WHERE WHAT IT READS IS OF BULK AT MOST 1048576: true; the input reads as it did. -/
def topFifoUptoRow : OpenClaim := { program := "ytdcimkllonflkaa", sum := "5c4c8ab4d2222f056581d57700299ac6154cdb868690358310c5a7092762ecaf", func := "slopchest/slopchesttop.TopFifo", spec := "topFifo", inPlace := ["slices.overlaps[int]"], unfollowed := true, recurses := true, apart := false, narrowed := true }
def TopFifoUptoSaid : Prop := topFifoUptoRow.holds Try.pinned (OpenSpec.upto topFifoSpec)

end Rows
end Go.Proofs.Ytdcimkllonflkaa
