/-
  No cell of these rows narrows 'for every input' (looked for: loops, veiled, ifaces, maps, wideKeys, modest, calm, conditions, laid).
  DERIVED. THE GIVEN ROWS OF THIS SEAT. 5 by the template 'for every input the law returns true; each argument reads behind the call as it read before'; 0 by the template 'total and deterministic' (their statements: YtjmhemkbfephpaaTotals.lean).
  GIVEN WITH THE SEED: the statements are not yours to turn. If you find one false, say at which input.
  Laid BY PROGRAM, IN A SANDBOX (cutbox-rows.mjs): the forced cells as the released guide's own fill.sh prints them over the translation 7d57e2f5a42eaf4d… (all of the seat's roots in one cut). By AI agents, Wed Nov 11 2026. No macro, syntax, notation, axiom, sorry.
-/
import Derived.Test.YtjmhemkbfephpaaChecked
import GoSem.Claim
import GoSem.ClaimJoined
import GoSem.ClaimMapViews
import Derived.JoinedTies
import Derived.KernelRfl
namespace Go.Proofs.Ytjmhemkbfephpaa
/- THE CELL 'sum', in the pinned program and in every row, IS THE sha256 OF THE DUMP (.gsa) THAT YtjmhemkbfephpaaProg.lean LOADS. Nothing in Lean hashes anything: it is a label: what it is worth is what the hold of that sum in a sandbox is worth. -/
noncomputable def Try.pinned : Pinned := { name := "ytjmhemkbfephpaa", sum := "7d57e2f5a42eaf4d4aa89713ad2a2708f8e6bb70d9f109faa9672420ebaf83a9", checked := Try.checked }
namespace Rows
def none {H : Type} : Left H := { results := [], args := [] }

/-- 'slopchestlaw.RingSpec': WHATEVER THE INPUT: true; the input reads as it did. -/
def ringSpecSpec : ChangeSpec := { name := "ringSpec", fn := fun _ => fun
  | [d1, d2, d3, d4, d5] => { results := [.lit (.bool true)], args := [d1, d2, d3, d4, d5] }
  | _ => none }
def ringSpecRow : OpenClaim := { program := "ytjmhemkbfephpaa", sum := "7d57e2f5a42eaf4d4aa89713ad2a2708f8e6bb70d9f109faa9672420ebaf83a9", func := "slopchest/slopchestlaw.RingSpec", spec := "ringSpec", unfollowed := true, recurses := true, apart := false }
def RingSpecSaid : Prop := ringSpecRow.holds Try.pinned (OpenSpec.ofChange ringSpecSpec)

/-- ITS FALSE NEIGHBOUR: 'it returns false'. Refute it at one input. -/
def ringSpecWrong : ChangeSpec := { name := "ringSpec", fn := fun _ => fun
  | [d1, d2, d3, d4, d5] => { results := [.lit (.bool false)], args := [d1, d2, d3, d4, d5] }
  | _ => none }
def RingSpecWrongFalsely : Prop := ringSpecRow.holds Try.pinned (OpenSpec.ofChange ringSpecWrong)

/-- 'slopchestlaw.RingMoves': WHATEVER THE INPUT: true; the input reads as it did. -/
def ringMovesSpec : ChangeSpec := { name := "ringMoves", fn := fun _ => fun
  | [d1, d2, d3, d4] => { results := [.lit (.bool true)], args := [d1, d2, d3, d4] }
  | _ => none }
def ringMovesRow : OpenClaim := { program := "ytjmhemkbfephpaa", sum := "7d57e2f5a42eaf4d4aa89713ad2a2708f8e6bb70d9f109faa9672420ebaf83a9", func := "slopchest/slopchestlaw.RingMoves", spec := "ringMoves", unfollowed := true, recurses := true, apart := false }
def RingMovesSaid : Prop := ringMovesRow.holds Try.pinned (OpenSpec.ofChange ringMovesSpec)

/-- ITS FALSE NEIGHBOUR: 'it returns false'. Refute it at one input. -/
def ringMovesWrong : ChangeSpec := { name := "ringMoves", fn := fun _ => fun
  | [d1, d2, d3, d4] => { results := [.lit (.bool false)], args := [d1, d2, d3, d4] }
  | _ => none }
def RingMovesWrongFalsely : Prop := ringMovesRow.holds Try.pinned (OpenSpec.ofChange ringMovesWrong)

/-- 'slopchestlaw.RingShares': WHATEVER THE INPUT: true; the input reads as it did. -/
def ringSharesSpec : ChangeSpec := { name := "ringShares", fn := fun _ => fun
  | [d1, d2, d3] => { results := [.lit (.bool true)], args := [d1, d2, d3] }
  | _ => none }
def ringSharesRow : OpenClaim := { program := "ytjmhemkbfephpaa", sum := "7d57e2f5a42eaf4d4aa89713ad2a2708f8e6bb70d9f109faa9672420ebaf83a9", func := "slopchest/slopchestlaw.RingShares", spec := "ringShares", unfollowed := true, recurses := true, apart := false }
def RingSharesSaid : Prop := ringSharesRow.holds Try.pinned (OpenSpec.ofChange ringSharesSpec)

/-- ITS FALSE NEIGHBOUR: 'it returns false'. Refute it at one input. -/
def ringSharesWrong : ChangeSpec := { name := "ringShares", fn := fun _ => fun
  | [d1, d2, d3] => { results := [.lit (.bool false)], args := [d1, d2, d3] }
  | _ => none }
def RingSharesWrongFalsely : Prop := ringSharesRow.holds Try.pinned (OpenSpec.ofChange ringSharesWrong)

/-- 'slopchestlaw.RingRestores': WHATEVER THE INPUT: true; the input reads as it did. -/
def ringRestoresSpec : ChangeSpec := { name := "ringRestores", fn := fun _ => fun
  | [d1, d2, d3] => { results := [.lit (.bool true)], args := [d1, d2, d3] }
  | _ => none }
def ringRestoresRow : OpenClaim := { program := "ytjmhemkbfephpaa", sum := "7d57e2f5a42eaf4d4aa89713ad2a2708f8e6bb70d9f109faa9672420ebaf83a9", func := "slopchest/slopchestlaw.RingRestores", spec := "ringRestores", unfollowed := true, recurses := true, apart := false }
def RingRestoresSaid : Prop := ringRestoresRow.holds Try.pinned (OpenSpec.ofChange ringRestoresSpec)

/-- ITS FALSE NEIGHBOUR: 'it returns false'. Refute it at one input. -/
def ringRestoresWrong : ChangeSpec := { name := "ringRestores", fn := fun _ => fun
  | [d1, d2, d3] => { results := [.lit (.bool false)], args := [d1, d2, d3] }
  | _ => none }
def RingRestoresWrongFalsely : Prop := ringRestoresRow.holds Try.pinned (OpenSpec.ofChange ringRestoresWrong)

/-- 'slopchesttop.TopShards': WHATEVER THE INPUT: true; the input reads as it did. -/
def topShardsSpec : ChangeSpec := { name := "topShards", fn := fun _ => fun
  | [d1, d2, d3, d4] => { results := [.lit (.bool true)], args := [d1, d2, d3, d4] }
  | _ => none }
def topShardsRow : OpenClaim := { program := "ytjmhemkbfephpaa", sum := "7d57e2f5a42eaf4d4aa89713ad2a2708f8e6bb70d9f109faa9672420ebaf83a9", func := "slopchest/slopchesttop.TopShards", spec := "topShards", inPlace := ["slices.overlaps[int]"], unfollowed := true, recurses := true, apart := false }
def TopShardsSaid : Prop := topShardsRow.holds Try.pinned (OpenSpec.ofChange topShardsSpec)

/-- ITS FALSE NEIGHBOUR: 'it returns false'. Refute it at one input. -/
def topShardsWrong : ChangeSpec := { name := "topShards", fn := fun _ => fun
  | [d1, d2, d3, d4] => { results := [.lit (.bool false)], args := [d1, d2, d3, d4] }
  | _ => none }
def TopShardsWrongFalsely : Prop := topShardsRow.holds Try.pinned (OpenSpec.ofChange topShardsWrong)

/- THE SECOND FORM. 'bulk': how many values and letters a reading holds, each counted each time it is reached (what is shared counts as often as it is met; a slice's spare places count too). A statement '..UptoSaid' is the law's where the arguments, and the package variables that the reading takes, are together of bulk at most 1048576: NARROWER than '..Said'. Prove '..Said' where nothing that the law and all that it calls make is longer than what came in: it says more and counts as full. Else prove '..UptoSaid'. A law counts once. -/
mutual
def uptoBulk {H : Type} : DataW H → Nat
  | .lit (.string bytes) => bytes.length + 1
  | .lit _ => 1
  | .nil => 1
  | .ptr d => uptoBulk d + 1
  | .slice elems spare => uptoBulkAll elems + uptoBulkAll spare + 1
  | .agg parts => uptoBulkAll parts + 1
  | .iface _ d => uptoBulk d + 1
  | .map entries => uptoBulkEntries entries + 1
  | .held _ => 1
def uptoBulkAll {H : Type} : List (DataW H) → Nat
  | [] => 0
  | d :: r => uptoBulk d + uptoBulkAll r
def uptoBulkEntries {H : Type} : List (Lit × DataW H) → Nat
  | [] => 0
  | x :: r => uptoBulkEntry x + uptoBulkEntries r
def uptoBulkEntry {H : Type} : Lit × DataW H → Nat
  | (.string bytes, d) => bytes.length + uptoBulk d + 1
  | (_, d) => uptoBulk d + 1
 end
def uptoSmall : (H : Type) → List (DataW H) → Bool := fun _ ds => decide (uptoBulkAll ds ≤ 1048576)
def OpenSpec.upto (s : _root_.Go.ChangeSpec) : _root_.Go.OpenSpec := { _root_.Go.OpenSpec.ofChange s with cond := some uptoSmall }

/-- 'slopchestlaw.RingSpec', WHERE WHAT IT READS IS OF BULK AT MOST 1048576: true; the input reads as it did. -/
def ringSpecUptoRow : OpenClaim := { program := "ytjmhemkbfephpaa", sum := "7d57e2f5a42eaf4d4aa89713ad2a2708f8e6bb70d9f109faa9672420ebaf83a9", func := "slopchest/slopchestlaw.RingSpec", spec := "ringSpec", unfollowed := true, recurses := true, apart := false, narrowed := true }
def RingSpecUptoSaid : Prop := ringSpecUptoRow.holds Try.pinned (OpenSpec.upto ringSpecSpec)

/-- 'slopchestlaw.RingMoves', WHERE WHAT IT READS IS OF BULK AT MOST 1048576: true; the input reads as it did. -/
def ringMovesUptoRow : OpenClaim := { program := "ytjmhemkbfephpaa", sum := "7d57e2f5a42eaf4d4aa89713ad2a2708f8e6bb70d9f109faa9672420ebaf83a9", func := "slopchest/slopchestlaw.RingMoves", spec := "ringMoves", unfollowed := true, recurses := true, apart := false, narrowed := true }
def RingMovesUptoSaid : Prop := ringMovesUptoRow.holds Try.pinned (OpenSpec.upto ringMovesSpec)

/-- 'slopchestlaw.RingShares', WHERE WHAT IT READS IS OF BULK AT MOST 1048576: true; the input reads as it did. -/
def ringSharesUptoRow : OpenClaim := { program := "ytjmhemkbfephpaa", sum := "7d57e2f5a42eaf4d4aa89713ad2a2708f8e6bb70d9f109faa9672420ebaf83a9", func := "slopchest/slopchestlaw.RingShares", spec := "ringShares", unfollowed := true, recurses := true, apart := false, narrowed := true }
def RingSharesUptoSaid : Prop := ringSharesUptoRow.holds Try.pinned (OpenSpec.upto ringSharesSpec)

/-- 'slopchestlaw.RingRestores', WHERE WHAT IT READS IS OF BULK AT MOST 1048576: true; the input reads as it did. -/
def ringRestoresUptoRow : OpenClaim := { program := "ytjmhemkbfephpaa", sum := "7d57e2f5a42eaf4d4aa89713ad2a2708f8e6bb70d9f109faa9672420ebaf83a9", func := "slopchest/slopchestlaw.RingRestores", spec := "ringRestores", unfollowed := true, recurses := true, apart := false, narrowed := true }
def RingRestoresUptoSaid : Prop := ringRestoresUptoRow.holds Try.pinned (OpenSpec.upto ringRestoresSpec)

/-- 'slopchesttop.TopShards', WHERE WHAT IT READS IS OF BULK AT MOST 1048576: true; the input reads as it did. -/
def topShardsUptoRow : OpenClaim := { program := "ytjmhemkbfephpaa", sum := "7d57e2f5a42eaf4d4aa89713ad2a2708f8e6bb70d9f109faa9672420ebaf83a9", func := "slopchest/slopchesttop.TopShards", spec := "topShards", inPlace := ["slices.overlaps[int]"], unfollowed := true, recurses := true, apart := false, narrowed := true }
def TopShardsUptoSaid : Prop := topShardsUptoRow.holds Try.pinned (OpenSpec.upto topShardsSpec)

end Rows
end Go.Proofs.Ytjmhemkbfephpaa
