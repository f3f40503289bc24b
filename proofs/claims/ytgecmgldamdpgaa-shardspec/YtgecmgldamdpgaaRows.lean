/-
  No cell of these rows narrows 'for every input' (looked for: loops, veiled, ifaces, maps, wideKeys, modest, calm, conditions, laid).
  DERIVED. THE GIVEN ROWS OF THIS SEAT. 4 by the template 'for every input the law returns true; each argument reads behind the call as it read before'; 0 by the template 'total and deterministic' (their statements: YtgecmgldamdpgaaTotals.lean).
  GIVEN WITH THE SEED: the statements are not yours to turn. If you find one false, say at which input.
  Laid BY PROGRAM, IN A SANDBOX (cutbox-rows.mjs): the forced cells as the released guide's own fill.sh prints them over the translation f202817160766cd6… (all of the seat's roots in one cut). By AI agents, Wed Nov 11 2026. No macro, syntax, notation, axiom, sorry.
-/
import Derived.Test.YtgecmgldamdpgaaChecked
import GoSem.Claim
import GoSem.ClaimJoined
import GoSem.ClaimMapViews
import Derived.JoinedTies
import Derived.KernelRfl
namespace Go.Proofs.Ytgecmgldamdpgaa
/- THE CELL 'sum', in the pinned program and in every row, IS THE sha256 OF THE DUMP (.gsa) THAT YtgecmgldamdpgaaProg.lean LOADS. Nothing in Lean hashes anything: it is a label: what it is worth is what the hold of that sum in a sandbox is worth. -/
noncomputable def Try.pinned : Pinned := { name := "ytgecmgldamdpgaa", sum := "f202817160766cd69c5098225e578ce0df785128370f7b32a3232cb1c20453ca", checked := Try.checked }
namespace Rows
def none {H : Type} : Left H := { results := [], args := [] }

/-- 'slopchestlaw.ShardSpec': WHATEVER THE INPUT: true; the input reads as it did. -/
def shardSpecSpec : ChangeSpec := { name := "shardSpec", fn := fun _ => fun
  | [d1, d2, d3, d4] => { results := [.lit (.bool true)], args := [d1, d2, d3, d4] }
  | _ => none }
def shardSpecRow : OpenClaim := { program := "ytgecmgldamdpgaa", sum := "f202817160766cd69c5098225e578ce0df785128370f7b32a3232cb1c20453ca", func := "slopchest/slopchestlaw.ShardSpec", spec := "shardSpec", unfollowed := true, recurses := true, apart := false }
def ShardSpecSaid : Prop := shardSpecRow.holds Try.pinned (OpenSpec.ofChange shardSpecSpec)

/-- ITS FALSE NEIGHBOUR: 'it returns false'. Refute it at one input. -/
def shardSpecWrong : ChangeSpec := { name := "shardSpec", fn := fun _ => fun
  | [d1, d2, d3, d4] => { results := [.lit (.bool false)], args := [d1, d2, d3, d4] }
  | _ => none }
def ShardSpecWrongFalsely : Prop := shardSpecRow.holds Try.pinned (OpenSpec.ofChange shardSpecWrong)

/-- 'slopchestlaw.ShardMoves': WHATEVER THE INPUT: true; the input reads as it did. -/
def shardMovesSpec : ChangeSpec := { name := "shardMoves", fn := fun _ => fun
  | [d1, d2, d3] => { results := [.lit (.bool true)], args := [d1, d2, d3] }
  | _ => none }
def shardMovesRow : OpenClaim := { program := "ytgecmgldamdpgaa", sum := "f202817160766cd69c5098225e578ce0df785128370f7b32a3232cb1c20453ca", func := "slopchest/slopchestlaw.ShardMoves", spec := "shardMoves", unfollowed := true, recurses := true, apart := false }
def ShardMovesSaid : Prop := shardMovesRow.holds Try.pinned (OpenSpec.ofChange shardMovesSpec)

/-- ITS FALSE NEIGHBOUR: 'it returns false'. Refute it at one input. -/
def shardMovesWrong : ChangeSpec := { name := "shardMoves", fn := fun _ => fun
  | [d1, d2, d3] => { results := [.lit (.bool false)], args := [d1, d2, d3] }
  | _ => none }
def ShardMovesWrongFalsely : Prop := shardMovesRow.holds Try.pinned (OpenSpec.ofChange shardMovesWrong)

/-- 'slopchestlaw.ShardMinimal': WHATEVER THE INPUT: true; the input reads as it did. -/
def shardMinimalSpec : ChangeSpec := { name := "shardMinimal", fn := fun _ => fun
  | [d1, d2, d3] => { results := [.lit (.bool true)], args := [d1, d2, d3] }
  | _ => none }
def shardMinimalRow : OpenClaim := { program := "ytgecmgldamdpgaa", sum := "f202817160766cd69c5098225e578ce0df785128370f7b32a3232cb1c20453ca", func := "slopchest/slopchestlaw.ShardMinimal", spec := "shardMinimal", unfollowed := true, recurses := true, apart := false }
def ShardMinimalSaid : Prop := shardMinimalRow.holds Try.pinned (OpenSpec.ofChange shardMinimalSpec)

/-- ITS FALSE NEIGHBOUR: 'it returns false'. Refute it at one input. -/
def shardMinimalWrong : ChangeSpec := { name := "shardMinimal", fn := fun _ => fun
  | [d1, d2, d3] => { results := [.lit (.bool false)], args := [d1, d2, d3] }
  | _ => none }
def ShardMinimalWrongFalsely : Prop := shardMinimalRow.holds Try.pinned (OpenSpec.ofChange shardMinimalWrong)

/-- 'slopchestlaw.ShardWeight': WHATEVER THE INPUT: true; the input reads as it did. -/
def shardWeightSpec : ChangeSpec := { name := "shardWeight", fn := fun _ => fun
  | [d1, d2, d3] => { results := [.lit (.bool true)], args := [d1, d2, d3] }
  | _ => none }
def shardWeightRow : OpenClaim := { program := "ytgecmgldamdpgaa", sum := "f202817160766cd69c5098225e578ce0df785128370f7b32a3232cb1c20453ca", func := "slopchest/slopchestlaw.ShardWeight", spec := "shardWeight", unfollowed := true, recurses := true, apart := false }
def ShardWeightSaid : Prop := shardWeightRow.holds Try.pinned (OpenSpec.ofChange shardWeightSpec)

/-- ITS FALSE NEIGHBOUR: 'it returns false'. Refute it at one input. -/
def shardWeightWrong : ChangeSpec := { name := "shardWeight", fn := fun _ => fun
  | [d1, d2, d3] => { results := [.lit (.bool false)], args := [d1, d2, d3] }
  | _ => none }
def ShardWeightWrongFalsely : Prop := shardWeightRow.holds Try.pinned (OpenSpec.ofChange shardWeightWrong)

/- THE SECOND FORM. 'bulk': how many values and letters a reading holds, each counted each time it is reached (what is shared counts as often as it is met; a slice's spare places count too). A statement '..UptoSaid' is the law's where the arguments, and the package variables that the reading takes, are together of bulk at most 1048576: NARROWER than '..Said'. Prove '..Said' where nothing that the law and all that it calls make is longer than what came in: it says more and counts as full. Else prove '..UptoSaid'. A law counts once. -/
mutual
def uptoBulk {H : Type} : DataW H → Nat
  | .lit (.string bytes) => bytes.length + 1
  | .lit _ => 1
  | .nil => 1
  | .ptr d => uptoBulk d + 1
  | .slice elems spare => uptoBulkAll elems + uptoBulkAll spare + 1
  | .agg parts => uptoBulkAll parts + 1
  | .iface _ d => uptoBulk d + 1
  | .map entries => uptoBulkEntries entries + 1
  | .held _ => 1
def uptoBulkAll {H : Type} : List (DataW H) → Nat
  | [] => 0
  | d :: r => uptoBulk d + uptoBulkAll r
def uptoBulkEntries {H : Type} : List (Lit × DataW H) → Nat
  | [] => 0
  | x :: r => uptoBulkEntry x + uptoBulkEntries r
def uptoBulkEntry {H : Type} : Lit × DataW H → Nat
  | (.string bytes, d) => bytes.length + uptoBulk d + 1
  | (_, d) => uptoBulk d + 1
 end
def uptoSmall : (H : Type) → List (DataW H) → Bool := fun _ ds => decide (uptoBulkAll ds ≤ 1048576)
def OpenSpec.upto (s : _root_.Go.ChangeSpec) : _root_.Go.OpenSpec := { _root_.Go.OpenSpec.ofChange s with cond := some uptoSmall }

/-- 'slopchestlaw.ShardSpec', WHERE WHAT IT READS IS OF BULK AT MOST 1048576: true; the input reads as it did. -/
def shardSpecUptoRow : OpenClaim := { program := "ytgecmgldamdpgaa", sum := "f202817160766cd69c5098225e578ce0df785128370f7b32a3232cb1c20453ca", func := "slopchest/slopchestlaw.ShardSpec", spec := "shardSpec", unfollowed := true, recurses := true, apart := false, narrowed := true }
def ShardSpecUptoSaid : Prop := shardSpecUptoRow.holds Try.pinned (OpenSpec.upto shardSpecSpec)

/-- 'slopchestlaw.ShardMoves', WHERE WHAT IT READS IS OF BULK AT MOST 1048576: true; the input reads as it did. -/
def shardMovesUptoRow : OpenClaim := { program := "ytgecmgldamdpgaa", sum := "f202817160766cd69c5098225e578ce0df785128370f7b32a3232cb1c20453ca", func := "slopchest/slopchestlaw.ShardMoves", spec := "shardMoves", unfollowed := true, recurses := true, apart := false, narrowed := true }
def ShardMovesUptoSaid : Prop := shardMovesUptoRow.holds Try.pinned (OpenSpec.upto shardMovesSpec)

/-- 'slopchestlaw.ShardMinimal', WHERE WHAT IT READS IS OF BULK AT MOST 1048576: true; the input reads as it did. -/
def shardMinimalUptoRow : OpenClaim := { program := "ytgecmgldamdpgaa", sum := "f202817160766cd69c5098225e578ce0df785128370f7b32a3232cb1c20453ca", func := "slopchest/slopchestlaw.ShardMinimal", spec := "shardMinimal", unfollowed := true, recurses := true, apart := false, narrowed := true }
def ShardMinimalUptoSaid : Prop := shardMinimalUptoRow.holds Try.pinned (OpenSpec.upto shardMinimalSpec)

/-- 'slopchestlaw.ShardWeight', WHERE WHAT IT READS IS OF BULK AT MOST 1048576: true; the input reads as it did. -/
def shardWeightUptoRow : OpenClaim := { program := "ytgecmgldamdpgaa", sum := "f202817160766cd69c5098225e578ce0df785128370f7b32a3232cb1c20453ca", func := "slopchest/slopchestlaw.ShardWeight", spec := "shardWeight", unfollowed := true, recurses := true, apart := false, narrowed := true }
def ShardWeightUptoSaid : Prop := shardWeightUptoRow.holds Try.pinned (OpenSpec.upto shardWeightSpec)

end Rows
end Go.Proofs.Ytgecmgldamdpgaa
