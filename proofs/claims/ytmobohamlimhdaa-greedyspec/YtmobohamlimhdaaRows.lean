/-
  No cell of these rows narrows 'for every input' (looked for: loops, veiled, ifaces, maps, wideKeys, modest, calm, conditions, laid).
  DERIVED. THE GIVEN ROWS OF THIS SEAT. 4 by the template 'for every input the law returns true; each argument reads behind the call as it read before'; 0 by the template 'total and deterministic' (their statements: YtmobohamlimhdaaTotals.lean).
  GIVEN WITH THE SEED: the statements are not yours to turn. If you find one false, say at which input.
  Laid BY PROGRAM, IN A SANDBOX (cutbox-rows.mjs): the forced cells as the released guide's own fill.sh prints them over the translation 1393b72d928b7c2d… (all of the seat's roots in one cut). By AI agents, Wed Nov 11 2026. No macro, syntax, notation, axiom, sorry.
-/
import Derived.Test.YtmobohamlimhdaaChecked
import GoSem.Claim
import GoSem.ClaimJoined
import GoSem.ClaimMapViews
import Derived.JoinedTies
import Derived.KernelRfl
namespace Go.Proofs.Ytmobohamlimhdaa
/- THE CELL 'sum', in the pinned program and in every row, IS THE sha256 OF THE DUMP (.gsa) THAT YtmobohamlimhdaaProg.lean LOADS. Nothing in Lean hashes anything: it is a label: what it is worth is what the hold of that sum in a sandbox is worth. -/
noncomputable def Try.pinned : Pinned := { name := "ytmobohamlimhdaa", sum := "1393b72d928b7c2d66f8d91c0f1a3fc8e616a950c675431b9f78dcf6d4d713af", checked := Try.checked }
namespace Rows
def none {H : Type} : Left H := { results := [], args := [] }

/-- 'slopchestlaw.GreedySpec': WHATEVER THE INPUT: true; the input reads as it did. -/
def greedySpecSpec : ChangeSpec := { name := "greedySpec", fn := fun _ => fun
  | [d1, d2] => { results := [.lit (.bool true)], args := [d1, d2] }
  | _ => none }
def greedySpecRow : OpenClaim := { program := "ytmobohamlimhdaa", sum := "1393b72d928b7c2d66f8d91c0f1a3fc8e616a950c675431b9f78dcf6d4d713af", func := "slopchest/slopchestlaw.GreedySpec", spec := "greedySpec", unfollowed := true, recurses := true, apart := false }
def GreedySpecSaid : Prop := greedySpecRow.holds Try.pinned (OpenSpec.ofChange greedySpecSpec)

/-- ITS FALSE NEIGHBOUR: 'it returns false'. Refute it at one input. -/
def greedySpecWrong : ChangeSpec := { name := "greedySpec", fn := fun _ => fun
  | [d1, d2] => { results := [.lit (.bool false)], args := [d1, d2] }
  | _ => none }
def GreedySpecWrongFalsely : Prop := greedySpecRow.holds Try.pinned (OpenSpec.ofChange greedySpecWrong)

/-- 'slopchestlaw.GreedyFits': WHATEVER THE INPUT: true; the input reads as it did. -/
def greedyFitsSpec : ChangeSpec := { name := "greedyFits", fn := fun _ => fun
  | [d1, d2] => { results := [.lit (.bool true)], args := [d1, d2] }
  | _ => none }
def greedyFitsRow : OpenClaim := { program := "ytmobohamlimhdaa", sum := "1393b72d928b7c2d66f8d91c0f1a3fc8e616a950c675431b9f78dcf6d4d713af", func := "slopchest/slopchestlaw.GreedyFits", spec := "greedyFits", unfollowed := true, recurses := true, apart := false }
def GreedyFitsSaid : Prop := greedyFitsRow.holds Try.pinned (OpenSpec.ofChange greedyFitsSpec)

/-- ITS FALSE NEIGHBOUR: 'it returns false'. Refute it at one input. -/
def greedyFitsWrong : ChangeSpec := { name := "greedyFits", fn := fun _ => fun
  | [d1, d2] => { results := [.lit (.bool false)], args := [d1, d2] }
  | _ => none }
def GreedyFitsWrongFalsely : Prop := greedyFitsRow.holds Try.pinned (OpenSpec.ofChange greedyFitsWrong)

/-- 'slopchestlaw.GreedyVictims': WHATEVER THE INPUT: true; the input reads as it did. -/
def greedyVictimsSpec : ChangeSpec := { name := "greedyVictims", fn := fun _ => fun
  | [d1, d2] => { results := [.lit (.bool true)], args := [d1, d2] }
  | _ => none }
def greedyVictimsRow : OpenClaim := { program := "ytmobohamlimhdaa", sum := "1393b72d928b7c2d66f8d91c0f1a3fc8e616a950c675431b9f78dcf6d4d713af", func := "slopchest/slopchestlaw.GreedyVictims", spec := "greedyVictims", unfollowed := true, recurses := true, apart := false }
def GreedyVictimsSaid : Prop := greedyVictimsRow.holds Try.pinned (OpenSpec.ofChange greedyVictimsSpec)

/-- ITS FALSE NEIGHBOUR: 'it returns false'. Refute it at one input. -/
def greedyVictimsWrong : ChangeSpec := { name := "greedyVictims", fn := fun _ => fun
  | [d1, d2] => { results := [.lit (.bool false)], args := [d1, d2] }
  | _ => none }
def GreedyVictimsWrongFalsely : Prop := greedyVictimsRow.holds Try.pinned (OpenSpec.ofChange greedyVictimsWrong)

/-- 'slopchestlaw.GreedyEqual': WHATEVER THE INPUT: true; the input reads as it did. -/
def greedyEqualSpec : ChangeSpec := { name := "greedyEqual", fn := fun _ => fun
  | [d1, d2] => { results := [.lit (.bool true)], args := [d1, d2] }
  | _ => none }
def greedyEqualRow : OpenClaim := { program := "ytmobohamlimhdaa", sum := "1393b72d928b7c2d66f8d91c0f1a3fc8e616a950c675431b9f78dcf6d4d713af", func := "slopchest/slopchestlaw.GreedyEqual", spec := "greedyEqual", unfollowed := true, recurses := true, apart := false }
def GreedyEqualSaid : Prop := greedyEqualRow.holds Try.pinned (OpenSpec.ofChange greedyEqualSpec)

/-- ITS FALSE NEIGHBOUR: 'it returns false'. Refute it at one input. -/
def greedyEqualWrong : ChangeSpec := { name := "greedyEqual", fn := fun _ => fun
  | [d1, d2] => { results := [.lit (.bool false)], args := [d1, d2] }
  | _ => none }
def GreedyEqualWrongFalsely : Prop := greedyEqualRow.holds Try.pinned (OpenSpec.ofChange greedyEqualWrong)

/- THE SECOND FORM. 'bulk': how many values and letters a reading holds, each counted each time it is reached (what is shared counts as often as it is met; a slice's spare places count too). A statement '..UptoSaid' is the law's where the arguments, and the package variables that the reading takes, are together of bulk at most 1048576: NARROWER than '..Said'. Prove '..Said' where nothing that the law and all that it calls make is longer than what came in: it says more and counts as full. Else prove '..UptoSaid'. A law counts once. -/
mutual
def uptoBulk {H : Type} : DataW H → Nat
  | .lit (.string bytes) => bytes.length + 1
  | .lit _ => 1
  | .nil => 1
  | .ptr d => uptoBulk d + 1
  | .slice elems spare => uptoBulkAll elems + uptoBulkAll spare + 1
  | .agg parts => uptoBulkAll parts + 1
  | .iface _ d => uptoBulk d + 1
  | .map entries => uptoBulkEntries entries + 1
  | .held _ => 1
def uptoBulkAll {H : Type} : List (DataW H) → Nat
  | [] => 0
  | d :: r => uptoBulk d + uptoBulkAll r
def uptoBulkEntries {H : Type} : List (Lit × DataW H) → Nat
  | [] => 0
  | x :: r => uptoBulkEntry x + uptoBulkEntries r
def uptoBulkEntry {H : Type} : Lit × DataW H → Nat
  | (.string bytes, d) => bytes.length + uptoBulk d + 1
  | (_, d) => uptoBulk d + 1
 end
def uptoSmall : (H : Type) → List (DataW H) → Bool := fun _ ds => decide (uptoBulkAll ds ≤ 1048576)
def OpenSpec.upto (s : _root_.Go.ChangeSpec) : _root_.Go.OpenSpec := { _root_.Go.OpenSpec.ofChange s with cond := some uptoSmall }

/-- 'slopchestlaw.GreedySpec', WHERE WHAT IT READS IS OF BULK AT MOST 1048576: true; the input reads as it did. -/
def greedySpecUptoRow : OpenClaim := { program := "ytmobohamlimhdaa", sum := "1393b72d928b7c2d66f8d91c0f1a3fc8e616a950c675431b9f78dcf6d4d713af", func := "slopchest/slopchestlaw.GreedySpec", spec := "greedySpec", unfollowed := true, recurses := true, apart := false, narrowed := true }
def GreedySpecUptoSaid : Prop := greedySpecUptoRow.holds Try.pinned (OpenSpec.upto greedySpecSpec)

/-- 'slopchestlaw.GreedyFits', WHERE WHAT IT READS IS OF BULK AT MOST 1048576: true; the input reads as it did. -/
def greedyFitsUptoRow : OpenClaim := { program := "ytmobohamlimhdaa", sum := "1393b72d928b7c2d66f8d91c0f1a3fc8e616a950c675431b9f78dcf6d4d713af", func := "slopchest/slopchestlaw.GreedyFits", spec := "greedyFits", unfollowed := true, recurses := true, apart := false, narrowed := true }
def GreedyFitsUptoSaid : Prop := greedyFitsUptoRow.holds Try.pinned (OpenSpec.upto greedyFitsSpec)

/-- 'slopchestlaw.GreedyVictims', WHERE WHAT IT READS IS OF BULK AT MOST 1048576: true; the input reads as it did. -/
def greedyVictimsUptoRow : OpenClaim := { program := "ytmobohamlimhdaa", sum := "1393b72d928b7c2d66f8d91c0f1a3fc8e616a950c675431b9f78dcf6d4d713af", func := "slopchest/slopchestlaw.GreedyVictims", spec := "greedyVictims", unfollowed := true, recurses := true, apart := false, narrowed := true }
def GreedyVictimsUptoSaid : Prop := greedyVictimsUptoRow.holds Try.pinned (OpenSpec.upto greedyVictimsSpec)

/-- 'slopchestlaw.GreedyEqual', WHERE WHAT IT READS IS OF BULK AT MOST 1048576: true; the input reads as it did. -/
def greedyEqualUptoRow : OpenClaim := { program := "ytmobohamlimhdaa", sum := "1393b72d928b7c2d66f8d91c0f1a3fc8e616a950c675431b9f78dcf6d4d713af", func := "slopchest/slopchestlaw.GreedyEqual", spec := "greedyEqual", unfollowed := true, recurses := true, apart := false, narrowed := true }
def GreedyEqualUptoSaid : Prop := greedyEqualUptoRow.holds Try.pinned (OpenSpec.upto greedyEqualSpec)

end Rows
end Go.Proofs.Ytmobohamlimhdaa
