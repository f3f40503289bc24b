/-
  No cell of these rows narrows 'for every input' (looked for: loops, veiled, ifaces, maps, wideKeys, modest, calm, conditions, laid).
  DERIVED. THE GIVEN ROWS OF THIS SEAT. 4 by the template 'for every input the law returns true; each argument reads behind the call as it read before'; 0 by the template 'total and deterministic' (their statements: YtildmhfpjdmcbaaTotals.lean).
  GIVEN WITH THE SEED: the statements are not yours to turn. If you find one false, say at which input.
  Laid BY PROGRAM, IN A SANDBOX (cutbox-rows.mjs): the forced cells as the released guide's own fill.sh prints them over the translation e6d18e58f9353209… (all of the seat's roots in one cut). By AI agents, Wed Nov 11 2026. No macro, syntax, notation, axiom, sorry.
-/
import Derived.Test.YtildmhfpjdmcbaaChecked
import GoSem.Claim
import GoSem.ClaimJoined
import GoSem.ClaimMapViews
import Derived.JoinedTies
import Derived.KernelRfl
namespace Go.Proofs.Ytildmhfpjdmcbaa
/- THE CELL 'sum', in the pinned program and in every row, IS THE sha256 OF THE DUMP (.gsa) THAT YtildmhfpjdmcbaaProg.lean LOADS. Nothing in Lean hashes anything: it is a label: what it is worth is what the hold of that sum in a sandbox is worth. -/
noncomputable def Try.pinned : Pinned := { name := "ytildmhfpjdmcbaa", sum := "e6d18e58f935320949c0100cf9929fb8cd9469a0aa9d151c2e9c774a0dbd572a", checked := Try.checked }
namespace Rows
def none {H : Type} : Left H := { results := [], args := [] }

/-- 'slopchestlaw.RateSpec': WHATEVER THE INPUT: true; the input reads as it did. -/
def rateSpecSpec : ChangeSpec := { name := "rateSpec", fn := fun _ => fun
  | [d1, d2, d3, d4, d5] => { results := [.lit (.bool true)], args := [d1, d2, d3, d4, d5] }
  | _ => none }
def rateSpecRow : OpenClaim := { program := "ytildmhfpjdmcbaa", sum := "e6d18e58f935320949c0100cf9929fb8cd9469a0aa9d151c2e9c774a0dbd572a", func := "slopchest/slopchestlaw.RateSpec", spec := "rateSpec", apart := false }
def RateSpecSaid : Prop := rateSpecRow.holds Try.pinned (OpenSpec.ofChange rateSpecSpec)

/-- ITS FALSE NEIGHBOUR: 'it returns false'. Refute it at one input. -/
def rateSpecWrong : ChangeSpec := { name := "rateSpec", fn := fun _ => fun
  | [d1, d2, d3, d4, d5] => { results := [.lit (.bool false)], args := [d1, d2, d3, d4, d5] }
  | _ => none }
def RateSpecWrongFalsely : Prop := rateSpecRow.holds Try.pinned (OpenSpec.ofChange rateSpecWrong)

/-- 'slopchestlaw.RateParts': WHATEVER THE INPUT: true; the input reads as it did. -/
def ratePartsSpec : ChangeSpec := { name := "rateParts", fn := fun _ => fun
  | [d1, d2, d3] => { results := [.lit (.bool true)], args := [d1, d2, d3] }
  | _ => none }
def ratePartsRow : OpenClaim := { program := "ytildmhfpjdmcbaa", sum := "e6d18e58f935320949c0100cf9929fb8cd9469a0aa9d151c2e9c774a0dbd572a", func := "slopchest/slopchestlaw.RateParts", spec := "rateParts", apart := false }
def RatePartsSaid : Prop := ratePartsRow.holds Try.pinned (OpenSpec.ofChange ratePartsSpec)

/-- ITS FALSE NEIGHBOUR: 'it returns false'. Refute it at one input. -/
def ratePartsWrong : ChangeSpec := { name := "rateParts", fn := fun _ => fun
  | [d1, d2, d3] => { results := [.lit (.bool false)], args := [d1, d2, d3] }
  | _ => none }
def RatePartsWrongFalsely : Prop := ratePartsRow.holds Try.pinned (OpenSpec.ofChange ratePartsWrong)

/-- 'slopchestlaw.RateWhen': WHATEVER THE INPUT: true; the input reads as it did. -/
def rateWhenSpec : ChangeSpec := { name := "rateWhen", fn := fun _ => fun
  | [d1, d2, d3] => { results := [.lit (.bool true)], args := [d1, d2, d3] }
  | _ => none }
def rateWhenRow : OpenClaim := { program := "ytildmhfpjdmcbaa", sum := "e6d18e58f935320949c0100cf9929fb8cd9469a0aa9d151c2e9c774a0dbd572a", func := "slopchest/slopchestlaw.RateWhen", spec := "rateWhen", apart := false }
def RateWhenSaid : Prop := rateWhenRow.holds Try.pinned (OpenSpec.ofChange rateWhenSpec)

/-- ITS FALSE NEIGHBOUR: 'it returns false'. Refute it at one input. -/
def rateWhenWrong : ChangeSpec := { name := "rateWhen", fn := fun _ => fun
  | [d1, d2, d3] => { results := [.lit (.bool false)], args := [d1, d2, d3] }
  | _ => none }
def RateWhenWrongFalsely : Prop := rateWhenRow.holds Try.pinned (OpenSpec.ofChange rateWhenWrong)

/-- 'slopchestlaw.RateBound': WHATEVER THE INPUT: true; the input reads as it did. -/
def rateBoundSpec : ChangeSpec := { name := "rateBound", fn := fun _ => fun
  | [d1, d2, d3] => { results := [.lit (.bool true)], args := [d1, d2, d3] }
  | _ => none }
def rateBoundRow : OpenClaim := { program := "ytildmhfpjdmcbaa", sum := "e6d18e58f935320949c0100cf9929fb8cd9469a0aa9d151c2e9c774a0dbd572a", func := "slopchest/slopchestlaw.RateBound", spec := "rateBound", apart := false }
def RateBoundSaid : Prop := rateBoundRow.holds Try.pinned (OpenSpec.ofChange rateBoundSpec)

/-- ITS FALSE NEIGHBOUR: 'it returns false'. Refute it at one input. -/
def rateBoundWrong : ChangeSpec := { name := "rateBound", fn := fun _ => fun
  | [d1, d2, d3] => { results := [.lit (.bool false)], args := [d1, d2, d3] }
  | _ => none }
def RateBoundWrongFalsely : Prop := rateBoundRow.holds Try.pinned (OpenSpec.ofChange rateBoundWrong)

/- THE SECOND FORM. 'bulk': how many values and letters a reading holds, each counted each time it is reached (what is shared counts as often as it is met; a slice's spare places count too). A statement '..UptoSaid' is the law's where the arguments, and the package variables that the reading takes, are together of bulk at most 1048576: NARROWER than '..Said'. Prove '..Said' where nothing that the law and all that it calls make is longer than what came in: it says more and counts as full. Else prove '..UptoSaid'. A law counts once. -/
mutual
def uptoBulk {H : Type} : DataW H → Nat
  | .lit (.string bytes) => bytes.length + 1
  | .lit _ => 1
  | .nil => 1
  | .ptr d => uptoBulk d + 1
  | .slice elems spare => uptoBulkAll elems + uptoBulkAll spare + 1
  | .agg parts => uptoBulkAll parts + 1
  | .iface _ d => uptoBulk d + 1
  | .map entries => uptoBulkEntries entries + 1
  | .held _ => 1
def uptoBulkAll {H : Type} : List (DataW H) → Nat
  | [] => 0
  | d :: r => uptoBulk d + uptoBulkAll r
def uptoBulkEntries {H : Type} : List (Lit × DataW H) → Nat
  | [] => 0
  | x :: r => uptoBulkEntry x + uptoBulkEntries r
def uptoBulkEntry {H : Type} : Lit × DataW H → Nat
  | (.string bytes, d) => bytes.length + uptoBulk d + 1
  | (_, d) => uptoBulk d + 1
 end
def uptoSmall : (H : Type) → List (DataW H) → Bool := fun _ ds => decide (uptoBulkAll ds ≤ 1048576)
def OpenSpec.upto (s : _root_.Go.ChangeSpec) : _root_.Go.OpenSpec := { _root_.Go.OpenSpec.ofChange s with cond := some uptoSmall }

/-- 'slopchestlaw.RateSpec', WHERE WHAT IT READS IS OF BULK AT MOST 1048576: true; the input reads as it did. -/
def rateSpecUptoRow : OpenClaim := { program := "ytildmhfpjdmcbaa", sum := "e6d18e58f935320949c0100cf9929fb8cd9469a0aa9d151c2e9c774a0dbd572a", func := "slopchest/slopchestlaw.RateSpec", spec := "rateSpec", apart := false, narrowed := true }
def RateSpecUptoSaid : Prop := rateSpecUptoRow.holds Try.pinned (OpenSpec.upto rateSpecSpec)

/-- 'slopchestlaw.RateParts', WHERE WHAT IT READS IS OF BULK AT MOST 1048576: true; the input reads as it did. -/
def ratePartsUptoRow : OpenClaim := { program := "ytildmhfpjdmcbaa", sum := "e6d18e58f935320949c0100cf9929fb8cd9469a0aa9d151c2e9c774a0dbd572a", func := "slopchest/slopchestlaw.RateParts", spec := "rateParts", apart := false, narrowed := true }
def RatePartsUptoSaid : Prop := ratePartsUptoRow.holds Try.pinned (OpenSpec.upto ratePartsSpec)

/-- 'slopchestlaw.RateWhen', WHERE WHAT IT READS IS OF BULK AT MOST 1048576: true; the input reads as it did. -/
def rateWhenUptoRow : OpenClaim := { program := "ytildmhfpjdmcbaa", sum := "e6d18e58f935320949c0100cf9929fb8cd9469a0aa9d151c2e9c774a0dbd572a", func := "slopchest/slopchestlaw.RateWhen", spec := "rateWhen", apart := false, narrowed := true }
def RateWhenUptoSaid : Prop := rateWhenUptoRow.holds Try.pinned (OpenSpec.upto rateWhenSpec)

/-- 'slopchestlaw.RateBound', WHERE WHAT IT READS IS OF BULK AT MOST 1048576: true; the input reads as it did. -/
def rateBoundUptoRow : OpenClaim := { program := "ytildmhfpjdmcbaa", sum := "e6d18e58f935320949c0100cf9929fb8cd9469a0aa9d151c2e9c774a0dbd572a", func := "slopchest/slopchestlaw.RateBound", spec := "rateBound", apart := false, narrowed := true }
def RateBoundUptoSaid : Prop := rateBoundUptoRow.holds Try.pinned (OpenSpec.upto rateBoundSpec)

end Rows
end Go.Proofs.Ytildmhfpjdmcbaa
