/-
  No cell of these rows narrows 'for every input' (looked for: loops, veiled, ifaces, maps, wideKeys, modest, calm, conditions, laid).
  DERIVED. THE GIVEN ROWS OF THIS SEAT. 4 by the template 'for every input the law returns true; each argument reads behind the call as it read before'; 0 by the template 'total and deterministic' (their statements: YtaioefimgggfkaaTotals.lean).
  GIVEN WITH THE SEED: the statements are not yours to turn. If you find one false, say at which input.
  Laid BY PROGRAM, IN A SANDBOX (cutbox-rows.mjs): the forced cells as the released guide's own fill.sh prints them over the translation 695c8363383c07e8… (all of the seat's roots in one cut). By AI agents, Wed Nov 11 2026. No macro, syntax, notation, axiom, sorry.
-/
import Derived.Test.YtaioefimgggfkaaChecked
import GoSem.Claim
import GoSem.ClaimJoined
import GoSem.ClaimMapViews
import Derived.JoinedTies
import Derived.KernelRfl
namespace Go.Proofs.Ytaioefimgggfkaa
/- THE CELL 'sum', in the pinned program and in every row, IS THE sha256 OF THE DUMP (.gsa) THAT YtaioefimgggfkaaProg.lean LOADS. Nothing in Lean hashes anything: it is a label: what it is worth is what the hold of that sum in a sandbox is worth. -/
noncomputable def Try.pinned : Pinned := { name := "ytaioefimgggfkaa", sum := "695c8363383c07e8c122455e3df83d41c092cbcdc6e48c7f230e3a5038088b30", checked := Try.checked }
namespace Rows
def none {H : Type} : Left H := { results := [], args := [] }

/-- 'slopchestlaw.TableSpec': WHATEVER THE INPUT: true; the input reads as it did. -/
def tableSpecSpec : ChangeSpec := { name := "tableSpec", fn := fun _ => fun
  | [d1, d2, d3, d4] => { results := [.lit (.bool true)], args := [d1, d2, d3, d4] }
  | _ => none }
def tableSpecRow : OpenClaim := { program := "ytaioefimgggfkaa", sum := "695c8363383c07e8c122455e3df83d41c092cbcdc6e48c7f230e3a5038088b30", func := "slopchest/slopchestlaw.TableSpec", spec := "tableSpec", apart := false }
def TableSpecSaid : Prop := tableSpecRow.holds Try.pinned (OpenSpec.ofChange tableSpecSpec)

/-- ITS FALSE NEIGHBOUR: 'it returns false'. Refute it at one input. -/
def tableSpecWrong : ChangeSpec := { name := "tableSpec", fn := fun _ => fun
  | [d1, d2, d3, d4] => { results := [.lit (.bool false)], args := [d1, d2, d3, d4] }
  | _ => none }
def TableSpecWrongFalsely : Prop := tableSpecRow.holds Try.pinned (OpenSpec.ofChange tableSpecWrong)

/-- 'slopchestlaw.TableStores': WHATEVER THE INPUT: true; the input reads as it did. -/
def tableStoresSpec : ChangeSpec := { name := "tableStores", fn := fun _ => fun
  | [d1, d2, d3, d4] => { results := [.lit (.bool true)], args := [d1, d2, d3, d4] }
  | _ => none }
def tableStoresRow : OpenClaim := { program := "ytaioefimgggfkaa", sum := "695c8363383c07e8c122455e3df83d41c092cbcdc6e48c7f230e3a5038088b30", func := "slopchest/slopchestlaw.TableStores", spec := "tableStores", apart := false }
def TableStoresSaid : Prop := tableStoresRow.holds Try.pinned (OpenSpec.ofChange tableStoresSpec)

/-- ITS FALSE NEIGHBOUR: 'it returns false'. Refute it at one input. -/
def tableStoresWrong : ChangeSpec := { name := "tableStores", fn := fun _ => fun
  | [d1, d2, d3, d4] => { results := [.lit (.bool false)], args := [d1, d2, d3, d4] }
  | _ => none }
def TableStoresWrongFalsely : Prop := tableStoresRow.holds Try.pinned (OpenSpec.ofChange tableStoresWrong)

/-- 'slopchestlaw.TableResizes': WHATEVER THE INPUT: true; the input reads as it did. -/
def tableResizesSpec : ChangeSpec := { name := "tableResizes", fn := fun _ => fun
  | [d1, d2, d3] => { results := [.lit (.bool true)], args := [d1, d2, d3] }
  | _ => none }
def tableResizesRow : OpenClaim := { program := "ytaioefimgggfkaa", sum := "695c8363383c07e8c122455e3df83d41c092cbcdc6e48c7f230e3a5038088b30", func := "slopchest/slopchestlaw.TableResizes", spec := "tableResizes", apart := false }
def TableResizesSaid : Prop := tableResizesRow.holds Try.pinned (OpenSpec.ofChange tableResizesSpec)

/-- ITS FALSE NEIGHBOUR: 'it returns false'. Refute it at one input. -/
def tableResizesWrong : ChangeSpec := { name := "tableResizes", fn := fun _ => fun
  | [d1, d2, d3] => { results := [.lit (.bool false)], args := [d1, d2, d3] }
  | _ => none }
def TableResizesWrongFalsely : Prop := tableResizesRow.holds Try.pinned (OpenSpec.ofChange tableResizesWrong)

/-- 'slopchestlaw.TableOrder': WHATEVER THE INPUT: true; the input reads as it did. -/
def tableOrderSpec : ChangeSpec := { name := "tableOrder", fn := fun _ => fun
  | [d1, d2, d3, d4, d5] => { results := [.lit (.bool true)], args := [d1, d2, d3, d4, d5] }
  | _ => none }
def tableOrderRow : OpenClaim := { program := "ytaioefimgggfkaa", sum := "695c8363383c07e8c122455e3df83d41c092cbcdc6e48c7f230e3a5038088b30", func := "slopchest/slopchestlaw.TableOrder", spec := "tableOrder", apart := false }
def TableOrderSaid : Prop := tableOrderRow.holds Try.pinned (OpenSpec.ofChange tableOrderSpec)

/-- ITS FALSE NEIGHBOUR: 'it returns false'. Refute it at one input. -/
def tableOrderWrong : ChangeSpec := { name := "tableOrder", fn := fun _ => fun
  | [d1, d2, d3, d4, d5] => { results := [.lit (.bool false)], args := [d1, d2, d3, d4, d5] }
  | _ => none }
def TableOrderWrongFalsely : Prop := tableOrderRow.holds Try.pinned (OpenSpec.ofChange tableOrderWrong)

/- THE SECOND FORM. 'bulk': how many values and letters a reading holds, each counted each time it is reached (what is shared counts as often as it is met; a slice's spare places count too). A statement '..UptoSaid' is the law's where the arguments, and the package variables that the reading takes, are together of bulk at most 1048576: NARROWER than '..Said'. Prove '..Said' where nothing that the law and all that it calls make is longer than what came in: it says more and counts as full. Else prove '..UptoSaid'. A law counts once. -/
mutual
def uptoBulk {H : Type} : DataW H → Nat
  | .lit (.string bytes) => bytes.length + 1
  | .lit _ => 1
  | .nil => 1
  | .ptr d => uptoBulk d + 1
  | .slice elems spare => uptoBulkAll elems + uptoBulkAll spare + 1
  | .agg parts => uptoBulkAll parts + 1
  | .iface _ d => uptoBulk d + 1
  | .map entries => uptoBulkEntries entries + 1
  | .held _ => 1
def uptoBulkAll {H : Type} : List (DataW H) → Nat
  | [] => 0
  | d :: r => uptoBulk d + uptoBulkAll r
def uptoBulkEntries {H : Type} : List (Lit × DataW H) → Nat
  | [] => 0
  | x :: r => uptoBulkEntry x + uptoBulkEntries r
def uptoBulkEntry {H : Type} : Lit × DataW H → Nat
  | (.string bytes, d) => bytes.length + uptoBulk d + 1
  | (_, d) => uptoBulk d + 1
 end
def uptoSmall : (H : Type) → List (DataW H) → Bool := fun _ ds => decide (uptoBulkAll ds ≤ 1048576)
def OpenSpec.upto (s : _root_.Go.ChangeSpec) : _root_.Go.OpenSpec := { _root_.Go.OpenSpec.ofChange s with cond := some uptoSmall }

/-- 'slopchestlaw.TableSpec', WHERE WHAT IT READS IS OF BULK AT MOST 1048576: true; the input reads as it did. -/
def tableSpecUptoRow : OpenClaim := { program := "ytaioefimgggfkaa", sum := "695c8363383c07e8c122455e3df83d41c092cbcdc6e48c7f230e3a5038088b30", func := "slopchest/slopchestlaw.TableSpec", spec := "tableSpec", apart := false, narrowed := true }
def TableSpecUptoSaid : Prop := tableSpecUptoRow.holds Try.pinned (OpenSpec.upto tableSpecSpec)

/-- 'slopchestlaw.TableStores', WHERE WHAT IT READS IS OF BULK AT MOST 1048576: true; the input reads as it did. -/
def tableStoresUptoRow : OpenClaim := { program := "ytaioefimgggfkaa", sum := "695c8363383c07e8c122455e3df83d41c092cbcdc6e48c7f230e3a5038088b30", func := "slopchest/slopchestlaw.TableStores", spec := "tableStores", apart := false, narrowed := true }
def TableStoresUptoSaid : Prop := tableStoresUptoRow.holds Try.pinned (OpenSpec.upto tableStoresSpec)

/-- 'slopchestlaw.TableResizes', WHERE WHAT IT READS IS OF BULK AT MOST 1048576: true; the input reads as it did. -/
def tableResizesUptoRow : OpenClaim := { program := "ytaioefimgggfkaa", sum := "695c8363383c07e8c122455e3df83d41c092cbcdc6e48c7f230e3a5038088b30", func := "slopchest/slopchestlaw.TableResizes", spec := "tableResizes", apart := false, narrowed := true }
def TableResizesUptoSaid : Prop := tableResizesUptoRow.holds Try.pinned (OpenSpec.upto tableResizesSpec)

/-- 'slopchestlaw.TableOrder', WHERE WHAT IT READS IS OF BULK AT MOST 1048576: true; the input reads as it did. -/
def tableOrderUptoRow : OpenClaim := { program := "ytaioefimgggfkaa", sum := "695c8363383c07e8c122455e3df83d41c092cbcdc6e48c7f230e3a5038088b30", func := "slopchest/slopchestlaw.TableOrder", spec := "tableOrder", apart := false, narrowed := true }
def TableOrderUptoSaid : Prop := tableOrderUptoRow.holds Try.pinned (OpenSpec.upto tableOrderSpec)

end Rows
end Go.Proofs.Ytaioefimgggfkaa
