/-
  No cell of these rows narrows 'for every input' (looked for: loops, veiled, ifaces, maps, wideKeys, modest, calm, conditions, laid).
  DERIVED. THE GIVEN ROWS OF THIS SEAT. 4 by the template 'for every input the law returns true; each argument reads behind the call as it read before'; 0 by the template 'total and deterministic' (their statements: YtbkdiaoeeephiaaTotals.lean).
  GIVEN WITH THE SEED: the statements are not yours to turn. If you find one false, say at which input.
  Laid BY PROGRAM, IN A SANDBOX (cutbox-rows.mjs): the forced cells as the released guide's own fill.sh prints them over the translation c89f472e87062b67… (all of the seat's roots in one cut). By AI agents, Wed Nov 11 2026. No macro, syntax, notation, axiom, sorry.
-/
import Derived.Test.YtbkdiaoeeephiaaChecked
import GoSem.Claim
import GoSem.ClaimJoined
import GoSem.ClaimMapViews
import Derived.JoinedTies
import Derived.KernelRfl
namespace Go.Proofs.Ytbkdiaoeeephiaa
/- THE CELL 'sum', in the pinned program and in every row, IS THE sha256 OF THE DUMP (.gsa) THAT YtbkdiaoeeephiaaProg.lean LOADS. Nothing in Lean hashes anything: it is a label: what it is worth is what the hold of that sum in a sandbox is worth. -/
noncomputable def Try.pinned : Pinned := { name := "ytbkdiaoeeephiaa", sum := "c89f472e87062b67629b07cc364de6dd842a1b37513206ae1d6f561936456a47", checked := Try.checked }
namespace Rows
def none {H : Type} : Left H := { results := [], args := [] }

/-- 'jostlelaw02.OrdParts': WHATEVER THE INPUT: true; the input reads as it did. -/
def ordPartsSpec : ChangeSpec := { name := "ordParts", fn := fun _ => fun
  | [d1, d2, d3] => { results := [.lit (.bool true)], args := [d1, d2, d3] }
  | _ => none }
def ordPartsRow : OpenClaim := { program := "ytbkdiaoeeephiaa", sum := "c89f472e87062b67629b07cc364de6dd842a1b37513206ae1d6f561936456a47", func := "jostle/jostlelaw02.OrdParts", spec := "ordParts", apart := false }
def OrdPartsSaid : Prop := ordPartsRow.holds Try.pinned (OpenSpec.ofChange ordPartsSpec)

/-- ITS FALSE NEIGHBOUR: 'it returns false'. Refute it at one input. -/
def ordPartsWrong : ChangeSpec := { name := "ordParts", fn := fun _ => fun
  | [d1, d2, d3] => { results := [.lit (.bool false)], args := [d1, d2, d3] }
  | _ => none }
def OrdPartsWrongFalsely : Prop := ordPartsRow.holds Try.pinned (OpenSpec.ofChange ordPartsWrong)

/-- 'jostlelaw02.OrdVals': WHATEVER THE INPUT: true; the input reads as it did. -/
def ordValsSpec : ChangeSpec := { name := "ordVals", fn := fun _ => fun
  | [d1, d2, d3] => { results := [.lit (.bool true)], args := [d1, d2, d3] }
  | _ => none }
def ordValsRow : OpenClaim := { program := "ytbkdiaoeeephiaa", sum := "c89f472e87062b67629b07cc364de6dd842a1b37513206ae1d6f561936456a47", func := "jostle/jostlelaw02.OrdVals", spec := "ordVals", apart := false }
def OrdValsSaid : Prop := ordValsRow.holds Try.pinned (OpenSpec.ofChange ordValsSpec)

/-- ITS FALSE NEIGHBOUR: 'it returns false'. Refute it at one input. -/
def ordValsWrong : ChangeSpec := { name := "ordVals", fn := fun _ => fun
  | [d1, d2, d3] => { results := [.lit (.bool false)], args := [d1, d2, d3] }
  | _ => none }
def OrdValsWrongFalsely : Prop := ordValsRow.holds Try.pinned (OpenSpec.ofChange ordValsWrong)

/-- 'jostlelaw02.OrdLeast': WHATEVER THE INPUT: true; the input reads as it did. -/
def ordLeastSpec : ChangeSpec := { name := "ordLeast", fn := fun _ => fun
  | [d] => { results := [.lit (.bool true)], args := [d] }
  | _ => none }
def ordLeastRow : OpenClaim := { program := "ytbkdiaoeeephiaa", sum := "c89f472e87062b67629b07cc364de6dd842a1b37513206ae1d6f561936456a47", func := "jostle/jostlelaw02.OrdLeast", spec := "ordLeast", apart := false }
def OrdLeastSaid : Prop := ordLeastRow.holds Try.pinned (OpenSpec.ofChange ordLeastSpec)

/-- ITS FALSE NEIGHBOUR: 'it returns false'. Refute it at one input. -/
def ordLeastWrong : ChangeSpec := { name := "ordLeast", fn := fun _ => fun
  | [d] => { results := [.lit (.bool false)], args := [d] }
  | _ => none }
def OrdLeastWrongFalsely : Prop := ordLeastRow.holds Try.pinned (OpenSpec.ofChange ordLeastWrong)

/-- 'jostlelaw02.OrdOrders': WHATEVER THE INPUT: true; the input reads as it did. -/
def ordOrdersSpec : ChangeSpec := { name := "ordOrders", fn := fun _ => fun
  | [d1, d2] => { results := [.lit (.bool true)], args := [d1, d2] }
  | _ => none }
def ordOrdersRow : OpenClaim := { program := "ytbkdiaoeeephiaa", sum := "c89f472e87062b67629b07cc364de6dd842a1b37513206ae1d6f561936456a47", func := "jostle/jostlelaw02.OrdOrders", spec := "ordOrders", apart := false }
def OrdOrdersSaid : Prop := ordOrdersRow.holds Try.pinned (OpenSpec.ofChange ordOrdersSpec)

/-- ITS FALSE NEIGHBOUR: 'it returns false'. Refute it at one input. -/
def ordOrdersWrong : ChangeSpec := { name := "ordOrders", fn := fun _ => fun
  | [d1, d2] => { results := [.lit (.bool false)], args := [d1, d2] }
  | _ => none }
def OrdOrdersWrongFalsely : Prop := ordOrdersRow.holds Try.pinned (OpenSpec.ofChange ordOrdersWrong)

/- THE SECOND FORM. 'bulk': how many values and letters a reading holds, each counted each time it is reached (what is shared counts as often as it is met; a slice's spare places count too). A statement '..UptoSaid' is the law's where the arguments, and the package variables that the reading takes, are together of bulk at most 1048576: NARROWER than '..Said'. Prove '..Said' where nothing that the law and all that it calls make is longer than what came in: it says more and counts as full. Else prove '..UptoSaid'. A law counts once. -/
mutual
def uptoBulk {H : Type} : DataW H → Nat
  | .lit (.string bytes) => bytes.length + 1
  | .lit _ => 1
  | .nil => 1
  | .ptr d => uptoBulk d + 1
  | .slice elems spare => uptoBulkAll elems + uptoBulkAll spare + 1
  | .agg parts => uptoBulkAll parts + 1
  | .iface _ d => uptoBulk d + 1
  | .map entries => uptoBulkEntries entries + 1
  | .held _ => 1
def uptoBulkAll {H : Type} : List (DataW H) → Nat
  | [] => 0
  | d :: r => uptoBulk d + uptoBulkAll r
def uptoBulkEntries {H : Type} : List (Lit × DataW H) → Nat
  | [] => 0
  | x :: r => uptoBulkEntry x + uptoBulkEntries r
def uptoBulkEntry {H : Type} : Lit × DataW H → Nat
  | (.string bytes, d) => bytes.length + uptoBulk d + 1
  | (_, d) => uptoBulk d + 1
 end
def uptoSmall : (H : Type) → List (DataW H) → Bool := fun _ ds => decide (uptoBulkAll ds ≤ 1048576)
def OpenSpec.upto (s : _root_.Go.ChangeSpec) : _root_.Go.OpenSpec := { _root_.Go.OpenSpec.ofChange s with cond := some uptoSmall }

/-- 'jostlelaw02.OrdParts', WHERE WHAT IT READS IS OF BULK AT MOST 1048576: true; the input reads as it did. -/
def ordPartsUptoRow : OpenClaim := { program := "ytbkdiaoeeephiaa", sum := "c89f472e87062b67629b07cc364de6dd842a1b37513206ae1d6f561936456a47", func := "jostle/jostlelaw02.OrdParts", spec := "ordParts", apart := false, narrowed := true }
def OrdPartsUptoSaid : Prop := ordPartsUptoRow.holds Try.pinned (OpenSpec.upto ordPartsSpec)

/-- 'jostlelaw02.OrdVals', WHERE WHAT IT READS IS OF BULK AT MOST 1048576: true; the input reads as it did. -/
def ordValsUptoRow : OpenClaim := { program := "ytbkdiaoeeephiaa", sum := "c89f472e87062b67629b07cc364de6dd842a1b37513206ae1d6f561936456a47", func := "jostle/jostlelaw02.OrdVals", spec := "ordVals", apart := false, narrowed := true }
def OrdValsUptoSaid : Prop := ordValsUptoRow.holds Try.pinned (OpenSpec.upto ordValsSpec)

/-- 'jostlelaw02.OrdLeast', WHERE WHAT IT READS IS OF BULK AT MOST 1048576: true; the input reads as it did. -/
def ordLeastUptoRow : OpenClaim := { program := "ytbkdiaoeeephiaa", sum := "c89f472e87062b67629b07cc364de6dd842a1b37513206ae1d6f561936456a47", func := "jostle/jostlelaw02.OrdLeast", spec := "ordLeast", apart := false, narrowed := true }
def OrdLeastUptoSaid : Prop := ordLeastUptoRow.holds Try.pinned (OpenSpec.upto ordLeastSpec)

/-- 'jostlelaw02.OrdOrders', WHERE WHAT IT READS IS OF BULK AT MOST 1048576: true; the input reads as it did. -/
def ordOrdersUptoRow : OpenClaim := { program := "ytbkdiaoeeephiaa", sum := "c89f472e87062b67629b07cc364de6dd842a1b37513206ae1d6f561936456a47", func := "jostle/jostlelaw02.OrdOrders", spec := "ordOrders", apart := false, narrowed := true }
def OrdOrdersUptoSaid : Prop := ordOrdersUptoRow.holds Try.pinned (OpenSpec.upto ordOrdersSpec)

end Rows
end Go.Proofs.Ytbkdiaoeeephiaa
