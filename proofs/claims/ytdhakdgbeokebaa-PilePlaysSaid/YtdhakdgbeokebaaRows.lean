/-
  No cell of these rows narrows 'for every input' (looked for: loops, veiled, ifaces, maps, wideKeys, modest, calm, conditions, laid).
  DERIVED. THE GIVEN ROWS OF THIS SEAT. 3 by the template 'for every input the law returns true; each argument reads behind the call as it read before'; 0 by the template 'total and deterministic' (their statements: YtdhakdgbeokebaaTotals.lean).
  GIVEN WITH THE SEED: the statements are not yours to turn. If you find one false, say at which input.
  Laid BY PROGRAM, IN A SANDBOX (cutbox-rows.mjs): the forced cells as the released guide's own fill.sh prints them over the translation 39e3183b7ef8f8f7… (all of the seat's roots in one cut). By AI agents, Wed Nov 11 2026. No macro, syntax, notation, axiom, sorry.
-/
import Derived.Test.YtdhakdgbeokebaaChecked
import GoSem.Claim
import GoSem.ClaimJoined
import GoSem.ClaimMapViews
import Derived.JoinedTies
import Derived.KernelRfl
namespace Go.Proofs.Ytdhakdgbeokebaa
/- THE CELL 'sum', in the pinned program and in every row, IS THE sha256 OF THE DUMP (.gsa) THAT YtdhakdgbeokebaaProg.lean LOADS. Nothing in Lean hashes anything: it is a label: what it is worth is what the hold of that sum in a sandbox is worth. -/
noncomputable def Try.pinned : Pinned := { name := "ytdhakdgbeokebaa", sum := "39e3183b7ef8f8f793d1b3811eb216e17c2a9afbb9a010ac935ceea989935122", checked := Try.checked }
namespace Rows
def none {H : Type} : Left H := { results := [], args := [] }

/-- 'jostlelaw04.PilePlays': WHATEVER THE INPUT: true; the input reads as it did. -/
def pilePlaysSpec : ChangeSpec := { name := "pilePlays", fn := fun _ => fun
  | [d1, d2, d3] => { results := [.lit (.bool true)], args := [d1, d2, d3] }
  | _ => none }
def pilePlaysRow : OpenClaim := { program := "ytdhakdgbeokebaa", sum := "39e3183b7ef8f8f793d1b3811eb216e17c2a9afbb9a010ac935ceea989935122", func := "jostle/jostlelaw04.PilePlays", spec := "pilePlays", unfollowed := true, recurses := true, apart := false }
def PilePlaysSaid : Prop := pilePlaysRow.holds Try.pinned (OpenSpec.ofChange pilePlaysSpec)

/-- ITS FALSE NEIGHBOUR: 'it returns false'. Refute it at one input. -/
def pilePlaysWrong : ChangeSpec := { name := "pilePlays", fn := fun _ => fun
  | [d1, d2, d3] => { results := [.lit (.bool false)], args := [d1, d2, d3] }
  | _ => none }
def PilePlaysWrongFalsely : Prop := pilePlaysRow.holds Try.pinned (OpenSpec.ofChange pilePlaysWrong)

/-- 'jostlelaw04.PileTurns': WHATEVER THE INPUT: true; the input reads as it did. -/
def pileTurnsSpec : ChangeSpec := { name := "pileTurns", fn := fun _ => fun
  | [d] => { results := [.lit (.bool true)], args := [d] }
  | _ => none }
def pileTurnsRow : OpenClaim := { program := "ytdhakdgbeokebaa", sum := "39e3183b7ef8f8f793d1b3811eb216e17c2a9afbb9a010ac935ceea989935122", func := "jostle/jostlelaw04.PileTurns", spec := "pileTurns", apart := false }
def PileTurnsSaid : Prop := pileTurnsRow.holds Try.pinned (OpenSpec.ofChange pileTurnsSpec)

/-- ITS FALSE NEIGHBOUR: 'it returns false'. Refute it at one input. -/
def pileTurnsWrong : ChangeSpec := { name := "pileTurns", fn := fun _ => fun
  | [d] => { results := [.lit (.bool false)], args := [d] }
  | _ => none }
def PileTurnsWrongFalsely : Prop := pileTurnsRow.holds Try.pinned (OpenSpec.ofChange pileTurnsWrong)

/-- 'jostlelaw04.PileWords': WHATEVER THE INPUT: true; the input reads as it did. -/
def pileWordsSpec : ChangeSpec := { name := "pileWords", fn := fun _ => fun
  | [d1, d2] => { results := [.lit (.bool true)], args := [d1, d2] }
  | _ => none }
def pileWordsRow : OpenClaim := { program := "ytdhakdgbeokebaa", sum := "39e3183b7ef8f8f793d1b3811eb216e17c2a9afbb9a010ac935ceea989935122", func := "jostle/jostlelaw04.PileWords", spec := "pileWords", unfollowed := true, recurses := true, apart := false }
def PileWordsSaid : Prop := pileWordsRow.holds Try.pinned (OpenSpec.ofChange pileWordsSpec)

/-- ITS FALSE NEIGHBOUR: 'it returns false'. Refute it at one input. -/
def pileWordsWrong : ChangeSpec := { name := "pileWords", fn := fun _ => fun
  | [d1, d2] => { results := [.lit (.bool false)], args := [d1, d2] }
  | _ => none }
def PileWordsWrongFalsely : Prop := pileWordsRow.holds Try.pinned (OpenSpec.ofChange pileWordsWrong)

/- THE SECOND FORM. 'bulk': how many values and letters a reading holds, each counted each time it is reached (what is shared counts as often as it is met; a slice's spare places count too). A statement '..UptoSaid' is the law's where the arguments, and the package variables that the reading takes, are together of bulk at most 1048576: NARROWER than '..Said'. Prove '..Said' where nothing that the law and all that it calls make is longer than what came in: it says more and counts as full. Else prove '..UptoSaid'. A law counts once. -/
mutual
def uptoBulk {H : Type} : DataW H → Nat
  | .lit (.string bytes) => bytes.length + 1
  | .lit _ => 1
  | .nil => 1
  | .ptr d => uptoBulk d + 1
  | .slice elems spare => uptoBulkAll elems + uptoBulkAll spare + 1
  | .agg parts => uptoBulkAll parts + 1
  | .iface _ d => uptoBulk d + 1
  | .map entries => uptoBulkEntries entries + 1
  | .held _ => 1
def uptoBulkAll {H : Type} : List (DataW H) → Nat
  | [] => 0
  | d :: r => uptoBulk d + uptoBulkAll r
def uptoBulkEntries {H : Type} : List (Lit × DataW H) → Nat
  | [] => 0
  | x :: r => uptoBulkEntry x + uptoBulkEntries r
def uptoBulkEntry {H : Type} : Lit × DataW H → Nat
  | (.string bytes, d) => bytes.length + uptoBulk d + 1
  | (_, d) => uptoBulk d + 1
 end
def uptoSmall : (H : Type) → List (DataW H) → Bool := fun _ ds => decide (uptoBulkAll ds ≤ 1048576)
def OpenSpec.upto (s : _root_.Go.ChangeSpec) : _root_.Go.OpenSpec := { _root_.Go.OpenSpec.ofChange s with cond := some uptoSmall }

/-- 'jostlelaw04.PilePlays', WHERE WHAT IT READS IS OF BULK AT MOST 1048576: true; the input reads as it did. -/
def pilePlaysUptoRow : OpenClaim := { program := "ytdhakdgbeokebaa", sum := "39e3183b7ef8f8f793d1b3811eb216e17c2a9afbb9a010ac935ceea989935122", func := "jostle/jostlelaw04.PilePlays", spec := "pilePlays", unfollowed := true, recurses := true, apart := false, narrowed := true }
def PilePlaysUptoSaid : Prop := pilePlaysUptoRow.holds Try.pinned (OpenSpec.upto pilePlaysSpec)

/-- 'jostlelaw04.PileTurns', WHERE WHAT IT READS IS OF BULK AT MOST 1048576: true; the input reads as it did. -/
def pileTurnsUptoRow : OpenClaim := { program := "ytdhakdgbeokebaa", sum := "39e3183b7ef8f8f793d1b3811eb216e17c2a9afbb9a010ac935ceea989935122", func := "jostle/jostlelaw04.PileTurns", spec := "pileTurns", apart := false, narrowed := true }
def PileTurnsUptoSaid : Prop := pileTurnsUptoRow.holds Try.pinned (OpenSpec.upto pileTurnsSpec)

/-- 'jostlelaw04.PileWords', WHERE WHAT IT READS IS OF BULK AT MOST 1048576: true; the input reads as it did. -/
def pileWordsUptoRow : OpenClaim := { program := "ytdhakdgbeokebaa", sum := "39e3183b7ef8f8f793d1b3811eb216e17c2a9afbb9a010ac935ceea989935122", func := "jostle/jostlelaw04.PileWords", spec := "pileWords", unfollowed := true, recurses := true, apart := false, narrowed := true }
def PileWordsUptoSaid : Prop := pileWordsUptoRow.holds Try.pinned (OpenSpec.upto pileWordsSpec)

end Rows
end Go.Proofs.Ytdhakdgbeokebaa
