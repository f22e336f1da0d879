/-
  No cell of these rows narrows 'for every input' (looked for: loops, veiled, ifaces, maps, wideKeys, modest, calm, conditions, laid).
  DERIVED. THE GIVEN ROWS OF THIS SEAT. 4 by the template 'for every input the law returns true; each argument reads behind the call as it read before'; 0 by the template 'total and deterministic' (their statements: YtmjfahjafecnnaaTotals.lean).
  GIVEN WITH THE SEED: the statements are not yours to turn. If you find one false, say at which input.
  Laid BY PROGRAM, IN A SANDBOX (cutbox-rows.mjs): the forced cells as the released guide's own fill.sh prints them over the translation cade1ffae68f9075… (all of the seat's roots in one cut). By AI agents, Wed Nov 11 2026. No macro, syntax, notation, axiom, sorry.
-/
import Derived.Test.YtmjfahjafecnnaaChecked
import GoSem.Claim
import GoSem.ClaimJoined
import GoSem.ClaimMapViews
import Derived.JoinedTies
import Derived.KernelRfl
namespace Go.Proofs.Ytmjfahjafecnnaa
/- THE CELL 'sum', in the pinned program and in every row, IS THE sha256 OF THE DUMP (.gsa) THAT YtmjfahjafecnnaaProg.lean LOADS. Nothing in Lean hashes anything: it is a label: what it is worth is what the hold of that sum in a sandbox is worth. -/
noncomputable def Try.pinned : Pinned := { name := "ytmjfahjafecnnaa", sum := "cade1ffae68f90755a6a30c24b48ce106239477ca74463b5b5081c0ba669cf27", checked := Try.checked }
namespace Rows
def none {H : Type} : Left H := { results := [], args := [] }

/-- 'jostlelaw03.SeqsCounts': WHATEVER THE INPUT: true; the input reads as it did. -/
def seqsCountsSpec : ChangeSpec := { name := "seqsCounts", fn := fun _ => fun
  | [d1, d2, d3] => { results := [.lit (.bool true)], args := [d1, d2, d3] }
  | _ => none }
def seqsCountsRow : OpenClaim := { program := "ytmjfahjafecnnaa", sum := "cade1ffae68f90755a6a30c24b48ce106239477ca74463b5b5081c0ba669cf27", func := "jostle/jostlelaw03.SeqsCounts", spec := "seqsCounts", unfollowed := true, recurses := true, apart := false }
def SeqsCountsSaid : Prop := seqsCountsRow.holds Try.pinned (OpenSpec.ofChange seqsCountsSpec)

/-- ITS FALSE NEIGHBOUR: 'it returns false'. Refute it at one input. -/
def seqsCountsWrong : ChangeSpec := { name := "seqsCounts", fn := fun _ => fun
  | [d1, d2, d3] => { results := [.lit (.bool false)], args := [d1, d2, d3] }
  | _ => none }
def SeqsCountsWrongFalsely : Prop := seqsCountsRow.holds Try.pinned (OpenSpec.ofChange seqsCountsWrong)

/-- 'jostlelaw03.SeqsKeeps': WHATEVER THE INPUT: true; the input reads as it did. -/
def seqsKeepsSpec : ChangeSpec := { name := "seqsKeeps", fn := fun _ => fun
  | [d1, d2, d3] => { results := [.lit (.bool true)], args := [d1, d2, d3] }
  | _ => none }
def seqsKeepsRow : OpenClaim := { program := "ytmjfahjafecnnaa", sum := "cade1ffae68f90755a6a30c24b48ce106239477ca74463b5b5081c0ba669cf27", func := "jostle/jostlelaw03.SeqsKeeps", spec := "seqsKeeps", unfollowed := true, recurses := true, apart := false }
def SeqsKeepsSaid : Prop := seqsKeepsRow.holds Try.pinned (OpenSpec.ofChange seqsKeepsSpec)

/-- ITS FALSE NEIGHBOUR: 'it returns false'. Refute it at one input. -/
def seqsKeepsWrong : ChangeSpec := { name := "seqsKeeps", fn := fun _ => fun
  | [d1, d2, d3] => { results := [.lit (.bool false)], args := [d1, d2, d3] }
  | _ => none }
def SeqsKeepsWrongFalsely : Prop := seqsKeepsRow.holds Try.pinned (OpenSpec.ofChange seqsKeepsWrong)

/-- 'jostlelaw03.SeqsAgain': WHATEVER THE INPUT: true; the input reads as it did. -/
def seqsAgainSpec : ChangeSpec := { name := "seqsAgain", fn := fun _ => fun
  | [d1, d2] => { results := [.lit (.bool true)], args := [d1, d2] }
  | _ => none }
def seqsAgainRow : OpenClaim := { program := "ytmjfahjafecnnaa", sum := "cade1ffae68f90755a6a30c24b48ce106239477ca74463b5b5081c0ba669cf27", func := "jostle/jostlelaw03.SeqsAgain", spec := "seqsAgain", unfollowed := true, recurses := true, apart := false }
def SeqsAgainSaid : Prop := seqsAgainRow.holds Try.pinned (OpenSpec.ofChange seqsAgainSpec)

/-- ITS FALSE NEIGHBOUR: 'it returns false'. Refute it at one input. -/
def seqsAgainWrong : ChangeSpec := { name := "seqsAgain", fn := fun _ => fun
  | [d1, d2] => { results := [.lit (.bool false)], args := [d1, d2] }
  | _ => none }
def SeqsAgainWrongFalsely : Prop := seqsAgainRow.holds Try.pinned (OpenSpec.ofChange seqsAgainWrong)

/-- 'jostlelaw03.SeqsNils': WHATEVER THE INPUT: true; the input reads as it did. -/
def seqsNilsSpec : ChangeSpec := { name := "seqsNils", fn := fun _ => fun
  | [d] => { results := [.lit (.bool true)], args := [d] }
  | _ => none }
def seqsNilsRow : OpenClaim := { program := "ytmjfahjafecnnaa", sum := "cade1ffae68f90755a6a30c24b48ce106239477ca74463b5b5081c0ba669cf27", func := "jostle/jostlelaw03.SeqsNils", spec := "seqsNils", unfollowed := true, recurses := true, apart := false }
def SeqsNilsSaid : Prop := seqsNilsRow.holds Try.pinned (OpenSpec.ofChange seqsNilsSpec)

/-- ITS FALSE NEIGHBOUR: 'it returns false'. Refute it at one input. -/
def seqsNilsWrong : ChangeSpec := { name := "seqsNils", fn := fun _ => fun
  | [d] => { results := [.lit (.bool false)], args := [d] }
  | _ => none }
def SeqsNilsWrongFalsely : Prop := seqsNilsRow.holds Try.pinned (OpenSpec.ofChange seqsNilsWrong)

/- THE SECOND FORM. 'bulk': how many values and letters a reading holds, each counted each time it is reached (what is shared counts as often as it is met; a slice's spare places count too). A statement '..UptoSaid' is the law's where the arguments, and the package variables that the reading takes, are together of bulk at most 1048576: NARROWER than '..Said'. Prove '..Said' where nothing that the law and all that it calls make is longer than what came in: it says more and counts as full. Else prove '..UptoSaid'. A law counts once. -/
mutual
def uptoBulk {H : Type} : DataW H → Nat
  | .lit (.string bytes) => bytes.length + 1
  | .lit _ => 1
  | .nil => 1
  | .ptr d => uptoBulk d + 1
  | .slice elems spare => uptoBulkAll elems + uptoBulkAll spare + 1
  | .agg parts => uptoBulkAll parts + 1
  | .iface _ d => uptoBulk d + 1
  | .map entries => uptoBulkEntries entries + 1
  | .held _ => 1
def uptoBulkAll {H : Type} : List (DataW H) → Nat
  | [] => 0
  | d :: r => uptoBulk d + uptoBulkAll r
def uptoBulkEntries {H : Type} : List (Lit × DataW H) → Nat
  | [] => 0
  | x :: r => uptoBulkEntry x + uptoBulkEntries r
def uptoBulkEntry {H : Type} : Lit × DataW H → Nat
  | (.string bytes, d) => bytes.length + uptoBulk d + 1
  | (_, d) => uptoBulk d + 1
 end
def uptoSmall : (H : Type) → List (DataW H) → Bool := fun _ ds => decide (uptoBulkAll ds ≤ 1048576)
def OpenSpec.upto (s : _root_.Go.ChangeSpec) : _root_.Go.OpenSpec := { _root_.Go.OpenSpec.ofChange s with cond := some uptoSmall }

/-- 'jostlelaw03.SeqsCounts', WHERE WHAT IT READS IS OF BULK AT MOST 1048576: true; the input reads as it did. -/
def seqsCountsUptoRow : OpenClaim := { program := "ytmjfahjafecnnaa", sum := "cade1ffae68f90755a6a30c24b48ce106239477ca74463b5b5081c0ba669cf27", func := "jostle/jostlelaw03.SeqsCounts", spec := "seqsCounts", unfollowed := true, recurses := true, apart := false, narrowed := true }
def SeqsCountsUptoSaid : Prop := seqsCountsUptoRow.holds Try.pinned (OpenSpec.upto seqsCountsSpec)

/-- 'jostlelaw03.SeqsKeeps', WHERE WHAT IT READS IS OF BULK AT MOST 1048576: true; the input reads as it did. -/
def seqsKeepsUptoRow : OpenClaim := { program := "ytmjfahjafecnnaa", sum := "cade1ffae68f90755a6a30c24b48ce106239477ca74463b5b5081c0ba669cf27", func := "jostle/jostlelaw03.SeqsKeeps", spec := "seqsKeeps", unfollowed := true, recurses := true, apart := false, narrowed := true }
def SeqsKeepsUptoSaid : Prop := seqsKeepsUptoRow.holds Try.pinned (OpenSpec.upto seqsKeepsSpec)

/-- 'jostlelaw03.SeqsAgain', WHERE WHAT IT READS IS OF BULK AT MOST 1048576: true; the input reads as it did. -/
def seqsAgainUptoRow : OpenClaim := { program := "ytmjfahjafecnnaa", sum := "cade1ffae68f90755a6a30c24b48ce106239477ca74463b5b5081c0ba669cf27", func := "jostle/jostlelaw03.SeqsAgain", spec := "seqsAgain", unfollowed := true, recurses := true, apart := false, narrowed := true }
def SeqsAgainUptoSaid : Prop := seqsAgainUptoRow.holds Try.pinned (OpenSpec.upto seqsAgainSpec)

/-- 'jostlelaw03.SeqsNils', WHERE WHAT IT READS IS OF BULK AT MOST 1048576: true; the input reads as it did. -/
def seqsNilsUptoRow : OpenClaim := { program := "ytmjfahjafecnnaa", sum := "cade1ffae68f90755a6a30c24b48ce106239477ca74463b5b5081c0ba669cf27", func := "jostle/jostlelaw03.SeqsNils", spec := "seqsNils", unfollowed := true, recurses := true, apart := false, narrowed := true }
def SeqsNilsUptoSaid : Prop := seqsNilsUptoRow.holds Try.pinned (OpenSpec.upto seqsNilsSpec)

end Rows
end Go.Proofs.Ytmjfahjafecnnaa
