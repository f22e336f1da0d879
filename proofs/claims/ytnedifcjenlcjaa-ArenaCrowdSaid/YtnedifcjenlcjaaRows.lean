/-
  No cell of these rows narrows 'for every input' (looked for: loops, veiled, ifaces, maps, wideKeys, modest, calm, conditions, laid).
  DERIVED. THE GIVEN ROWS OF THIS SEAT. 3 by the template 'for every input the law returns true; each argument reads behind the call as it read before'; 0 by the template 'total and deterministic' (their statements: YtnedifcjenlcjaaTotals.lean).
  GIVEN WITH THE SEED: the statements are not yours to turn. If you find one false, say at which input.
  Laid BY PROGRAM, IN A SANDBOX (cutbox-rows.mjs): the forced cells as the released guide's own fill.sh prints them over the translation 44e8e7f464ea07f6… (all of the seat's roots in one cut). By AI agents, Wed Nov 11 2026. No macro, syntax, notation, axiom, sorry.
-/
import Derived.Test.YtnedifcjenlcjaaChecked
import GoSem.Claim
import GoSem.ClaimJoined
import GoSem.ClaimMapViews
import Derived.JoinedTies
import Derived.KernelRfl
namespace Go.Proofs.Ytnedifcjenlcjaa
/- THE CELL 'sum', in the pinned program and in every row, IS THE sha256 OF THE DUMP (.gsa) THAT YtnedifcjenlcjaaProg.lean LOADS. Nothing in Lean hashes anything: it is a label: what it is worth is what the hold of that sum in a sandbox is worth. -/
noncomputable def Try.pinned : Pinned := { name := "ytnedifcjenlcjaa", sum := "44e8e7f464ea07f61c30dbc426170db3776759a669853195a6072c958324d401", checked := Try.checked }
namespace Rows
def none {H : Type} : Left H := { results := [], args := [] }

/-- 'jostlelaw17.ArenaAlone': WHATEVER THE INPUT: true; the input reads as it did. -/
def arenaAloneSpec : ChangeSpec := { name := "arenaAlone", fn := fun _ => fun
  | [d1, d2] => { results := [.lit (.bool true)], args := [d1, d2] }
  | _ => none }
def arenaAloneRow : OpenClaim := { program := "ytnedifcjenlcjaa", sum := "44e8e7f464ea07f61c30dbc426170db3776759a669853195a6072c958324d401", func := "jostle/jostlelaw17.ArenaAlone", spec := "arenaAlone", unfollowed := true, recurses := true, apart := false }
def ArenaAloneSaid : Prop := arenaAloneRow.holds Try.pinned (OpenSpec.ofChange arenaAloneSpec)

/-- ITS FALSE NEIGHBOUR: 'it returns false'. Refute it at one input. -/
def arenaAloneWrong : ChangeSpec := { name := "arenaAlone", fn := fun _ => fun
  | [d1, d2] => { results := [.lit (.bool false)], args := [d1, d2] }
  | _ => none }
def ArenaAloneWrongFalsely : Prop := arenaAloneRow.holds Try.pinned (OpenSpec.ofChange arenaAloneWrong)

/-- 'jostlelaw17.ArenaCrowd': WHATEVER THE INPUT: true; the input reads as it did. -/
def arenaCrowdSpec : ChangeSpec := { name := "arenaCrowd", fn := fun _ => fun
  | [d1, d2, d3] => { results := [.lit (.bool true)], args := [d1, d2, d3] }
  | _ => none }
def arenaCrowdRow : OpenClaim := { program := "ytnedifcjenlcjaa", sum := "44e8e7f464ea07f61c30dbc426170db3776759a669853195a6072c958324d401", func := "jostle/jostlelaw17.ArenaCrowd", spec := "arenaCrowd", unfollowed := true, recurses := true, apart := false }
def ArenaCrowdSaid : Prop := arenaCrowdRow.holds Try.pinned (OpenSpec.ofChange arenaCrowdSpec)

/-- ITS FALSE NEIGHBOUR: 'it returns false'. Refute it at one input. -/
def arenaCrowdWrong : ChangeSpec := { name := "arenaCrowd", fn := fun _ => fun
  | [d1, d2, d3] => { results := [.lit (.bool false)], args := [d1, d2, d3] }
  | _ => none }
def ArenaCrowdWrongFalsely : Prop := arenaCrowdRow.holds Try.pinned (OpenSpec.ofChange arenaCrowdWrong)

/-- 'jostlelaw17.ArenaOdd': WHATEVER THE INPUT: true; the input reads as it did. -/
def arenaOddSpec : ChangeSpec := { name := "arenaOdd", fn := fun _ => fun
  | [d1, d2] => { results := [.lit (.bool true)], args := [d1, d2] }
  | _ => none }
def arenaOddRow : OpenClaim := { program := "ytnedifcjenlcjaa", sum := "44e8e7f464ea07f61c30dbc426170db3776759a669853195a6072c958324d401", func := "jostle/jostlelaw17.ArenaOdd", spec := "arenaOdd", unfollowed := true, recurses := true, apart := false }
def ArenaOddSaid : Prop := arenaOddRow.holds Try.pinned (OpenSpec.ofChange arenaOddSpec)

/-- ITS FALSE NEIGHBOUR: 'it returns false'. Refute it at one input. -/
def arenaOddWrong : ChangeSpec := { name := "arenaOdd", fn := fun _ => fun
  | [d1, d2] => { results := [.lit (.bool false)], args := [d1, d2] }
  | _ => none }
def ArenaOddWrongFalsely : Prop := arenaOddRow.holds Try.pinned (OpenSpec.ofChange arenaOddWrong)

/- THE SECOND FORM. 'bulk': how many values and letters a reading holds, each counted each time it is reached (what is shared counts as often as it is met; a slice's spare places count too). A statement '..UptoSaid' is the law's where the arguments, and the package variables that the reading takes, are together of bulk at most 1048576: NARROWER than '..Said'. Prove '..Said' where nothing that the law and all that it calls make is longer than what came in: it says more and counts as full. Else prove '..UptoSaid'. A law counts once. -/
mutual
def uptoBulk {H : Type} : DataW H → Nat
  | .lit (.string bytes) => bytes.length + 1
  | .lit _ => 1
  | .nil => 1
  | .ptr d => uptoBulk d + 1
  | .slice elems spare => uptoBulkAll elems + uptoBulkAll spare + 1
  | .agg parts => uptoBulkAll parts + 1
  | .iface _ d => uptoBulk d + 1
  | .map entries => uptoBulkEntries entries + 1
  | .held _ => 1
def uptoBulkAll {H : Type} : List (DataW H) → Nat
  | [] => 0
  | d :: r => uptoBulk d + uptoBulkAll r
def uptoBulkEntries {H : Type} : List (Lit × DataW H) → Nat
  | [] => 0
  | x :: r => uptoBulkEntry x + uptoBulkEntries r
def uptoBulkEntry {H : Type} : Lit × DataW H → Nat
  | (.string bytes, d) => bytes.length + uptoBulk d + 1
  | (_, d) => uptoBulk d + 1
 end
def uptoSmall : (H : Type) → List (DataW H) → Bool := fun _ ds => decide (uptoBulkAll ds ≤ 1048576)
def OpenSpec.upto (s : _root_.Go.ChangeSpec) : _root_.Go.OpenSpec := { _root_.Go.OpenSpec.ofChange s with cond := some uptoSmall }

/-- 'jostlelaw17.ArenaAlone', WHERE WHAT IT READS IS OF BULK AT MOST 1048576: true; the input reads as it did. -/
def arenaAloneUptoRow : OpenClaim := { program := "ytnedifcjenlcjaa", sum := "44e8e7f464ea07f61c30dbc426170db3776759a669853195a6072c958324d401", func := "jostle/jostlelaw17.ArenaAlone", spec := "arenaAlone", unfollowed := true, recurses := true, apart := false, narrowed := true }
def ArenaAloneUptoSaid : Prop := arenaAloneUptoRow.holds Try.pinned (OpenSpec.upto arenaAloneSpec)

/-- 'jostlelaw17.ArenaCrowd', WHERE WHAT IT READS IS OF BULK AT MOST 1048576: true; the input reads as it did. -/
def arenaCrowdUptoRow : OpenClaim := { program := "ytnedifcjenlcjaa", sum := "44e8e7f464ea07f61c30dbc426170db3776759a669853195a6072c958324d401", func := "jostle/jostlelaw17.ArenaCrowd", spec := "arenaCrowd", unfollowed := true, recurses := true, apart := false, narrowed := true }
def ArenaCrowdUptoSaid : Prop := arenaCrowdUptoRow.holds Try.pinned (OpenSpec.upto arenaCrowdSpec)

/-- 'jostlelaw17.ArenaOdd', WHERE WHAT IT READS IS OF BULK AT MOST 1048576: true; the input reads as it did. -/
def arenaOddUptoRow : OpenClaim := { program := "ytnedifcjenlcjaa", sum := "44e8e7f464ea07f61c30dbc426170db3776759a669853195a6072c958324d401", func := "jostle/jostlelaw17.ArenaOdd", spec := "arenaOdd", unfollowed := true, recurses := true, apart := false, narrowed := true }
def ArenaOddUptoSaid : Prop := arenaOddUptoRow.holds Try.pinned (OpenSpec.upto arenaOddSpec)

end Rows
end Go.Proofs.Ytnedifcjenlcjaa
