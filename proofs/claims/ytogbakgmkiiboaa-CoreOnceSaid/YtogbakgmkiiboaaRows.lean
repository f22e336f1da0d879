/-
  No cell of these rows narrows 'for every input' (looked for: loops, veiled, ifaces, maps, wideKeys, modest, calm, conditions, laid).
  DERIVED. THE GIVEN ROWS OF THIS SEAT. 5 by the template 'for every input the law returns true; each argument reads behind the call as it read before'; 0 by the template 'total and deterministic' (their statements: YtogbakgmkiiboaaTotals.lean).
  GIVEN WITH THE SEED: the statements are not yours to turn. If you find one false, say at which input.
  Laid BY PROGRAM, IN A SANDBOX (cutbox-rows.mjs): the forced cells as the released guide's own fill.sh prints them over the translation 0cc0798383026d58… (all of the seat's roots in one cut). By AI agents, Wed Nov 11 2026. No macro, syntax, notation, axiom, sorry.
-/
import Derived.Test.YtogbakgmkiiboaaChecked
import GoSem.Claim
import GoSem.ClaimJoined
import GoSem.ClaimMapViews
import Derived.JoinedTies
import Derived.KernelRfl
namespace Go.Proofs.Ytogbakgmkiiboaa
/- THE CELL 'sum', in the pinned program and in every row, IS THE sha256 OF THE DUMP (.gsa) THAT YtogbakgmkiiboaaProg.lean LOADS. Nothing in Lean hashes anything: it is a label: what it is worth is what the hold of that sum in a sandbox is worth. -/
noncomputable def Try.pinned : Pinned := { name := "ytogbakgmkiiboaa", sum := "0cc0798383026d580a28a9d409f5af7cd24217e9c00195ff70ccf3d062f5405a", checked := Try.checked }
namespace Rows
def none {H : Type} : Left H := { results := [], args := [] }

/-- 'jostlelaw16.CoreBegins': WHATEVER THE INPUT: true; the input reads as it did. -/
def coreBeginsSpec : ChangeSpec := { name := "coreBegins", fn := fun _ => fun
  | [d1, d2] => { results := [.lit (.bool true)], args := [d1, d2] }
  | _ => none }
def coreBeginsRow : OpenClaim := { program := "ytogbakgmkiiboaa", sum := "0cc0798383026d580a28a9d409f5af7cd24217e9c00195ff70ccf3d062f5405a", func := "jostle/jostlelaw16.CoreBegins", spec := "coreBegins", apart := false }
def CoreBeginsSaid : Prop := coreBeginsRow.holds Try.pinned (OpenSpec.ofChange coreBeginsSpec)

/-- ITS FALSE NEIGHBOUR: 'it returns false'. Refute it at one input. -/
def coreBeginsWrong : ChangeSpec := { name := "coreBegins", fn := fun _ => fun
  | [d1, d2] => { results := [.lit (.bool false)], args := [d1, d2] }
  | _ => none }
def CoreBeginsWrongFalsely : Prop := coreBeginsRow.holds Try.pinned (OpenSpec.ofChange coreBeginsWrong)

/-- 'jostlelaw16.CoreSteps': WHATEVER THE INPUT: true; the input reads as it did. -/
def coreStepsSpec : ChangeSpec := { name := "coreSteps", fn := fun _ => fun
  | [d1, d2] => { results := [.lit (.bool true)], args := [d1, d2] }
  | _ => none }
def coreStepsRow : OpenClaim := { program := "ytogbakgmkiiboaa", sum := "0cc0798383026d580a28a9d409f5af7cd24217e9c00195ff70ccf3d062f5405a", func := "jostle/jostlelaw16.CoreSteps", spec := "coreSteps", apart := false }
def CoreStepsSaid : Prop := coreStepsRow.holds Try.pinned (OpenSpec.ofChange coreStepsSpec)

/-- ITS FALSE NEIGHBOUR: 'it returns false'. Refute it at one input. -/
def coreStepsWrong : ChangeSpec := { name := "coreSteps", fn := fun _ => fun
  | [d1, d2] => { results := [.lit (.bool false)], args := [d1, d2] }
  | _ => none }
def CoreStepsWrongFalsely : Prop := coreStepsRow.holds Try.pinned (OpenSpec.ofChange coreStepsWrong)

/-- 'jostlelaw16.CoreTags': WHATEVER THE INPUT: true; the input reads as it did. -/
def coreTagsSpec : ChangeSpec := { name := "coreTags", fn := fun _ => fun
  | [d1, d2, d3] => { results := [.lit (.bool true)], args := [d1, d2, d3] }
  | _ => none }
def coreTagsRow : OpenClaim := { program := "ytogbakgmkiiboaa", sum := "0cc0798383026d580a28a9d409f5af7cd24217e9c00195ff70ccf3d062f5405a", func := "jostle/jostlelaw16.CoreTags", spec := "coreTags", apart := false }
def CoreTagsSaid : Prop := coreTagsRow.holds Try.pinned (OpenSpec.ofChange coreTagsSpec)

/-- ITS FALSE NEIGHBOUR: 'it returns false'. Refute it at one input. -/
def coreTagsWrong : ChangeSpec := { name := "coreTags", fn := fun _ => fun
  | [d1, d2, d3] => { results := [.lit (.bool false)], args := [d1, d2, d3] }
  | _ => none }
def CoreTagsWrongFalsely : Prop := coreTagsRow.holds Try.pinned (OpenSpec.ofChange coreTagsWrong)

/-- 'jostlelaw16.CoreFrames': WHATEVER THE INPUT: true; the input reads as it did. -/
def coreFramesSpec : ChangeSpec := { name := "coreFrames", fn := fun _ => fun
  | [d1, d2, d3] => { results := [.lit (.bool true)], args := [d1, d2, d3] }
  | _ => none }
def coreFramesRow : OpenClaim := { program := "ytogbakgmkiiboaa", sum := "0cc0798383026d580a28a9d409f5af7cd24217e9c00195ff70ccf3d062f5405a", func := "jostle/jostlelaw16.CoreFrames", spec := "coreFrames", apart := false }
def CoreFramesSaid : Prop := coreFramesRow.holds Try.pinned (OpenSpec.ofChange coreFramesSpec)

/-- ITS FALSE NEIGHBOUR: 'it returns false'. Refute it at one input. -/
def coreFramesWrong : ChangeSpec := { name := "coreFrames", fn := fun _ => fun
  | [d1, d2, d3] => { results := [.lit (.bool false)], args := [d1, d2, d3] }
  | _ => none }
def CoreFramesWrongFalsely : Prop := coreFramesRow.holds Try.pinned (OpenSpec.ofChange coreFramesWrong)

/-- 'jostlelaw16.CoreOnce': WHATEVER THE INPUT: true; the input reads as it did. -/
def coreOnceSpec : ChangeSpec := { name := "coreOnce", fn := fun _ => fun
  | [d1, d2, d3] => { results := [.lit (.bool true)], args := [d1, d2, d3] }
  | _ => none }
def coreOnceRow : OpenClaim := { program := "ytogbakgmkiiboaa", sum := "0cc0798383026d580a28a9d409f5af7cd24217e9c00195ff70ccf3d062f5405a", func := "jostle/jostlelaw16.CoreOnce", spec := "coreOnce", unfollowed := true, recurses := true, apart := false }
def CoreOnceSaid : Prop := coreOnceRow.holds Try.pinned (OpenSpec.ofChange coreOnceSpec)

/-- ITS FALSE NEIGHBOUR: 'it returns false'. Refute it at one input. -/
def coreOnceWrong : ChangeSpec := { name := "coreOnce", fn := fun _ => fun
  | [d1, d2, d3] => { results := [.lit (.bool false)], args := [d1, d2, d3] }
  | _ => none }
def CoreOnceWrongFalsely : Prop := coreOnceRow.holds Try.pinned (OpenSpec.ofChange coreOnceWrong)

/- THE SECOND FORM. 'bulk': how many values and letters a reading holds, each counted each time it is reached (what is shared counts as often as it is met; a slice's spare places count too). A statement '..UptoSaid' is the law's where the arguments, and the package variables that the reading takes, are together of bulk at most 1048576: NARROWER than '..Said'. Prove '..Said' where nothing that the law and all that it calls make is longer than what came in: it says more and counts as full. Else prove '..UptoSaid'. A law counts once. -/
mutual
def uptoBulk {H : Type} : DataW H → Nat
  | .lit (.string bytes) => bytes.length + 1
  | .lit _ => 1
  | .nil => 1
  | .ptr d => uptoBulk d + 1
  | .slice elems spare => uptoBulkAll elems + uptoBulkAll spare + 1
  | .agg parts => uptoBulkAll parts + 1
  | .iface _ d => uptoBulk d + 1
  | .map entries => uptoBulkEntries entries + 1
  | .held _ => 1
def uptoBulkAll {H : Type} : List (DataW H) → Nat
  | [] => 0
  | d :: r => uptoBulk d + uptoBulkAll r
def uptoBulkEntries {H : Type} : List (Lit × DataW H) → Nat
  | [] => 0
  | x :: r => uptoBulkEntry x + uptoBulkEntries r
def uptoBulkEntry {H : Type} : Lit × DataW H → Nat
  | (.string bytes, d) => bytes.length + uptoBulk d + 1
  | (_, d) => uptoBulk d + 1
 end
def uptoSmall : (H : Type) → List (DataW H) → Bool := fun _ ds => decide (uptoBulkAll ds ≤ 1048576)
def OpenSpec.upto (s : _root_.Go.ChangeSpec) : _root_.Go.OpenSpec := { _root_.Go.OpenSpec.ofChange s with cond := some uptoSmall }

/-- 'jostlelaw16.CoreBegins', WHERE WHAT IT READS IS OF BULK AT MOST 1048576: true; the input reads as it did. -/
def coreBeginsUptoRow : OpenClaim := { program := "ytogbakgmkiiboaa", sum := "0cc0798383026d580a28a9d409f5af7cd24217e9c00195ff70ccf3d062f5405a", func := "jostle/jostlelaw16.CoreBegins", spec := "coreBegins", apart := false, narrowed := true }
def CoreBeginsUptoSaid : Prop := coreBeginsUptoRow.holds Try.pinned (OpenSpec.upto coreBeginsSpec)

/-- 'jostlelaw16.CoreSteps', WHERE WHAT IT READS IS OF BULK AT MOST 1048576: true; the input reads as it did. -/
def coreStepsUptoRow : OpenClaim := { program := "ytogbakgmkiiboaa", sum := "0cc0798383026d580a28a9d409f5af7cd24217e9c00195ff70ccf3d062f5405a", func := "jostle/jostlelaw16.CoreSteps", spec := "coreSteps", apart := false, narrowed := true }
def CoreStepsUptoSaid : Prop := coreStepsUptoRow.holds Try.pinned (OpenSpec.upto coreStepsSpec)

/-- 'jostlelaw16.CoreTags', WHERE WHAT IT READS IS OF BULK AT MOST 1048576: true; the input reads as it did. -/
def coreTagsUptoRow : OpenClaim := { program := "ytogbakgmkiiboaa", sum := "0cc0798383026d580a28a9d409f5af7cd24217e9c00195ff70ccf3d062f5405a", func := "jostle/jostlelaw16.CoreTags", spec := "coreTags", apart := false, narrowed := true }
def CoreTagsUptoSaid : Prop := coreTagsUptoRow.holds Try.pinned (OpenSpec.upto coreTagsSpec)

/-- 'jostlelaw16.CoreFrames', WHERE WHAT IT READS IS OF BULK AT MOST 1048576: true; the input reads as it did. -/
def coreFramesUptoRow : OpenClaim := { program := "ytogbakgmkiiboaa", sum := "0cc0798383026d580a28a9d409f5af7cd24217e9c00195ff70ccf3d062f5405a", func := "jostle/jostlelaw16.CoreFrames", spec := "coreFrames", apart := false, narrowed := true }
def CoreFramesUptoSaid : Prop := coreFramesUptoRow.holds Try.pinned (OpenSpec.upto coreFramesSpec)

/-- 'jostlelaw16.CoreOnce', WHERE WHAT IT READS IS OF BULK AT MOST 1048576: true; the input reads as it did. -/
def coreOnceUptoRow : OpenClaim := { program := "ytogbakgmkiiboaa", sum := "0cc0798383026d580a28a9d409f5af7cd24217e9c00195ff70ccf3d062f5405a", func := "jostle/jostlelaw16.CoreOnce", spec := "coreOnce", unfollowed := true, recurses := true, apart := false, narrowed := true }
def CoreOnceUptoSaid : Prop := coreOnceUptoRow.holds Try.pinned (OpenSpec.upto coreOnceSpec)

end Rows
end Go.Proofs.Ytogbakgmkiiboaa
