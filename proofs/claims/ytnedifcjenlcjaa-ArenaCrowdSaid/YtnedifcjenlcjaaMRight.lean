/- May a step be; what 'do' answers of a step that may be. -/
import Derived.Test.YtnedifcjenlcjaaMDone
import Derived.Test.YtnedifcjenlcjaaMArg
namespace Go.Proofs.Ytnedifcjenlcjaa
open Go.ChangeShapes Go.WideShapes Go.ChangeAt Go.RowKit
set_option linter.unusedVariables false
set_option maxRecDepth 20000


/-- May a step be, of n words? -/
def rightB (k a b : Int) (n : Nat) : Bool := decide (0 ≤ k) && decide (k ≤ 5) && inB n a && (decide (k < 4) || (inB n b && (decide (k = 5) || !decide (a = b))))

/-- A step that may be: the words behind it, what it tells, whether something was written. -/
def act (ws : List Int) (k : Int) (a : Nat) (b o x p q : Int) : List Int × Int × Bool :=
  if k = 0 then (ws, wordAt ws a, false)
  else if k = 1 then (ws.set a x, 0, true)
  else if k = 2 then (if wordAt ws a = o then (ws.set a x, 0, true) else (ws, 0, false))
  else if k = 3 then (ws.set a (IntKind.u64.wrap (wordAt ws a + x)), wordAt ws a, true)
  else if wordAt ws a = o ∧ wordAt ws b.toNat = p then ((if k = 4 then (ws.set a x).set b.toNat q else ws.set a x), 0, true) else (ws, 0, false)
theorem act_len (ws : List Int) (k : Int) (a : Nat) (b o x p q : Int) : (act ws k a b o x p q).1.length = ws.length := by
  unfold act
  repeat' split
  all_goals simp
/-- How it is logged. -/
def entry (ws : List Int) (k : Int) (a : Nat) (b o x p q : Int) : Acc := (k, a, if k < 4 then -1 else b, (act ws k a b o x p q).2.2)

end Go.Proofs.Ytnedifcjenlcjaa
