/- The chapter's example. -/
import Derived.Test.YtemikojaldoofaaGreatKNew
namespace Go.Proofs.YtemikojaldoofaaGreat
open Go.ChangeShapes Go.WideShapes Go.ChangeAt Go.RowKit
set_option linter.unusedVariables false

set_option maxRecDepth 20000

abbrev ex : P.Cf := ⟨0, 1, 2, 1, 1, 1, 1⟩
theorem ex_ws : (firstMS ex).ws = [2, 0, 1, 0, 0, 0, 0, 0, 0, 0, 2, 0, 0, 0, 0, 0, 0, 0, 0, 0] := by decide +kernel

end Go.Proofs.YtemikojaldoofaaGreat
