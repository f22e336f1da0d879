/- What the document's Parse answers, of all bytes. -/
import Derived.Test.YtdmdmkgpnelkjaaRefParse
import Derived.Test.YtdmdmkgpnelkjaaLaw1
namespace Go.Proofs.Ytdmdmkgpnelkjaa
open Go.ChangeShapes Go.WideShapes Go.ChangeAt Go.RowKit
set_option linter.unusedVariables false

theorem ref_told : RefTold := fun r bs w h hn => by
  have hl := h.len
  by_cases h1 : bs.length < 7
  · exact rparse_early r bs w h h1
  · obtain ⟨bb, off, ha, _⟩ := h.at 0 (by omega)
    obtain ⟨ra, rn, rc⟩ := r
    dsimp only at *
    subst ha
    exact rparse_long bb off rn rc bs w h (by omega) hn
end Go.Proofs.Ytdmdmkgpnelkjaa
