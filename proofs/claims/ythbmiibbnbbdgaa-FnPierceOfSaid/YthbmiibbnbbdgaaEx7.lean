
/- The exact laws of chapter 4: their walks. -/
import Derived.Test.YthbmiibbnbbdgaaPieces
import Derived.Test.YthbmiibbnbbdgaaVt
namespace Go.Proofs.Ythbmiibbnbbdgaa
open Go.RowKit Go.Sort
set_option linter.unusedVariables false
-- What chapter 4 of impl answers.
end Go.Proofs.Ythbmiibbnbbdgaa
