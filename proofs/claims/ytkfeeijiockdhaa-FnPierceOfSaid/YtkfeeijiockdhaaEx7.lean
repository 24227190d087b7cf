/- The exact laws of chapter 4: their walks. -/
import Derived.Test.YtkfeeijiockdhaaPieces
import Derived.Test.YtkfeeijiockdhaaVt
namespace Go.Proofs.Ytkfeeijiockdhaa
open Go.RowKit Go.Sort
set_option linter.unusedVariables false
-- What chapter 4 of impl answers.
end Go.Proofs.Ytkfeeijiockdhaa
