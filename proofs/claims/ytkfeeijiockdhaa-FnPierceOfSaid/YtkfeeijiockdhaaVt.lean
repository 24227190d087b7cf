/- The library's table of lowest set bits, in its variable: nothing to say where the program has no such variable. -/
import Derived.Test.YtkfeeijiockdhaaMe
import Derived.Lib.TrailingZeros
namespace Go.Proofs.Ytkfeeijiockdhaa
open Go.RowKit Go.Sort
set_option linter.unusedVariables false
def Vt (w : World) : Prop := True
theorem Vt.below {w w' : World} (h : Vt w) (hb : Below w.heap.size w w') : Vt w' := h
end Go.Proofs.Ytkfeeijiockdhaa
