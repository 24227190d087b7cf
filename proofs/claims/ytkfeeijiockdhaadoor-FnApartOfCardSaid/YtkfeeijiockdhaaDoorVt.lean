/- The library's table of lowest set bits, in its variable: nothing to say where the program has no such variable. -/
import Derived.Test.YtkfeeijiockdhaaDoorMe
import Derived.Lib.TrailingZeros
namespace Go.Proofs.YtkfeeijiockdhaaDoor
open Go.RowKit Go.Sort
set_option linter.unusedVariables false
/-- The library's table lies in its variable. -/
def Vt (w : World) : Prop := ∀ j, j < 32 → w.cell? ⟨0, j, none⟩ = some (.int .u8 (Lib.deBruijn32tab.getD j 0 : Nat))
theorem Vt.lt {w : World} (h : Vt w) : 0 < w.heap.size := World.block_lt_of_cell? w _ (h 0 (by omega))
theorem Vt.below {w w' : World} (h : Vt w) (hb : Below w.heap.size w w') : Vt w' := fun j hj => (hb.cell (p := ⟨0, j, none⟩) h.lt).trans (h j hj)
end Go.Proofs.YtkfeeijiockdhaaDoor
