/- The library's table of lowest set bits, as the row lists it. -/
import Derived.Test.YtkfeeijiockdhaaDoorVt
import Derived.Test.YtkfeeijiockdhaaDoorCards
import Derived.Test.YtkfeeijiockdhaaDoorTie
import Derived.Lib.LaidTab
import Derived.LaidMore
import Derived.Stop.Joined
import Derived.SevenTiedAt
namespace Go.Proofs.YtkfeeijiockdhaaDoor
open Go.RowKit
def laidL : List (String × DataW Unit) := [("math/bits.deBruijn32tab", Rows.laid_math_bits_deBruijn32tab)]
def tabZ : List Int := Lib.deBruijn32tab.map Int.ofNat
theorem gTab : Tryd.prog.globalNamed "math/bits.deBruijn32tab" = some 0 := by kernel_rfl
theorem gTabType : (Tryd.prog.globals[0]?).map (·.type) = some 78 := by kernel_rfl
theorem tab_is : laidL = [("math/bits.deBruijn32tab", Lib.tabData .u8 tabZ)] := rfl
theorem tab_at : ∀ j : Fin 32, tabZ.getD j.val 0 = ((Lib.deBruijn32tab.getD j.val 0 : Nat) : Int) := by decide +kernel
/-- The door's own heap meets the condition. -/
theorem door_met (os : Os) (args : Array Value) : laidMetH Tryd.prog laidL ((World.doorLaid Tryd.prog 400 os).forCall (fun _ _ => 0) ⟨#[], args, []⟩).memory :=
  laidMetH_of_parts3 (fuel := 8) (laidMet_of_run' 8 (by kernel_rfl) (by kernel_rfl)) (by kernel_rfl) (by kernel_rfl)
/-- What the condition gives the walks. -/
theorem vt_of_laid {W : World} (h : laidMetH Tryd.prog laidL W) : Vt W := by
  rw [MakeChecks.laidMetH_plain _ _ _ (by kernel_rfl), tab_is] at h
  have hT : Lib.TabIs Tryd.prog W "math/bits.deBruijn32tab" .u8 tabZ := Lib.tabIs_of_head gTab gTabType Tryd.underlying78 Tryd.underlying5 (by kernel_rfl) (by kernel_rfl) h
  intro j hj
  rw [hT.cell gTab j (Nat.lt_of_lt_of_eq hj (by decide)), tab_at ⟨j, hj⟩]
end Go.Proofs.YtkfeeijiockdhaaDoor
