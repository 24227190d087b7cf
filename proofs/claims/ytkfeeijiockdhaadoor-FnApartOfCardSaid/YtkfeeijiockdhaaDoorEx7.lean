/- The exact laws of chapter 4: their walks. -/
import Derived.Test.YtkfeeijiockdhaaDoorPieces
import Derived.Test.YtkfeeijiockdhaaDoorVt
namespace Go.Proofs.YtkfeeijiockdhaaDoor
open Go.RowKit Go.Sort
set_option linter.unusedVariables false
-- What chapter 4 of impl answers.
structure IPc4 : Prop where
  pc : ∀ (A : Option Addr) (n cap : Nat) (f : Nat → Rt) (w : World), n ≤ maxLen → Rs w A n f → Vt w → Calls Tryd.prog 11 #[.slice A n cap] w fun e w' => e = .returned (.int .i64 (pcF f n)) ∧ Below w.heap.size w w'
theorem IPc4.pcv (I : IPc4) (A : Option Addr) (n cap : Nat) (f : Nat → Rt) (v : Int) (h : pcF f n = v) (w : World) (hn : n ≤ maxLen) (hr : Rs w A n f) (hv : Vt w) :
    Calls Tryd.prog 11 #[.slice A n cap] w fun e w' => e = .returned (.int .i64 v) ∧ Below w.heap.size w w' := h ▸ I.pc A n cap f w hn hr hv
end Go.Proofs.YtkfeeijiockdhaaDoor
