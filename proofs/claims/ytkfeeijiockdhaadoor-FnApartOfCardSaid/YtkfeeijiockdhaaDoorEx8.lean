/- The exact laws of chapter 5: their walks. -/
import Derived.Test.YtkfeeijiockdhaaDoorPi
namespace Go.Proofs.YtkfeeijiockdhaaDoor
open Go.RowKit Go.Sort Go.BigFrame
set_option linter.unusedVariables false
structure IMt5 : Prop where
  mt : ∀ (a b : Rt) (w : World), Calls Tryd.prog 33 #[rv a, rv b] w fun e w' => e = .returned (.bool (cmB a b)) ∧ Below w.heap.size w w'
structure IAm5 : Prop where
  am : ∀ (A : Option Addr) (n cap : Nat) (f : Nat → Rt) (w : World), n ≤ maxLen → Rs w A n f → Calls Tryd.prog 10 #[.slice A n cap] w fun e w' => e = .returned (.bool (amF f n)) ∧ Below w.heap.size w w'
structure IAp5 : Prop where
  ap : ∀ (A : Option Addr) (n cap : Nat) (f : Nat → Rt) (w : World), n ≤ maxLen → Rs w A n f → Calls Tryd.prog 5 #[.slice A n cap] w fun e w' => e = .returned (.int .i64 (apF f n)) ∧ Below w.heap.size w w'
theorem IMt5.mtv (I_mt : IMt5) (a b : Rt) (v : Bool) (h : cmB a b = v) (w : World) :
    Calls Tryd.prog 33 #[rv a, rv b] w fun e w' => e = .returned (.bool v) ∧ Below w.heap.size w w' := h ▸ I_mt.mt a b w
theorem IAm5.amv (I_am : IAm5) (A : Option Addr) (n cap : Nat) (f : Nat → Rt) (v : Bool) (h : amF f n = v) (w : World) (hn : n ≤ maxLen) (hr : Rs w A n f) :
    Calls Tryd.prog 10 #[.slice A n cap] w fun e w' => e = .returned (.bool v) ∧ Below w.heap.size w w' := h ▸ I_am.am A n cap f w hn hr
theorem IAp5.apv (I_ap : IAp5) (A : Option Addr) (n cap : Nat) (f : Nat → Rt) (v : Int) (h : apF f n = v) (w : World) (hn : n ≤ maxLen) (hr : Rs w A n f) :
    Calls Tryd.prog 5 #[.slice A n cap] w fun e w' => e = .returned (.int .i64 v) ∧ Below w.heap.size w w' := h ▸ I_ap.ap A n cap f w hn hr

end Go.Proofs.YtkfeeijiockdhaaDoor
