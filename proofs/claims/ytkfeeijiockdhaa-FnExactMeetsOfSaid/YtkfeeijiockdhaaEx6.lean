/- The exact laws of chapter 3: their walks. -/
import Derived.Test.YtkfeeijiockdhaaDq
namespace Go.Proofs.Ytkfeeijiockdhaa
open Go.RowKit Go.Sort
set_option linter.unusedVariables false
theorem ide_val (A : Option Addr) (n cap : Nat) (f : Nat → Rt) (a b c : Int) (v : Bool) (h : deF f n = (a, b, c)) (hv : laidF f n = v) (w : World) (hn : n ≤ maxLen) (hr : Rs w A n f) :
    Calls Try.prog 29 #[.slice A n cap] w fun e w' => e = .returned (.tuple #[.int .i64 a, .int .i64 b, .int .i64 c, .bool v]) ∧ Below w.heap.size w w' :=
  (ide_any A n cap f w hn hr).mono fun _ _ hh => ⟨by rw [hh.1, h, hv]; rfl, hh.2⟩

end Go.Proofs.Ytkfeeijiockdhaa
