
/- What the laws of chapter 2 draw: the functions Draw... -/
import Derived.Test.YthbmiibbnbbdgaaLaid
namespace Go.Proofs.Ythbmiibbnbbdgaa
open Go.RowKit Go.Sort Go.BigFrame
set_option linter.unusedVariables false
def RectsDrawn (w : World) (e : Ending) (w' : World) : Prop :=
  ∃ (A : Option Addr) (n cap g : Nat) (f : Nat → Rt), e = .returned (.slice A n cap) ∧ n ≤ 8 ∧ Ow w' A n f g ∧ w.heap.size ≤ g ∧ Hd A n cap ∧ Below w.heap.size w w'
def RectsOneDrawn (w : World) (e : Ending) (w' : World) : Prop :=
  ∃ (A : Option Addr) (n cap g : Nat) (f : Nat → Rt) (r : Rt), e = .returned (.tuple #[.slice A n cap, rv r]) ∧ n ≤ 8 ∧ Ow w' A n f g ∧ w.heap.size ≤ g ∧ Hd A n cap ∧ Below w.heap.size w w'

end Go.Proofs.Ythbmiibbnbbdgaa
