
/- What the laws of chapter 1 draw. -/
import Derived.Test.YtbdpngjakccjjaaDoorDrawB
namespace Go.Proofs.YtbdpngjakccjjaaDoor
open Go.RowKit Go.Sort Go.BigFrame
set_option linter.unusedVariables false

def Near (r : Rt) : Prop := -1 ≤ r.l ∧ r.l ≤ 7 ∧ 0 ≤ r.o ∧ r.o ≤ 7 ∧ 0 ≤ r.r ∧ r.r ≤ 21 ∧ 0 ≤ r.h ∧ r.h ≤ 15
def TwoPost (B N : Nat) (w : World) (e : Ending) (w' : World) : Prop :=
  ∃ r s : Rt, e = .returned (.tuple #[rv r, rv s]) ∧ Near r ∧ Near s ∧ Sole B w w' ∧ Rd w' B (N + 14)
def OneDrawn (w : World) (e : Ending) (w' : World) : Prop :=
  ∃ r : Rt, e = .returned (rv r) ∧ Near r ∧ Below w.heap.size w w'
def TwoDrawn (w : World) (e : Ending) (w' : World) : Prop :=
  ∃ r s : Rt, e = .returned (.tuple #[rv r, rv s]) ∧ Near r ∧ Near s ∧ Below w.heap.size w w'
def MoveDrawn (w : World) (e : Ending) (w' : World) : Prop :=
  ∃ (r : Rt) (x y : Int), e = .returned (.tuple #[rv r, .int .i64 x, .int .i64 y]) ∧ Near r ∧ -5 ≤ x ∧ x ≤ 6 ∧ -5 ≤ y ∧ y ≤ 36 ∧ Below w.heap.size w w'

theorem Near.common {a b : Rt} (ha : Near a) (hb : Near b) : Near (commonR a b) := by
  unfold Near commonR at *; dsimp only; omega
end Go.Proofs.YtbdpngjakccjjaaDoor
