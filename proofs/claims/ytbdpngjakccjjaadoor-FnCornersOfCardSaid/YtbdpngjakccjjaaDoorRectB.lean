
/- Chapter 1: contracts, second part. -/
import Derived.Test.YtbdpngjakccjjaaDoorRect
namespace Go.Proofs.YtbdpngjakccjjaaDoor
open Go.RowKit Go.Sort
set_option linter.unusedVariables false

theorem insideB_iff {a b : Rt} : insideB a b = true ↔ b.l ≤ a.l ∧ b.o ≤ a.o ∧ a.r ≤ b.r ∧ a.h ≤ b.h := by unfold insideB; simp
theorem insideB_no {a b : Rt} (h : ¬ (b.l ≤ a.l ∧ b.o ≤ a.o ∧ a.r ≤ b.r ∧ a.h ≤ b.h)) : insideB a b = false := by unfold insideB; simpa using h
end Go.Proofs.YtbdpngjakccjjaaDoor
