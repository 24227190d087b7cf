
/- Chapter 4 of spec: OutlineOf, CornersOf. -/
import Derived.Test.YthbmiibbnbbdgaaMap
namespace Go.Proofs.Ythbmiibbnbbdgaa
open Go.RowKit Go.Sort
set_option linter.unusedVariables false
set_option linter.unusedSimpArgs false
/-- The outline, -1 for others. -/
def olF (f : Nat → Rt) (n : Nat) : Int := if laidF f n then outl (mapG f n) else -1
theorem ne_one (p q : Bool) : one (p != q) = if one p = one q then 0 else 1 := by cases p <;> cases q <;> decide
theorem sides_bd (G : Nat → Bool) (k : Nat) : 0 ≤ sides G k ∧ sides G k ≤ 2 := by
  unfold sides
  have := one_nonneg (G k != G (k + 1))
  have := one_le (G k != G (k + 1))
  have := one_nonneg (G k != G (k + 22))
  have := one_le (G k != G (k + 22))
  split <;> omega
theorem sides_sum_bd (G : Nat → Bool) (k : Nat) : 0 ≤ sumN k (sides G) ∧ sumN k (sides G) ≤ 2 * k := by
  induction k with
  | zero => simp [sumN]
  | succ k ih => simp only [sumN]; have := sides_bd G k; omega

def rowAt (g : Nat → Int) (y x : Nat) : Int := sumN x (fun i => g (22 * y + i))
def rowsAt (g : Nat → Int) (y : Nat) : Int := sumN y (fun j => rowAt g j 21)
theorem outAt_bd (G : Nat → Bool) (a : Nat) : 0 ≤ outAt G a ∧ outAt G a ≤ 2 := by
  unfold outAt; cases G a <;> cases G (a + 1) <;> cases G (a + 22) <;> cases G (a + 23) <;> decide
theorem inAt_bd (G : Nat → Bool) (a : Nat) : 0 ≤ inAt G a ∧ inAt G a ≤ 2 := by
  unfold inAt; cases G a <;> cases G (a + 1) <;> cases G (a + 22) <;> cases G (a + 23) <;> decide
theorem rowAt_bd {g : Nat → Int} (h : ∀ a, 0 ≤ g a ∧ g a ≤ 2) (y x : Nat) : 0 ≤ rowAt g y x ∧ rowAt g y x ≤ 2 * x := by
  unfold rowAt
  induction x with
  | zero => simp [sumN]
  | succ x ih => simp only [sumN]; have := h (22 * y + x); omega
theorem rowsAt_bd {g : Nat → Int} (h : ∀ a, 0 ≤ g a ∧ g a ≤ 2) (y : Nat) : 0 ≤ rowsAt g y ∧ rowsAt g y ≤ 42 * y := by
  unfold rowsAt
  induction y with
  | zero => simp [sumN]
  | succ y ih => simp only [sumN]; have := rowAt_bd h y 21; omega
/-- How many corners point out, and in; -1 for others. -/
def coF (f : Nat → Rt) (n : Nat) : Int := if laidF f n then rowsAt (outAt (mapG f n)) 21 else -1
def ciF (f : Nat → Rt) (n : Nat) : Int := if laidF f n then rowsAt (inAt (mapG f n)) 21 else -1
end Go.Proofs.Ythbmiibbnbbdgaa
