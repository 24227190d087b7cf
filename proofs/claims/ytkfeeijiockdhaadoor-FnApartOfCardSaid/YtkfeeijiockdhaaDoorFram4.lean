/- Chapter 4 of impl: CornersOf. -/
import Derived.Test.YtkfeeijiockdhaaDoorFr
namespace Go.Proofs.YtkfeeijiockdhaaDoor
open Go.RowKit Go.Sort
set_option linter.unusedVariables false
set_option linter.unusedSimpArgs false
def two (p q : Bool) : Nat := (if p then 1 else 0) + (if q then 2 else 0)
theorem two_bits (M j : Nat) : M / 2 ^ j &&& 3 = two (M.testBit j) (M.testBit (j + 1)) := by
  have e : M / 2 ^ j &&& 3 = M / 2 ^ j % 4 := Nat.and_two_pow_sub_one_eq_mod _ 2
  rw [e, Nat.testBit_eq_decide_div_mod_eq, Nat.testBit_eq_decide_div_mod_eq, Nat.pow_succ, ← Nat.div_div_eq_div_mul]
  unfold two
  generalize M / 2 ^ j = X
  by_cases h1 : X % 2 = 1 <;> by_cases h2 : X / 2 % 2 = 1 <;> simp only [h1, h2, decide_true, decide_false, if_true, if_false, Bool.false_eq_true] <;> omega
theorem two_lt (p q : Bool) : two p q < 4 := by cases p <;> cases q <;> decide

/-- What the four cells round a place are, as the rows have them. -/
theorem four_at {f : Nat → Rt} {n : Nat} (h : okTo f n = true) (k j : Nat) (hj : j < 21) :
    outAt (mapG f n) (22 * k + j) = outB ((frM f n k).testBit j) ((frM f n k).testBit (j + 1)) ((frM f n (k + 1)).testBit j) ((frM f n (k + 1)).testBit (j + 1)) ∧
    inAt (mapG f n) (22 * k + j) = inwB ((frM f n k).testBit j) ((frM f n k).testBit (j + 1)) ((frM f n (k + 1)).testBit j) ((frM f n (k + 1)).testBit (j + 1)) := by
  rw [frM_bit h j k (by omega), frM_bit h (j + 1) k (by omega), frM_bit h j (k + 1) (by omega), frM_bit h (j + 1) (k + 1) (by omega)]
  unfold outAt inAt
  rw [show 22 * k + (j + 1) = 22 * k + j + 1 by omega, show 22 * (k + 1) + j = 22 * k + j + 22 by omega, show 22 * (k + 1) + (j + 1) = 22 * k + j + 23 by omega]
  exact ⟨rfl, rfl⟩
def CornPost (G : Nat → Bool) (w : World) (e : Ending) (w' : World) : Prop :=
  e = .returned (.tuple #[.int .i64 (rowsAt (outAt G) 21), .int .i64 (rowsAt (inAt G) 21)]) ∧ Below w.heap.size w w'
theorem outB_bd (p q r s : Bool) : 0 ≤ outB p q r s ∧ outB p q r s ≤ 2 := by cases p <;> cases q <;> cases r <;> cases s <;> decide
theorem inwB_bd (p q r s : Bool) : 0 ≤ inwB p q r s ∧ inwB p q r s ≤ 2 := by cases p <;> cases q <;> cases r <;> cases s <;> decide
end Go.Proofs.YtkfeeijiockdhaaDoor
