
/- Chapter 2: UnionArea of spec; the exact law's walk. -/
import Derived.Test.YthbmiibbnbbdgaaUn2
import Derived.Test.YthbmiibbnbbdgaaRectC
namespace Go.Proofs.Ythbmiibbnbbdgaa
open Go.RowKit Go.Sort
set_option linter.unusedVariables false
def depF (f : Nat → Rt) (x y : Int) : Nat → Int
  | 0 => 0
  | k + 1 => depF f x y k + one (hasB (f k) x y)
theorem depF_bd (f : Nat → Rt) (x y : Int) (k : Nat) : 0 ≤ depF f x y k ∧ depF f x y k ≤ k := by
  induction k with
  | zero => simp [depF]
  | succ k ih => simp only [depF]; have := one_nonneg (hasB (f k) x y); have := one_le (hasB (f k) x y); omega
theorem depF_any (f : Nat → Rt) (x y : Int) (k : Nat) : decide (0 < depF f x y k) = anyTo f x y k := by
  induction k with
  | zero => rfl
  | succ k ih =>
    simp only [depF, anyTo]
    rw [← ih]
    have := depF_bd f x y k
    have e : ∀ b : Bool, decide (0 < depF f x y k + one b) = (decide (0 < depF f x y k) || b) := by
      intro b; cases b <;> simp [one] <;> omega
    exact e _
theorem hasB_in (r : Rt) (x y : Int) : hasB r x y = (inB x r.l (r.r - 1) && inB y r.o (r.h - 1)) := by
  rw [Bool.eq_iff_iff, Bool.and_eq_true, hasB_iff, inB_iff, inB_iff]; omega
theorem in_val (n lo hi : Int) (v : Bool) (h : inB n lo hi = v) (w : World) :
    Calls Try.prog 65 #[.int .i64 n, .int .i64 lo, .int .i64 hi] w fun e w' => e = .returned (.bool v) ∧ Below w.heap.size w w' :=
  (in_any n lo hi w).mono fun _ _ hh => ⟨h ▸ hh.1, hh.2 ▸ Below.refl _ _⟩

def cellF (f : Nat → Rt) (n y x : Nat) : Int := one (anyTo f x y n)
def rowF (f : Nat → Rt) (n y : Nat) : Int := sumN 20 (cellF f n y)
theorem cellF_bd (f : Nat → Rt) (n y k : Nat) : 0 ≤ sumN k (cellF f n y) ∧ sumN k (cellF f n y) ≤ k := by
  induction k with
  | zero => simp [sumN]
  | succ k ih => simp only [sumN]; have := one_nonneg (anyTo f k y n); have := one_le (anyTo f k y n); unfold cellF at *; omega
theorem rowF_bd (f : Nat → Rt) (n k : Nat) : 0 ≤ sumN k (rowF f n) ∧ sumN k (rowF f n) ≤ 20 * k := by
  induction k with
  | zero => simp [sumN]
  | succ k ih => simp only [sumN]; have h := cellF_bd f n k 20; unfold rowF at *; omega
theorem uaF_yes (f : Nat → Rt) (n : Nat) (h : laidF f n = true) : uaF f n = sumN 20 (rowF f n) := by unfold uaF; rw [h]; rfl
end Go.Proofs.Ythbmiibbnbbdgaa
