
/- Chapter 2: UnionArea of impl: rows of bits. -/
import Derived.Test.YthbmiibbnbbdgaaUn
import Derived.Great.BuildSlice
namespace Go.Proofs.Ythbmiibbnbbdgaa
open Go.RowKit Go.Sort
set_option linter.unusedVariables false
def colM (L R : Nat) : Nat := 2 ^ R - 2 ^ L
theorem col_eq : ∀ R : Fin 21, ∀ L : Fin 21, L.val ≤ R.val → ((2 : Int) ^ R.val % 4294967296 - 2 ^ L.val % 4294967296) % 4294967296 = (colM L.val R.val : Nat) := by decide +kernel
theorem col_lt : ∀ R : Fin 21, ∀ L : Fin 21, colM L.val R.val < 2 ^ 20 := by decide +kernel
theorem col_bit : ∀ R : Fin 21, ∀ L : Fin 21, ∀ x : Fin 20, (colM L.val R.val).testBit x.val = decide (L.val ≤ x.val ∧ x.val < R.val) := by decide +kernel
/-- The rows behind one rectangle more. -/
def layM (m : Nat → Nat) (L O R H : Nat) (y : Nat) : Nat := if O ≤ y ∧ y < H then m y ||| colM L R else m y
/-- The cells of a bitmap. -/
def bmC (m : Nat → Nat) : Array Value := (Array.range 20).map fun y => Value.int .u32 (m y : Nat)
theorem bmC_size (m : Nat → Nat) : (bmC m).size = 20 := by simp [bmC]
theorem bmC_get (m : Nat → Nat) (y : Nat) (h : y < 20) : (bmC m)[y]? = some (.int .u32 (m y : Nat)) := by simp [bmC, h]
theorem bmC_set {m m' : Nat → Nat} {k : Nat} (hk : k < 20) (e : ∀ y, y < 20 → y ≠ k → m y = m' y) : (bmC m).setIfInBounds k (.int .u32 (m' k : Nat)) = bmC m' := by
  apply Array.ext
  · simp [bmC]
  · intro i h1 h2
    have hi : i < 20 := by rw [bmC_size] at h2; exact h2
    by_cases hik : k = i
    · subst hik; simp [bmC]
    · rw [Array.getElem_setIfInBounds_ne (by simpa [bmC] using hi) hik]; simp [bmC, e i hi (fun h => hik h.symm)]
theorem bmC_congr {m m' : Nat → Nat} (e : ∀ y, y < 20 → m y = m' y) : bmC m = bmC m' := by
  apply Array.ext
  · simp [bmC]
  · intro i h1 h2
    have hi : i < 20 := by rw [bmC_size] at h2; exact h2
    simp [bmC, e i hi]
theorem bmC_one (m : Nat → Nat) : (bmC m).all (·.oneCell') = true := by
  rw [Array.all_eq_true]; intro i hi; simp [bmC, Value.oneCell']
def SmallM (m : Nat → Nat) : Prop := ∀ y, m y < 2 ^ 20
theorem SmallM.lay {m : Nat → Nat} (h : SmallM m) {L R : Nat} (hL : L ≤ 20) (hR : R ≤ 20) (O H : Nat) : SmallM (layM m L O R H) := by
  intro y
  unfold layM
  split
  · exact Nat.or_lt_two_pow (h y) (col_lt ⟨R, by omega⟩ ⟨L, by omega⟩)
  · exact h y
theorem grown_drew {a w : World} {g : Nat} (h : a.grownBy w (some g)) : a.grownBy w.drew (some g) := ⟨h.os, h.tape, h.output, h.size, h.block⟩
/-- The rows of the rectangles f 0 .. f (k - 1). -/
def rowM (f : Nat → Rt) : Nat → Nat → Nat
  | 0 => fun _ => 0
  | k + 1 => layM (rowM f k) (f k).l.toNat (f k).o.toNat (f k).r.toNat (f k).h.toNat
theorem ok_nat {a : Rt} (h : okB a = true) : ∃ L O R H : Nat, a.l = L ∧ a.o = O ∧ a.r = R ∧ a.h = H ∧ L ≤ R ∧ R ≤ 20 ∧ O ≤ H ∧ H ≤ 20 := by
  have hk := okB_iff.1 h
  exact ⟨a.l.toNat, a.o.toNat, a.r.toNat, a.h.toNat, by omega, by omega, by omega, by omega, by omega, by omega, by omega, by omega⟩
theorem rowM_small (f : Nat → Rt) (n : Nat) (h : okTo f n = true) : ∀ k, k ≤ n → SmallM (rowM f k) := by
  intro k
  induction k with
  | zero => intro _ y; unfold rowM; decide
  | succ k ih =>
    intro hk
    obtain ⟨L, O, R, H, e0, e1, e2, e3, h1, h2, h3, h4⟩ := ok_nat (okTo_le h (by omega : k < n))
    unfold rowM
    exact (ih (by omega)).lay (by omega) (by omega) _ _
theorem bmC_zero : bmC (fun _ => 0) = #[.int .u32 0, .int .u32 0, .int .u32 0, .int .u32 0, .int .u32 0, .int .u32 0, .int .u32 0, .int .u32 0, .int .u32 0, .int .u32 0, .int .u32 0, .int .u32 0, .int .u32 0, .int .u32 0, .int .u32 0, .int .u32 0, .int .u32 0, .int .u32 0, .int .u32 0, .int .u32 0] := by kernel_rfl
theorem below_setRow {B : Nat} {a w : World} (h : Below B a w) {g : Nat} (hg : B ≤ g) (cs : Array Value) : Below B a (w.setRow g cs) :=
  h.trans ⟨rfl, rfl, rfl, by simp, fun k hk => setRow_other w g k _ (by omega)⟩

theorem popTo_sum (s k : Nat) : ((popTo s k : Nat) : Int) = sumN k fun x => one (s.testBit x) := by
  induction k with
  | zero => rfl
  | succ k ih => simp only [popTo, sumN]; rw [← ih]; cases s.testBit k <;> simp [one]
theorem row_bit (f : Nat → Rt) (n : Nat) (h : okTo f n = true) (x y : Nat) (hx : x < 20) : ∀ k, k ≤ n → (rowM f k y).testBit x = anyTo f x y k := by
  intro k
  induction k with
  | zero => intro _; simp [rowM, anyTo]
  | succ k ih =>
    intro hk
    obtain ⟨L, O, R, H, e0, e1, e2, e3, h1, h2, h3, h4⟩ := ok_nat (okTo_le h (by omega : k < n))
    have hb := col_bit ⟨R, by omega⟩ ⟨L, by omega⟩ ⟨x, hx⟩
    dsimp only at hb
    simp only [rowM, anyTo]
    rw [← ih (by omega), e0, e1, e2, e3]
    simp only [Int.toNat_natCast]
    unfold layM
    by_cases hy : O ≤ y ∧ y < H
    · rw [if_pos hy, Nat.testBit_or, hb]
      congr 1
      unfold hasB
      rw [e0, e1, e2, e3, Bool.eq_iff_iff, decide_eq_true_iff, decide_eq_true_iff]
      omega
    · rw [if_neg hy]
      have : hasB (f k) x y = false := by
        rw [Bool.eq_false_iff]; intro hh; have := hasB_iff.1 hh; omega
      rw [this, Bool.or_false]
def uaF (f : Nat → Rt) (n : Nat) : Int := if laidF f n then cells (fun x y => one (anyTo f x y n)) else -1
theorem row_cells (f : Nat → Rt) (n : Nat) (h : okTo f n = true) : sumN 20 (fun y => ((popTo (rowM f n y) 20 : Nat) : Int)) = cells (fun x y => one (anyTo f x y n)) := by
  unfold cells
  refine sumN_congr fun y _ => ?_
  rw [popTo_sum]
  exact sumN_congr fun x hx => by rw [row_bit f n h x y hx n (Nat.le_refl _)]
theorem sum_pop_bd (m : Nat → Nat) (k : Nat) : 0 ≤ sumN k (fun y => ((popTo (m y) 20 : Nat) : Int)) ∧ sumN k (fun y => ((popTo (m y) 20 : Nat) : Int)) ≤ 20 * k := by
  induction k with
  | zero => simp [sumN]
  | succ k ih => simp only [sumN]; have := popTo_le (m k) 20; omega

def CountPost (m : Nat → Nat) (w : World) (e : Ending) (w' : World) : Prop :=
  e = .returned (.int .i64 (sumN 20 (fun y => ((popTo (m y) 20 : Nat) : Int)))) ∧ Below w.heap.size w w'
end Go.Proofs.Ythbmiibbnbbdgaa
