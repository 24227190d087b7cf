
/- Outlines: of one rectangle, and with a further one. -/
import Derived.Test.YtbdpngjakccjjaaDoorMathM
namespace Go.Proofs.YtbdpngjakccjjaaDoor

def mapR (r : Rt) : Nat → Bool := mapG (fun _ => r) 1
theorem mapG_or (f : Nat → Rt) (n : Nat) : mapG f (n + 1) = fun a => mapG f n a || mapR (f n) a := by
  funext a
  unfold mapR mapG
  simp only [anyTo]
  rw [Bool.false_or, Bool.and_or_distrib_left]
theorem outl_step (f : Nat → Rt) (n : Nat) : outl (mapG f (n + 1)) ≤ outl (mapG f n) + outl (mapR (f n)) := by
  rw [mapG_or]; exact outl_or
def inB' (a b : Int) (x : Nat) : Bool := decide (a + 1 ≤ (x : Int) ∧ (x : Int) ≤ b)
theorem mapR_at (r : Rt) (h : okB r = true) (x y : Nat) (hx : x < 22) : mapR r (22 * y + x) = (inB' r.l r.r x && inB' r.o r.h y) := by
  obtain ⟨⟨p1, p2, p3⟩, q1, q2, q3⟩ := okB_iff.1 h
  unfold mapR
  rw [mapG_at _ 1 x y hx]
  simp only [anyTo, Bool.false_or]
  rw [Bool.eq_iff_iff, Bool.and_eq_true, Bool.and_eq_true, decide_eq_true_iff, hasB_iff]
  unfold inB'
  rw [decide_eq_true_iff, decide_eq_true_iff]
  omega
theorem span_ends (a b : Int) (h1 : 0 ≤ a) (h2 : a < b) (h3 : b ≤ 20) : sumN 21 (fun x => one (inB' a b x != inB' a b (x + 1))) = 2 := by
  have e : ∀ x : Nat, one (inB' a b x != inB' a b (x + 1)) = one (decide (x = a.toNat)) + one (decide (x = b.toNat)) := fun x => by
    unfold inB'
    rcases Int.lt_trichotomy (x : Int) a with h | h | h
    · rw [decide_eq_false (p := a + 1 ≤ (x : Int) ∧ (x : Int) ≤ b) (by omega), decide_eq_false (p := a + 1 ≤ ((x + 1 : Nat) : Int) ∧ ((x + 1 : Nat) : Int) ≤ b) (by omega), decide_eq_false (by omega), decide_eq_false (by omega)]; rfl
    · rw [decide_eq_false (p := a + 1 ≤ (x : Int) ∧ (x : Int) ≤ b) (by omega), decide_eq_true (p := a + 1 ≤ ((x + 1 : Nat) : Int) ∧ ((x + 1 : Nat) : Int) ≤ b) (by omega), decide_eq_true (by omega), decide_eq_false (by omega)]; rfl
    · rcases Int.lt_trichotomy (x : Int) b with k | k | k
      · rw [decide_eq_true (p := a + 1 ≤ (x : Int) ∧ (x : Int) ≤ b) (by omega), decide_eq_true (p := a + 1 ≤ ((x + 1 : Nat) : Int) ∧ ((x + 1 : Nat) : Int) ≤ b) (by omega), decide_eq_false (by omega), decide_eq_false (by omega)]; rfl
      · rw [decide_eq_true (p := a + 1 ≤ (x : Int) ∧ (x : Int) ≤ b) (by omega), decide_eq_false (p := a + 1 ≤ ((x + 1 : Nat) : Int) ∧ ((x + 1 : Nat) : Int) ≤ b) (by omega), decide_eq_false (by omega), decide_eq_true (by omega)]; rfl
      · rw [decide_eq_false (p := a + 1 ≤ (x : Int) ∧ (x : Int) ≤ b) (by omega), decide_eq_false (p := a + 1 ≤ ((x + 1 : Nat) : Int) ∧ ((x + 1 : Nat) : Int) ≤ b) (by omega), decide_eq_false (by omega), decide_eq_false (by omega)]; rfl
  rw [sumN_congr (fun x _ => e x), sumN_add, sumN_one 21 _ a.toNat (by omega) (fun i _ hne => by rw [decide_eq_false hne]; rfl), sumN_one 21 _ b.toNat (by omega) (fun i _ hne => by rw [decide_eq_false hne]; rfl),
    decide_eq_true rfl, decide_eq_true rfl]
  rfl
theorem span_in (a b : Int) (h1 : 0 ≤ a) (h2 : a < b) (h3 : b ≤ 20) : sumN 21 (fun x => one (inB' a b x)) = b - a := by
  have e : ∀ x : Nat, one (inB' a b x) = if a + 1 ≤ (x : Int) ∧ (x : Int) < b + 1 then 1 else 0 := fun x => by
    unfold inB' one
    by_cases h : a + 1 ≤ (x : Int) ∧ (x : Int) ≤ b
    · rw [decide_eq_true h, if_pos rfl, if_pos (by omega)]
    · rw [decide_eq_false h, if_neg (by decide), if_neg (by omega)]
  rw [sumN_congr (fun x _ => e x), sumN_span _ _ (by omega)]
  omega
/-- The outline of one rectangle. -/
theorem outl_one (r : Rt) (h : okB r = true) : outl (mapR r) = 2 * ((r.r - r.l) + (r.h - r.o)) := by
  obtain ⟨⟨p1, p2, p3⟩, q1, q2, q3⟩ := okB_iff.1 h
  have hM : Map (mapR r) := mapG_map _ 1
  have z : ∀ y, y < 21 → mapR r (22 * y + 21) = false ∧ mapR r (22 * y + 21 + 1) = false ∧ mapR r (22 * y + 21 + 22) = false := fun y hy => by
    refine ⟨hM.right y (by omega), ?_, ?_⟩
    · rw [show 22 * y + 21 + 1 = 22 * (y + 1) by omega]; exact hM.left _ (by omega)
    · rw [show 22 * y + 21 + 22 = 22 * (y + 1) + 21 by omega]; exact hM.right _ (by omega)
  have hh : sumN 461 (fun a => one (mapR r a != mapR r (a + 1))) = 2 * (r.h - r.o) := by
    rw [← rows21 (g := fun a => one (mapR r a != mapR r (a + 1))) (fun y hy => by obtain ⟨a, b, _⟩ := z y hy; rw [a, b]; rfl), ← span_in r.o r.h q1 q2 q3, ← sumN_mul]
    refine sumN_congr fun y hy => ?_
    rw [sumN_congr (g := fun x => one (inB' r.o r.h y) * one (inB' r.l r.r x != inB' r.l r.r (x + 1))) (fun x hx => by
      rw [mapR_at r h x y (by omega), show 22 * y + x + 1 = 22 * y + (x + 1) from rfl, mapR_at r h (x + 1) y (by omega)]
      cases inB' r.l r.r x <;> cases inB' r.l r.r (x + 1) <;> cases inB' r.o r.h y <;> decide), sumN_mul, span_ends _ _ p1 p2 p3, Int.mul_comm]
  have uu : sumN 461 (fun a => one (mapR r a != mapR r (a + 22))) = 2 * (r.r - r.l) := by
    rw [← rows21 (g := fun a => one (mapR r a != mapR r (a + 22))) (fun y hy => by obtain ⟨a, _, b⟩ := z y hy; rw [a, b]; rfl), ← span_ends r.o r.h q1 q2 q3, Int.mul_comm, ← sumN_mul]
    refine sumN_congr fun y hy => ?_
    rw [sumN_congr (g := fun x => one (inB' r.o r.h y != inB' r.o r.h (y + 1)) * one (inB' r.l r.r x)) (fun x hx => by
      rw [mapR_at r h x y (by omega), show 22 * y + x + 22 = 22 * (y + 1) + x by omega, mapR_at r h x (y + 1) (by omega)]
      cases inB' r.l r.r x <;> cases inB' r.o r.h (y + 1) <;> cases inB' r.o r.h y <;> decide), sumN_mul, span_in _ _ p1 p2 p3, Int.mul_comm]
  rw [outl_eq hM, hh, uu]
  omega
theorem sum_zero_each {n : Nat} {f : Nat → Int} (h : ∀ i, i < n → 0 ≤ f i) (hz : sumN n f = 0) : ∀ i, i < n → f i = 0 := by
  induction n with
  | zero => intro i hi; omega
  | succ n ih =>
    simp only [sumN] at hz
    have h1 := sumN_nonneg (n := n) (f := f) (fun i hi => h i (by omega))
    have h2 := h n (by omega)
    intro i hi
    by_cases e : i = n
    · rw [e]; omega
    · exact ih (fun i hi => h i (by omega)) (by omega) i (by omega)
theorem sides_nonneg (G : Nat → Bool) (k : Nat) : 0 ≤ sides G k := by
  unfold sides
  have := one_nonneg (G k != G (k + 1))
  have := one_nonneg (G k != G (k + 22))
  split <;> omega
/-- Without cells alone there is no outline. -/
theorem outl_none {G : Nat → Bool} (h : Map G) (hz : outl G = 0) (a : Nat) (ha : a < 484) : G a = false := by
  have hs := sum_zero_each (fun i _ => sides_nonneg G i) hz
  induction a with
  | zero => exact h.first 0 (by omega)
  | succ a ih =>
    have := hs a (by omega)
    unfold sides at this
    have n1 := one_nonneg (G a != G (a + 1))
    have n2 : 0 ≤ (if a + 22 < 484 then one (G a != G (a + 22)) else 0) := by
      have := one_nonneg (G a != G (a + 22)); split <;> omega
    have e : one (G a != G (a + 1)) = 0 := by omega
    rw [ih (by omega)] at e
    revert e
    cases G (a + 1) <;> decide
theorem outl_zero (f : Nat → Rt) : outl (mapG f 0) = 0 := by
  have z : ∀ a, mapG f 0 a = false := fun a => by unfold mapG; simp [anyTo]
  unfold outl
  refine sum_none fun k _ => ?_
  unfold sides
  rw [z, z, z]; split <;> rfl
theorem outl_pos {f : Nat → Rt} {n : Nat} (hok : okB (f n) = true) : outl (mapG f (n + 1)) ≠ 0 := fun hz => by
  obtain ⟨⟨p1, p2, p3⟩, q1, q2, q3⟩ := okB_iff.1 hok
  have := outl_none (mapG_map f (n + 1)) hz (22 * ((f n).o.toNat + 1) + ((f n).l.toNat + 1)) (by omega)
  rw [mapG_in (Nat.lt_succ_self n) hok (by omega) (by omega)] at this
  exact absurd this (by decide)
end Go.Proofs.YtbdpngjakccjjaaDoor
