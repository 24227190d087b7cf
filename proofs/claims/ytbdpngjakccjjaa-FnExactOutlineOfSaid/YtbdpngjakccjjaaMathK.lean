
/- The outline: even, and at least as long as there are corners. -/
import Derived.Test.YtbdpngjakccjjaaMathJ
namespace Go.Proofs.Ytbdpngjakccjjaa

/-- The sides between the cell k and those behind and above it. -/
def sides (G : Nat → Bool) (k : Nat) : Int := one (G k != G (k + 1)) + (if k + 22 < 484 then one (G k != G (k + 22)) else 0)
def outl (G : Nat → Bool) : Int := sumN 483 (sides G)
def outB (p q r s : Bool) : Int :=
  let n := one p + one q + one r + one s
  if n = 1 then 1 else if n = 2 ∧ p = s then 2 else 0
def inwB (p q r s : Bool) : Int := if one p + one q + one r + one s = 3 then 1 else 0
theorem out_in (p q r s : Bool) : outB p q r s - inwB p q r s = cor p q r s := by cases p <;> cases q <;> cases r <;> cases s <;> decide
theorem out_in_le (p q r s : Bool) : 2 * (outB p q r s + inwB p q r s) ≤ one (p != q) + one (r != s) + one (p != r) + one (q != s) := by
  cases p <;> cases q <;> cases r <;> cases s <;> decide
theorem ne_eq (p q : Bool) : one (p != q) = one p + one q - 2 * (one p * one q) := by cases p <;> cases q <;> decide
def outAt (G : Nat → Bool) (a : Nat) : Int := outB (G a) (G (a + 1)) (G (a + 22)) (G (a + 23))
def inAt (G : Nat → Bool) (a : Nat) : Int := inwB (G a) (G (a + 1)) (G (a + 22)) (G (a + 23))
structure Map (G : Nat → Bool) : Prop extends Bare G where
  out : ∀ a, 484 ≤ a → G a = false
theorem Map.lo {G : Nat → Bool} (h : Map G) {a : Nat} (ha : a < 23) : G a = false := by
  by_cases e : a = 22
  · rw [e]; exact h.left 1 (by omega)
  · exact h.first a (by omega)
theorem Map.hi {G : Nat → Bool} (h : Map G) {a : Nat} (ha : 461 ≤ a) : G a = false := by
  by_cases e : a = 461
  · rw [e]; exact h.right 20 (by omega)
  by_cases e2 : a < 484
  · exact h.last a (by omega) e2
  · exact h.out a (by omega)
theorem sum_upto {f : Nat → Int} (n : Nat) (hn : 461 ≤ n) (h1 : ∀ a, 461 ≤ a → f a = 0) : sumN n f = sumN 461 f := by
  obtain ⟨m, rfl⟩ : ∃ m, n = 461 + m := ⟨n - 461, by omega⟩
  rw [sumN_split, sum_none (f := fun i => f (461 + i)) (fun i _ => h1 _ (by omega))]; omega
theorem sum_from {f : Nat → Int} (d : Nat) (h0 : ∀ a, a < d → f a = 0) (h1 : ∀ a, 461 ≤ a → f a = 0) : sumN 461 (fun a => f (a + d)) = sumN 461 f := by
  have e := sumN_split d 461 f
  rw [sum_none h0, sum_upto (d + 461) (by omega) h1, sumN_congr (f := fun i => f (d + i)) (g := fun a => f (a + d)) (fun i _ => by rw [Nat.add_comm])] at e
  omega
theorem outl_eq {G : Nat → Bool} (h : Map G) : outl G = sumN 461 (fun a => one (G a != G (a + 1))) + sumN 461 (fun a => one (G a != G (a + 22))) := by
  unfold outl
  have e : ∀ k, sides G k = one (G k != G (k + 1)) + one (G k != G (k + 22)) := fun k => by
    unfold sides
    split
    · rfl
    · rw [h.hi (a := k) (by omega), h.hi (a := k + 22) (by omega)]; rfl
  rw [sumN_congr (fun k _ => e k), sum_upto 483 (by omega) (fun a ha => by rw [h.hi ha, h.hi (a := a + 1) (by omega), h.hi (a := a + 22) (by omega)]; rfl), sumN_add]
theorem outl_even {G : Nat → Bool} (h : Map G) : outl G % 2 = 0 := by
  have v : ∀ d, d ≤ 23 → sumN 461 (fun a => one (G (a + d))) = sumN 461 (fun a => one (G a)) := fun d hd =>
    sum_from (f := fun a => one (G a)) d (fun a ha => by rw [h.lo (by omega)]; rfl) (fun a ha => by rw [h.hi ha]; rfl)
  rw [outl_eq h, sumN_congr (fun a _ => ne_eq (G a) (G (a + 1))), sumN_congr (fun a _ => ne_eq (G a) (G (a + 22))), sumN_sub, sumN_sub, sumN_add, sumN_add, sumN_mul, sumN_mul, v 1 (by omega), v 22 (by omega)]
  omega
theorem corners_le {G : Nat → Bool} (h : Map G) : sumN 461 (outAt G) + sumN 461 (inAt G) ≤ outl G := by
  have hh : sumN 461 (fun a => one (G (a + 22) != G (a + 22 + 1))) = sumN 461 (fun a => one (G a != G (a + 1))) :=
    sum_from (f := fun a => one (G a != G (a + 1))) 22 (fun a ha => by rw [h.lo (a := a) (by omega), h.lo (a := a + 1) (by omega)]; rfl) (fun a ha => by rw [h.hi ha, h.hi (a := a + 1) (by omega)]; rfl)
  have uu : sumN 461 (fun a => one (G (a + 1) != G (a + 1 + 22))) = sumN 461 (fun a => one (G a != G (a + 22))) :=
    sum_from (f := fun a => one (G a != G (a + 22))) 1 (fun a ha => by rw [h.lo (a := a) (by omega), h.lo (a := a + 22) (by omega)]; rfl) (fun a ha => by rw [h.hi ha, h.hi (a := a + 22) (by omega)]; rfl)
  have le : sumN 461 (fun a => 2 * (outAt G a + inAt G a)) ≤ sumN 461 (fun a => one (G a != G (a + 1)) + one (G (a + 22) != G (a + 22 + 1)) + one (G a != G (a + 22)) + one (G (a + 1) != G (a + 1 + 22))) :=
    sumN_le fun a _ => out_in_le _ _ _ _
  rw [sumN_mul, sumN_add, sumN_add, sumN_add, sumN_add, hh, uu] at le
  rw [outl_eq h]
  omega
/-- What the law of corners says. -/
theorem corners_law {G : Nat → Bool} (h : Map G) : sumN 461 (outAt G) - sumN 461 (inAt G) = 4 * chi G 484 ∧ (sumN 461 (outAt G) + sumN 461 (inAt G)) % 2 = 0 ∧ sumN 461 (outAt G) + sumN 461 (inAt G) ≤ outl G := by
  have e : sumN 461 (outAt G) - sumN 461 (inAt G) = 4 * chi G 484 := by
    rw [← cor_sum h.toBare h.out, ← sumN_sub]; exact sumN_congr fun a _ => out_in _ _ _ _
  exact ⟨e, by omega, corners_le h⟩
/-- by rows, as the corners are counted -/
theorem rows22 (g : Nat → Int) (m : Nat) : sumN (22 * m) g = sumN m (fun y => sumN 22 fun x => g (22 * y + x)) := by
  induction m with
  | zero => rfl
  | succ m ih =>
    rw [show 22 * (m + 1) = 22 * m + 22 by omega, sumN_split, ih]
    rfl
theorem rows21 {g : Nat → Int} (h0 : ∀ y, y < 21 → g (22 * y + 21) = 0) : sumN 21 (fun y => sumN 21 fun x => g (22 * y + x)) = sumN 461 g := by
  have e : sumN 462 g = sumN 461 g := by
    have h461 : g 461 = 0 := h0 20 (by omega)
    show sumN 461 g + g 461 = _
    omega
  rw [← e, show 462 = 22 * 21 from rfl, rows22]
  refine sumN_congr fun y hy => ?_
  have := h0 y hy
  show sumN 21 _ = sumN 21 _ + g (22 * y + 21)
  omega
theorem corner_rows {G : Nat → Bool} (h : Map G) : sumN 21 (fun y => sumN 21 fun x => outAt G (22 * y + x)) = sumN 461 (outAt G) ∧ sumN 21 (fun y => sumN 21 fun x => inAt G (22 * y + x)) = sumN 461 (inAt G) := by
  have z : ∀ y, y < 21 → G (22 * y + 21) = false ∧ G (22 * y + 21 + 1) = false ∧ G (22 * y + 21 + 22) = false ∧ G (22 * y + 21 + 23) = false := fun y hy => by
    refine ⟨h.right y (by omega), ?_, ?_, ?_⟩
    · rw [show 22 * y + 21 + 1 = 22 * (y + 1) by omega]; exact h.left _ (by omega)
    · rw [show 22 * y + 21 + 22 = 22 * (y + 1) + 21 by omega]; exact h.right _ (by omega)
    · by_cases e : y = 20
      · exact h.out _ (by omega)
      · rw [show 22 * y + 21 + 23 = 22 * (y + 2) by omega]; exact h.left _ (by omega)
  constructor
  · refine rows21 fun y hy => ?_
    obtain ⟨a, b, c, d⟩ := z y hy
    unfold outAt; rw [a, b, c, d]; decide
  · refine rows21 fun y hy => ?_
    obtain ⟨a, b, c, d⟩ := z y hy
    unfold inAt; rw [a, b, c, d]; decide
/-- Two maps laid over each other have at most both outlines. -/
theorem outl_or {G H : Nat → Bool} : outl (fun a => G a || H a) ≤ outl G + outl H := by
  unfold outl
  rw [← sumN_add]
  refine sumN_le fun k _ => ?_
  have t : ∀ a b c d : Bool, one ((a || b) != (c || d)) ≤ one (a != c) + one (b != d) := by decide
  have t1 := t (G k) (H k) (G (k + 1)) (H (k + 1))
  have t2 := t (G k) (H k) (G (k + 22)) (H (k + 22))
  unfold sides
  dsimp only
  by_cases e : k + 22 < 484
  · rw [if_pos e, if_pos e, if_pos e]; omega
  · rw [if_neg e, if_neg e, if_neg e]; omega
end Go.Proofs.Ytbdpngjakccjjaa
