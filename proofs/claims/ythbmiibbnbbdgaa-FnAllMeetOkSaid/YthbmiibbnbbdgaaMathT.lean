
/- The mathematics of tables of changes: depths are summed from changes at four corners. -/
import Derived.Test.YthbmiibbnbbdgaaUn3
namespace Go.Proofs.Ythbmiibbnbbdgaa

/-- A table with one cell changed. -/
def bump (T : Nat → Int) (k : Nat) (d : Int) : Nat → Int := fun j => if j = k then T j + d else T j
theorem bump_same (T : Nat → Int) (k : Nat) (d : Int) : bump T k d k = T k + d := if_pos rfl
theorem bump_other (T : Nat → Int) {k j : Nat} (d : Int) (h : j ≠ k) : bump T k d j = T j := if_neg h
/-- The changes of one rectangle more. -/
def layT (T : Nat → Int) (L O R H : Nat) : Nat → Int := bump (bump (bump (bump T (O * 21 + L) 1) (O * 21 + R) (-1)) (H * 21 + L) (-1)) (H * 21 + R) 1
def chT (f : Nat → Rt) : Nat → Nat → Int
  | 0 => fun _ => 0
  | k + 1 => layT (chT f k) (f k).l.toNat (f k).o.toNat (f k).r.toNat (f k).h.toNat
def BndT (T : Nat → Int) (B : Int) : Prop := ∀ k, -B ≤ T k ∧ T k ≤ B
theorem BndT.bump {T : Nat → Int} {B : Int} (h : BndT T B) (k : Nat) (d : Int) (h1 : -1 ≤ d) (h2 : d ≤ 1) : BndT (bump T k d) (B + 1) := by
  intro j
  unfold Go.Proofs.Ythbmiibbnbbdgaa.bump
  have := h j
  split <;> omega
theorem BndT.lay {T : Nat → Int} {B : Int} (h : BndT T B) (L O R H : Nat) : BndT (layT T L O R H) (B + 4) := by
  have := (((h.bump (O * 21 + L) 1 (by omega) (by omega)).bump (O * 21 + R) (-1) (by omega) (by omega)).bump (H * 21 + L) (-1) (by omega) (by omega)).bump (H * 21 + R) 1 (by omega) (by omega)
  rw [show B + 4 = B + 1 + 1 + 1 + 1 by omega]; exact this
theorem chT_bnd (f : Nat → Rt) (n : Nat) : BndT (chT f n) (4 * n) := by
  induction n with
  | zero => intro k; simp [chT]
  | succ n ih =>
    have := ih.lay (f n).l.toNat (f n).o.toNat (f n).r.toNat (f n).h.toNat
    rw [show 4 * ((n + 1 : Nat) : Int) = 4 * n + 4 by omega]; exact this
theorem BndT.sum {T : Nat → Int} {B : Int} (h : BndT T B) (a n : Nat) : -(B * n) ≤ sumN n (fun i => T (a + i)) ∧ sumN n (fun i => T (a + i)) ≤ B * n := by
  induction n with
  | zero => simp [sumN]
  | succ n ih =>
    simp only [sumN]
    have := h (a + n)
    rw [show B * ((n + 1 : Nat) : Int) = B * n + B by rw [Int.natCast_succ, Int.mul_add, Int.mul_one]]
    omega
/-- The sum over one row's cells up to x. -/
def rowT (T : Nat → Int) (y n : Nat) : Int := sumN n (fun i => T (y * 21 + i))
/-- The sum over m rows, each up to x. -/
def boxT (T : Nat → Int) (m x : Nat) : Int := sumN m (fun j => rowT T j (x + 1))
theorem rowT_bump (T : Nat → Int) (O L y n : Nat) (d : Int) (hL : L < 21) (hn : n ≤ 21) : rowT (bump T (O * 21 + L) d) y n = rowT T y n + (if y = O ∧ L < n then d else 0) := by
  unfold rowT
  induction n with
  | zero => simp [sumN]
  | succ n ih =>
    simp only [sumN]
    rw [ih (by omega)]
    unfold bump
    by_cases h : y * 21 + n = O * 21 + L
    · rw [if_pos h, if_neg (by omega), if_pos (by omega)]; omega
    · rw [if_neg h]
      by_cases h2 : y = O ∧ L < n
      · rw [if_pos h2, if_pos (by omega)]; omega
      · rw [if_neg h2, if_neg (by omega)]; omega
theorem boxT_bump (T : Nat → Int) (O L m x : Nat) (d : Int) (hL : L < 21) (hx : x < 21) : boxT (bump T (O * 21 + L) d) m x = boxT T m x + (if O < m ∧ L ≤ x then d else 0) := by
  unfold boxT
  induction m with
  | zero => simp [sumN]
  | succ m ih =>
    simp only [sumN]
    rw [ih, rowT_bump _ _ _ _ _ _ hL (by omega)]
    by_cases h : m = O ∧ L < x + 1
    · rw [if_pos h, if_neg (by omega), if_pos (by omega)]; omega
    · rw [if_neg h]
      by_cases h2 : O < m ∧ L ≤ x
      · rw [if_pos h2, if_pos (by omega)]; omega
      · rw [if_neg h2, if_neg (by omega)]; omega
theorem boxT_lay (T : Nat → Int) (L O R H m x : Nat) (hL : L < R) (hR : R ≤ 20) (hO : O < H) (hx : x < 20) :
    boxT (layT T L O R H) m x = boxT T m x + (if (O < m ∧ m ≤ H) ∧ L ≤ x ∧ x < R then 1 else 0) := by
  unfold layT
  rw [boxT_bump _ _ _ _ _ _ (by omega) (by omega), boxT_bump _ _ _ _ _ _ (by omega) (by omega), boxT_bump _ _ _ _ _ _ (by omega) (by omega), boxT_bump _ _ _ _ _ _ (by omega) (by omega)]
  by_cases a1 : O < m <;> by_cases a2 : H < m <;> by_cases a3 : L ≤ x <;> by_cases a4 : R ≤ x <;> simp only [a1, a2, a3, a4, and_self, and_true, and_false, true_and, false_and, if_true, if_false] <;>
    first
      | omega
      | (rw [if_pos (by omega)]; omega)
      | (rw [if_neg (by omega)]; omega)
theorem box_dep (f : Nat → Rt) (n : Nat) (h : okTo f n = true) (y x : Nat) (hy : y < 20) (hx : x < 20) : ∀ k, k ≤ n → boxT (chT f k) (y + 1) x = depF f x y k := by
  intro k
  induction k with
  | zero => intro _; simp only [chT, depF]; unfold boxT rowT; rw [sumN_congr (g := fun _ => 0) (fun j _ => sumN_zero _), sumN_zero]
  | succ k ih =>
    intro hk
    obtain ⟨⟨p1, p2, p3⟩, q1, q2, q3⟩ := okB_iff.1 (okTo_le h (by omega : k < n))
    simp only [chT, depF]
    rw [boxT_lay _ _ _ _ _ _ _ (by omega) (by omega) (by omega) hx, ih (by omega)]
    congr 1
    unfold one
    by_cases hc : hasB (f k) x y = true
    · have := hasB_iff.1 hc
      rw [if_pos hc, if_pos (by omega)]
    · have hn : ¬ _ := fun h2 => hc (hasB_iff.2 h2)
      rw [if_neg hc, if_neg (by omega)]
theorem boxT_succ (T : Nat → Int) (m x : Nat) : boxT T (m + 1) x = boxT T m x + rowT T m (x + 1) := rfl
theorem rowT_succ (T : Nat → Int) (y n : Nat) : rowT T y (n + 1) = rowT T y n + T (y * 21 + n) := rfl
theorem box_bd (f : Nat → Rt) (n : Nat) (h : okTo f n = true) (m x : Nat) (hm : m ≤ 20) (hx : x < 20) : 0 ≤ boxT (chT f n) m x ∧ boxT (chT f n) m x ≤ n := by
  by_cases h0 : m = 0
  · subst h0; unfold boxT; simp [sumN]
  · obtain ⟨y, rfl⟩ : ∃ y, m = y + 1 := ⟨m - 1, by omega⟩
    rw [box_dep f n h y x (by omega) hx n (Nat.le_refl _)]
    exact depF_bd f x y n
theorem row_bd (f : Nat → Rt) (n y k : Nat) (h7 : n ≤ 7) (hk : k ≤ 20) : -560 ≤ rowT (chT f n) y k ∧ rowT (chT f n) y k ≤ 560 := by
  have h := (chT_bnd f n).sum (y * 21) k
  unfold rowT
  have : (4 * (n : Int)) * k ≤ 28 * 20 := by
    have h1 : 4 * (n : Int) ≤ 28 := by omega
    have h2 : (k : Int) ≤ 20 := by omega
    calc 4 * (n : Int) * k ≤ 28 * k := Int.mul_le_mul_of_nonneg_right h1 (by omega)
      _ ≤ 28 * 20 := Int.mul_le_mul_of_nonneg_left h2 (by omega)
  omega
end Go.Proofs.Ythbmiibbnbbdgaa
