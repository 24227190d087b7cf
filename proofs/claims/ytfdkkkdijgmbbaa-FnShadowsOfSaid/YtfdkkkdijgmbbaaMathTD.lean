/- The mathematics of tables of changes: depths are summed from changes at four corners. The mathematics of depths: how many cells have which depth, the deepest cell, and sums. -/
import Derived.Test.YtfdkkkdijgmbbaaUni
namespace Go.Proofs.Ytfdkkkdijgmbbaa

/-- A table with one cell changed. -/
def bump (T : Nat → Int) (k : Nat) (d : Int) : Nat → Int := fun j => if j = k then T j + d else T j
theorem bump_same (T : Nat → Int) (k : Nat) (d : Int) : bump T k d k = T k + d := if_pos rfl
theorem bump_other (T : Nat → Int) {k j : Nat} (d : Int) (h : j ≠ k) : bump T k d j = T j := if_neg h
/-- The changes of one rectangle more. -/
def layT (T : Nat → Int) (L O R H : Nat) : Nat → Int := bump (bump (bump (bump T (O * 21 + L) 1) (O * 21 + R) (-1)) (H * 21 + L) (-1)) (H * 21 + R) 1
def chT (f : Nat → Rt) : Nat → Nat → Int
  | 0 => fun _ => 0
  | k + 1 => layT (chT f k) (f k).l.toNat (f k).o.toNat (f k).r.toNat (f k).h.toNat
def BndT (T : Nat → Int) (B : Int) : Prop := ∀ k, -B ≤ T k ∧ T k ≤ B
theorem BndT.bump {T : Nat → Int} {B : Int} (h : BndT T B) (k : Nat) (d : Int) (h1 : -1 ≤ d) (h2 : d ≤ 1) : BndT (bump T k d) (B + 1) := by
  intro j
  unfold Go.Proofs.Ytfdkkkdijgmbbaa.bump
  have := h j
  split <;> omega
theorem BndT.lay {T : Nat → Int} {B : Int} (h : BndT T B) (L O R H : Nat) : BndT (layT T L O R H) (B + 4) := by
  have := (((h.bump (O * 21 + L) 1 (by omega) (by omega)).bump (O * 21 + R) (-1) (by omega) (by omega)).bump (H * 21 + L) (-1) (by omega) (by omega)).bump (H * 21 + R) 1 (by omega) (by omega)
  rw [show B + 4 = B + 1 + 1 + 1 + 1 by omega]; exact this
theorem chT_bnd (f : Nat → Rt) (n : Nat) : BndT (chT f n) (4 * n) := by
  induction n with
  | zero => intro k; simp [chT]
  | succ n ih =>
    have := ih.lay (f n).l.toNat (f n).o.toNat (f n).r.toNat (f n).h.toNat
    rw [show 4 * ((n + 1 : Nat) : Int) = 4 * n + 4 by omega]; exact this
theorem BndT.sum {T : Nat → Int} {B : Int} (h : BndT T B) (a n : Nat) : -(B * n) ≤ sumN n (fun i => T (a + i)) ∧ sumN n (fun i => T (a + i)) ≤ B * n := by
  induction n with
  | zero => simp [sumN]
  | succ n ih =>
    simp only [sumN]
    have := h (a + n)
    rw [show B * ((n + 1 : Nat) : Int) = B * n + B by rw [Int.natCast_succ, Int.mul_add, Int.mul_one]]
    omega
/-- The sum over one row's cells up to x. -/
def rowT (T : Nat → Int) (y n : Nat) : Int := sumN n (fun i => T (y * 21 + i))
/-- The sum over m rows, each up to x. -/
def boxT (T : Nat → Int) (m x : Nat) : Int := sumN m (fun j => rowT T j (x + 1))
theorem rowT_bump (T : Nat → Int) (O L y n : Nat) (d : Int) (hL : L < 21) (hn : n ≤ 21) : rowT (bump T (O * 21 + L) d) y n = rowT T y n + (if y = O ∧ L < n then d else 0) := by
  unfold rowT
  induction n with
  | zero => simp [sumN]
  | succ n ih =>
    simp only [sumN]
    rw [ih (by omega)]
    unfold bump
    by_cases h : y * 21 + n = O * 21 + L
    · rw [if_pos h, if_neg (by omega), if_pos (by omega)]; omega
    · rw [if_neg h]
      by_cases h2 : y = O ∧ L < n
      · rw [if_pos h2, if_pos (by omega)]; omega
      · rw [if_neg h2, if_neg (by omega)]; omega
theorem boxT_bump (T : Nat → Int) (O L m x : Nat) (d : Int) (hL : L < 21) (hx : x < 21) : boxT (bump T (O * 21 + L) d) m x = boxT T m x + (if O < m ∧ L ≤ x then d else 0) := by
  unfold boxT
  induction m with
  | zero => simp [sumN]
  | succ m ih =>
    simp only [sumN]
    rw [ih, rowT_bump _ _ _ _ _ _ hL (by omega)]
    by_cases h : m = O ∧ L < x + 1
    · rw [if_pos h, if_neg (by omega), if_pos (by omega)]; omega
    · rw [if_neg h]
      by_cases h2 : O < m ∧ L ≤ x
      · rw [if_pos h2, if_pos (by omega)]; omega
      · rw [if_neg h2, if_neg (by omega)]; omega
theorem boxT_lay (T : Nat → Int) (L O R H m x : Nat) (hL : L < R) (hR : R ≤ 20) (hO : O < H) (hx : x < 20) :
    boxT (layT T L O R H) m x = boxT T m x + (if (O < m ∧ m ≤ H) ∧ L ≤ x ∧ x < R then 1 else 0) := by
  unfold layT
  rw [boxT_bump _ _ _ _ _ _ (by omega) (by omega), boxT_bump _ _ _ _ _ _ (by omega) (by omega), boxT_bump _ _ _ _ _ _ (by omega) (by omega), boxT_bump _ _ _ _ _ _ (by omega) (by omega)]
  by_cases a1 : O < m <;> by_cases a2 : H < m <;> by_cases a3 : L ≤ x <;> by_cases a4 : R ≤ x <;> simp only [a1, a2, a3, a4, and_self, and_true, and_false, true_and, false_and, if_true, if_false] <;>
    first
      | omega
      | (rw [if_pos (by omega)]; omega)
      | (rw [if_neg (by omega)]; omega)
theorem box_dep (f : Nat → Rt) (n : Nat) (h : okTo f n = true) (y x : Nat) (hy : y < 20) (hx : x < 20) : ∀ k, k ≤ n → boxT (chT f k) (y + 1) x = depF f x y k := by
  intro k
  induction k with
  | zero => intro _; simp only [chT, depF]; unfold boxT rowT; rw [sumN_congr (g := fun _ => 0) (fun j _ => sumN_zero _), sumN_zero]
  | succ k ih =>
    intro hk
    obtain ⟨⟨p1, p2, p3⟩, q1, q2, q3⟩ := okB_iff.1 (okTo_le h (by omega : k < n))
    simp only [chT, depF]
    rw [boxT_lay _ _ _ _ _ _ _ (by omega) (by omega) (by omega) hx, ih (by omega)]
    congr 1
    unfold one
    by_cases hc : hasB (f k) x y = true
    · have := hasB_iff.1 hc
      rw [if_pos hc, if_pos (by omega)]
    · have hn : ¬ _ := fun h2 => hc (hasB_iff.2 h2)
      rw [if_neg hc, if_neg (by omega)]
theorem boxT_succ (T : Nat → Int) (m x : Nat) : boxT T (m + 1) x = boxT T m x + rowT T m (x + 1) := rfl
theorem rowT_succ (T : Nat → Int) (y n : Nat) : rowT T y (n + 1) = rowT T y n + T (y * 21 + n) := rfl
theorem box_bd (f : Nat → Rt) (n : Nat) (h : okTo f n = true) (m x : Nat) (hm : m ≤ 20) (hx : x < 20) : 0 ≤ boxT (chT f n) m x ∧ boxT (chT f n) m x ≤ n := by
  by_cases h0 : m = 0
  · subst h0; unfold boxT; simp [sumN]
  · obtain ⟨y, rfl⟩ : ∃ y, m = y + 1 := ⟨m - 1, by omega⟩
    rw [box_dep f n h y x (by omega) hx n (Nat.le_refl _)]
    exact depF_bd f x y n
theorem row_bd (f : Nat → Rt) (n y k : Nat) (h7 : n ≤ 7) (hk : k ≤ 20) : -560 ≤ rowT (chT f n) y k ∧ rowT (chT f n) y k ≤ 560 := by
  have h := (chT_bnd f n).sum (y * 21) k
  unfold rowT
  have : (4 * (n : Int)) * k ≤ 28 * 20 := by
    have h1 : 4 * (n : Int) ≤ 28 := by omega
    have h2 : (k : Int) ≤ 20 := by omega
    calc 4 * (n : Int) * k ≤ 28 * k := Int.mul_le_mul_of_nonneg_right h1 (by omega)
      _ ≤ 28 * 20 := Int.mul_le_mul_of_nonneg_left h2 (by omega)
  omega
end Go.Proofs.Ytfdkkkdijgmbbaa
namespace Go.Proofs.Ytfdkkkdijgmbbaa

theorem sumN_rows (g : Nat → Nat → Int) (m : Nat) : sumN (20 * m) (fun i => g (i % 20) (i / 20)) = sumN m (fun y => sumN 20 fun x => g x y) := by
  induction m with
  | zero => rfl
  | succ m ih =>
    rw [show 20 * (m + 1) = 20 * m + 20 by omega, sumN_split, ih]
    show _ = sumN m (fun y => sumN 20 fun x => g x y) + sumN 20 (fun x => g x m)
    congr 1
    refine sumN_congr fun i hi => ?_
    rw [show (20 * m + i) % 20 = i by omega, show (20 * m + i) / 20 = m by omega]
theorem cells_run (g : Nat → Nat → Int) : cells g = sumN 400 (fun i => g (i % 20) (i / 20)) := (sumN_rows g 20).symm
theorem cells_one : cells (fun _ _ => 1) = 400 := by decide

/-- The depth of the k-th cell, row by row. -/
def cellK (f : Nat → Rt) (n k : Nat) : Int := depF f ((k % 20 : Nat) : Int) ((k / 20 : Nat) : Int) n
theorem cellK_bd (f : Nat → Rt) (n k : Nat) : 0 ≤ cellK f n k ∧ cellK f n k ≤ n := depF_bd f _ _ n
theorem cellK_at (f : Nat → Rt) (n x y : Nat) (hx : x < 20) : cellK f n (20 * y + x) = depF f x y n := by
  unfold cellK; rw [show (20 * y + x) % 20 = x by omega, show (20 * y + x) / 20 = y by omega]
/-- How many of the first k cells have a depth. -/
def histTo (f : Nat → Rt) (n k : Nat) (d : Int) : Int := sumN k fun i => one (decide (cellK f n i = d))
def histF (f : Nat → Rt) (n : Nat) (d : Int) : Int := cells fun x y => one (decide (depF f x y n = d))
theorem hist_run (f : Nat → Rt) (n : Nat) (d : Int) : histF f n d = histTo f n 400 d := cells_run _
theorem histTo_bd (f : Nat → Rt) (n k : Nat) (d : Int) : 0 ≤ histTo f n k d ∧ histTo f n k d ≤ k := by
  unfold histTo
  induction k with
  | zero => simp [sumN]
  | succ k ih => simp only [sumN]; have := one_nonneg (decide (cellK f n k = d)); have := one_le (decide (cellK f n k = d)); omega
theorem histF_bd (f : Nat → Rt) (n : Nat) (d : Int) : 0 ≤ histF f n d ∧ histF f n d ≤ 400 := by
  rw [hist_run]; exact histTo_bd f n 400 d
theorem histTo_succ (f : Nat → Rt) (n k : Nat) (d : Int) : histTo f n (k + 1) d = histTo f n k d + one (decide (cellK f n k = d)) := rfl
theorem depF_sum (f : Nat → Rt) (x y : Int) (n : Nat) : depF f x y n = sumN n fun i => one (hasB (f i) x y) := by
  induction n with
  | zero => rfl
  | succ n ih => simp only [depF, sumN]; rw [ih]
theorem dep_area (f : Nat → Rt) (n : Nat) (h : ∀ i, i < n → okB (f i) = true) : cells (fun x y => depF f x y n) = sumN n fun i => areaM (f i) := by
  rw [sumN_congr (g := fun i => cells fun x y => one (hasB (f i) x y)) (fun i hi => area_cells _ (h i hi)), sumN_cells]
  exact cells_congr fun x y _ _ => depF_sum f x y n
/-- the sum over all depths of a weight of the depth -/
theorem hist_sum (f : Nat → Rt) (n : Nat) (c : Nat → Int) : sumN (n + 1) (fun d => c d * histF f n d) = cells (fun x y => c (depF f x y n).toNat) := by
  unfold histF
  rw [sumN_congr (g := fun d => cells fun x y => c d * one (decide (depF f x y n = d))) (fun d _ => (cells_mul _ _).symm), sumN_cells]
  refine cells_congr fun x y _ _ => ?_
  obtain ⟨h1, h2⟩ := depF_bd f x y n
  rw [sumN_one (n + 1) _ (depF f x y n).toNat (by omega) (fun i _ hne => by
    rw [show decide (depF f x y n = (i : Int)) = false by simp; omega]; simp [one])]
  rw [show decide (depF f x y n = ((depF f x y n).toNat : Int)) = true by simp; omega]; simp [one]
theorem hist_all (f : Nat → Rt) (n : Nat) : sumN (n + 1) (fun d => histF f n d) = 400 := by
  rw [← cells_one, ← hist_sum f n (fun _ => 1)]
  exact sumN_congr fun d _ => by omega
theorem one_decide_not {p : Prop} [Decidable p] : one (decide p) = 1 - one (!decide p) := by cases decide p <;> decide
theorem hist_none (f : Nat → Rt) (n : Nat) : 400 - histF f n 0 = cells (fun x y => one (anyTo f x y n)) := by
  unfold histF
  rw [← cells_one, ← cells_sub]
  refine cells_congr fun x y _ _ => ?_
  obtain ⟨h1, _⟩ := depF_bd f x y n
  rw [← depF_any]
  by_cases h : depF f x y n = 0
  · rw [h]; decide
  · rw [show decide (depF f x y n = 0) = false by simpa using h, show decide (0 < depF f x y n) = true by simp; omega]; decide
theorem hist_weighted (f : Nat → Rt) (n : Nat) (h : ∀ i, i < n → okB (f i) = true) : sumN (n + 1) (fun d => (d : Int) * histF f n d) = sumN n fun i => areaM (f i) := by
  rw [hist_sum f n (fun d => (d : Int)), ← dep_area f n h]
  refine cells_congr fun x y _ _ => ?_
  obtain ⟨h1, _⟩ := depF_bd f x y n
  omega
/-- How many cells have at least the depth k. -/
def tailF (f : Nat → Rt) (n k : Nat) : Int := cells fun x y => one (decide ((k : Int) ≤ depF f x y n))
theorem tail_bd (f : Nat → Rt) (n k : Nat) : 0 ≤ tailF f n k ∧ tailF f n k ≤ 400 := by
  refine ⟨cells_nonneg fun _ _ _ _ => one_nonneg _, ?_⟩
  rw [← cells_one]; exact cells_le fun _ _ _ _ => one_le _
theorem tail_step (f : Nat → Rt) (n k : Nat) : tailF f n k = histF f n k + tailF f n (k + 1) := by
  unfold tailF histF
  rw [← cells_add]
  refine cells_congr fun x y _ _ => ?_
  rcases Int.lt_trichotomy (depF f x y n) k with h | h | h
  · rw [show decide ((k : Int) ≤ depF f x y n) = false by simp; omega, show decide (((k + 1 : Nat) : Int) ≤ depF f x y n) = false by simp; omega, show decide (depF f x y n = k) = false by simp; omega]; decide
  · rw [show decide ((k : Int) ≤ depF f x y n) = true by simp; omega, show decide (((k + 1 : Nat) : Int) ≤ depF f x y n) = false by simp; omega, show decide (depF f x y n = k) = true by simp; omega]; decide
  · rw [show decide ((k : Int) ≤ depF f x y n) = true by simp; omega, show decide (((k + 1 : Nat) : Int) ≤ depF f x y n) = true by simp; omega, show decide (depF f x y n = k) = false by simp; omega]; decide
theorem tail_far (f : Nat → Rt) (n k : Nat) (h : n < k) : tailF f n k = 0 := by
  unfold tailF; rw [← cells_zero]
  refine cells_congr fun x y _ _ => ?_
  have := depF_bd f x y n
  rw [show decide ((k : Int) ≤ depF f x y n) = false by simp; omega]; rfl
/-- what a loop adds up -/
theorem tail_sum (f : Nat → Rt) (n k j : Nat) : sumN j (fun i => histF f n ((k + i : Nat) : Int)) + tailF f n (k + j) = tailF f n k := by
  induction j with
  | zero => simp [sumN]
  | succ j ih => simp only [sumN]; rw [← ih, tail_step f n (k + j)]; rw [show k + (j + 1) = k + j + 1 by omega]; omega
theorem tail_less (f : Nat → Rt) (n k : Nat) : tailF f n (k + 1) ≤ tailF f n k := by
  rw [tail_step f n k]; have := histF_bd f n k; omega
theorem tail_one (f : Nat → Rt) (n : Nat) : tailF f n 1 = cells (fun x y => one (anyTo f x y n)) := by
  unfold tailF
  refine cells_congr fun x y _ _ => ?_
  rw [← depF_any]; congr 1
theorem tail_areas (f : Nat → Rt) (n : Nat) (h : ∀ i, i < n → okB (f i) = true) : sumN n (fun k => tailF f n (k + 1)) = sumN n fun i => areaM (f i) := by
  rw [← dep_area f n h]
  unfold tailF
  rw [sumN_cells]
  refine cells_congr fun x y _ _ => ?_
  obtain ⟨h1, h2⟩ := depF_bd f x y n
  have H : ∀ (m : Nat) (d : Int), 0 ≤ d → sumN m (fun i => one (decide (((i + 1 : Nat) : Int) ≤ d))) = min d m := by
    intro m d hd
    induction m with
    | zero => simp only [sumN]; omega
    | succ m ih =>
      simp only [sumN]; rw [ih]
      by_cases hm : ((m + 1 : Nat) : Int) ≤ d
      · rw [show decide (((m + 1 : Nat) : Int) ≤ d) = true by simpa using hm]; simp only [one, if_true]; omega
      · rw [show decide (((m + 1 : Nat) : Int) ≤ d) = false by simpa using hm]; simp only [one]; simp; omega
  rw [H n _ h1]; omega

/-- The deepest one of the first k cells. -/
def bestTo (f : Nat → Rt) (n : Nat) : Nat → Int × Int × Int
  | 0 => (-1, -1, -1)
  | k + 1 => if (bestTo f n k).1 < cellK f n k then (cellK f n k, ((k % 20 : Nat) : Int), ((k / 20 : Nat) : Int)) else bestTo f n k
theorem bestTo_cell (f : Nat → Rt) (n : Nat) : ∀ k, 0 < k → ∃ i, i < k ∧ bestTo f n k = (cellK f n i, ((i % 20 : Nat) : Int), ((i / 20 : Nat) : Int)) ∧ ∀ j, j < k → cellK f n j ≤ cellK f n i
  | 0, h => by omega
  | k + 1, _ => by
    by_cases h0 : k = 0
    · subst h0
      refine ⟨0, by omega, ?_, fun j hj => by rw [show j = 0 by omega]; exact Int.le_refl _⟩
      have := cellK_bd f n 0
      exact if_pos (show (-1 : Int) < cellK f n 0 by omega)
    · obtain ⟨i, hi, he, hm⟩ := bestTo_cell f n k (by omega)
      by_cases h : (bestTo f n k).1 < cellK f n k
      · refine ⟨k, by omega, by simp only [bestTo]; rw [if_pos h], fun j hj => ?_⟩
        by_cases e : j = k
        · rw [e]; exact Int.le_refl _
        · have := hm j (by omega); rw [he] at h; dsimp only at h; omega
      · refine ⟨i, by omega, by simp only [bestTo]; rw [if_neg h]; exact he, fun j hj => ?_⟩
        by_cases e : j = k
        · rw [he] at h; dsimp only at h; rw [e]; omega
        · exact hm j (by omega)
theorem bestTo_bd (f : Nat → Rt) (n k : Nat) (hk : k ≤ 400) : (-1 ≤ (bestTo f n k).1 ∧ (bestTo f n k).1 ≤ n) ∧ (-1 ≤ (bestTo f n k).2.1 ∧ (bestTo f n k).2.1 < 20) ∧ -1 ≤ (bestTo f n k).2.2 ∧ (bestTo f n k).2.2 < 20 := by
  by_cases h0 : k = 0
  · subst h0; simp only [bestTo]; omega
  · obtain ⟨i, hi, he, _⟩ := bestTo_cell f n k (by omega)
    have := cellK_bd f n i
    rw [he]; dsimp only; omega
theorem depF_mono (f : Nat → Rt) (x y : Int) (i n : Nat) (h : i < n) : one (hasB (f i) x y) ≤ depF f x y n := by
  induction n with
  | zero => omega
  | succ n ih =>
    simp only [depF]
    have := depF_bd f x y n
    have := one_nonneg (hasB (f n) x y)
    by_cases e : i = n
    · rw [e]; omega
    · have := ih (by omega); omega
/-- What the law of the deepest cell says. -/
theorem deepest_law (f : Nat → Rt) (n : Nat) (h : ∀ i, i < n → okB (f i) = true) :
    ∃ d x y : Nat, bestTo f n 400 = ((d : Int), (x : Int), (y : Int)) ∧ d ≤ n ∧ x < 20 ∧ y < 20 ∧ depF f x y n = d ∧ (∀ a b : Nat, a < 20 → b < 20 → depF f a b n ≤ d) ∧ (d = 0 ↔ n = 0) := by
  obtain ⟨i, hi, he, hm⟩ := bestTo_cell f n 400 (by omega)
  obtain ⟨b1, b2⟩ := cellK_bd f n i
  have H : ∀ a b : Nat, a < 20 → b < 20 → depF f a b n ≤ cellK f n i := fun a b ha hb => by
    rw [← cellK_at f n a b ha]; exact hm _ (by omega)
  refine ⟨(cellK f n i).toNat, i % 20, i / 20, ?_, by omega, by omega, by omega, ?_, ?_, ?_⟩
  · rw [he, show (((cellK f n i).toNat : Nat) : Int) = cellK f n i by omega]
  · rw [show (((cellK f n i).toNat : Nat) : Int) = cellK f n i by omega]; rfl
  · intro a b ha hb; rw [show (((cellK f n i).toNat : Nat) : Int) = cellK f n i by omega]; exact H a b ha hb
  · constructor
    · intro hd
      by_cases hn : n = 0
      · exact hn
      · exfalso
        obtain ⟨⟨p1, p2, p3⟩, q1, q2, q3⟩ := okB_iff.1 (h 0 (by omega))
        have hh := H (f 0).l.toNat (f 0).o.toNat (by omega) (by omega)
        rw [show (((f 0).l.toNat : Nat) : Int) = (f 0).l by omega, show (((f 0).o.toNat : Nat) : Int) = (f 0).o by omega] at hh
        have := depF_mono f (f 0).l (f 0).o 0 n (by omega)
        rw [show hasB (f 0) (f 0).l (f 0).o = true from hasB_iff.2 (by omega)] at this
        simp only [one, if_true] at this
        omega
    · intro hn; omega
end Go.Proofs.Ytfdkkkdijgmbbaa
