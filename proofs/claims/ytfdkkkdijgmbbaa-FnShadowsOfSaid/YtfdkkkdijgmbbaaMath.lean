/- Plain facts: rectangles, what lists of them have in common, and how many cells they have. -/

namespace Go.Proofs.Ytfdkkkdijgmbbaa

/-- A rectangle's four sides. -/
structure Rt where
  l : Int
  o : Int
  r : Int
  h : Int
def Rt.zero : Rt := ⟨0, 0, 0, 0⟩
def spanB (a b : Int) : Bool := decide (0 ≤ a ∧ a < b ∧ b ≤ 20)
def okB (a : Rt) : Bool := spanB a.l a.r && spanB a.o a.h
theorem okB_iff {a : Rt} : okB a = true ↔ (0 ≤ a.l ∧ a.l < a.r ∧ a.r ≤ 20) ∧ 0 ≤ a.o ∧ a.o < a.h ∧ a.h ≤ 20 := by
  unfold okB spanB; simp
def areaM (a : Rt) : Int := if okB a then (a.r - a.l) * (a.h - a.o) else -1
def commonR (a b : Rt) : Rt := ⟨max a.l b.l, max a.o b.o, min a.r b.r, min a.h b.h⟩
def onlyR (a : Rt) : Rt := if okB a then a else Rt.zero
def insideB (a b : Rt) : Bool := decide (b.l ≤ a.l ∧ b.o ≤ a.o ∧ a.r ≤ b.r ∧ a.h ≤ b.h)
def bothB (a b : Rt) : Bool := okB a && okB b
def wiB (a b : Rt) : Bool := bothB a b && insideB a b
-- ---- from here on: new
/-- The sum of f 0 .. f (n - 1). -/
def sumN : Nat → (Nat → Int) → Int
  | 0, _ => 0
  | n + 1, f => sumN n f + f n
theorem sumN_congr {n : Nat} {f g : Nat → Int} (h : ∀ i, i < n → f i = g i) : sumN n f = sumN n g := by
  induction n with
  | zero => rfl
  | succ n ih => simp only [sumN]; rw [ih (fun i hi => h i (by omega)), h n (by omega)]
theorem sumN_le {n : Nat} {f g : Nat → Int} (h : ∀ i, i < n → f i ≤ g i) : sumN n f ≤ sumN n g := by
  induction n with
  | zero => exact Int.le_refl _
  | succ n ih => simp only [sumN]; have := ih (fun i hi => h i (by omega)); have := h n (by omega); omega
theorem sumN_nonneg {n : Nat} {f : Nat → Int} (h : ∀ i, i < n → 0 ≤ f i) : 0 ≤ sumN n f := by
  induction n with
  | zero => exact Int.le_refl _
  | succ n ih => simp only [sumN]; have := ih (fun i hi => h i (by omega)); have := h n (by omega); omega
theorem sumN_zero (n : Nat) : sumN n (fun _ => 0) = 0 := by
  induction n with
  | zero => rfl
  | succ n ih => simp only [sumN]; omega
theorem sumN_add (n : Nat) (f g : Nat → Int) : sumN n (fun i => f i + g i) = sumN n f + sumN n g := by
  induction n with
  | zero => rfl
  | succ n ih => simp only [sumN]; omega
theorem sumN_sub (n : Nat) (f g : Nat → Int) : sumN n (fun i => f i - g i) = sumN n f - sumN n g := by
  induction n with
  | zero => rfl
  | succ n ih => simp only [sumN]; omega
theorem sumN_mul (n : Nat) (c : Int) (f : Nat → Int) : sumN n (fun i => c * f i) = c * sumN n f := by
  induction n with
  | zero => simp [sumN]
  | succ n ih => simp only [sumN]; rw [ih, Int.mul_add]
theorem sumN_swap (n m : Nat) (f : Nat → Nat → Int) : sumN n (fun i => sumN m (f i)) = sumN m (fun j => sumN n (fun i => f i j)) := by
  induction n with
  | zero => simp only [sumN]; rw [sumN_zero]
  | succ n ih => simp only [sumN]; rw [ih, sumN_add]
theorem sumN_split (n m : Nat) (f : Nat → Int) : sumN (n + m) f = sumN n f + sumN m (fun i => f (n + i)) := by
  induction m with
  | zero => simp [sumN]
  | succ m ih => rw [show n + (m + 1) = (n + m) + 1 by omega]; simp only [sumN]; rw [ih]; omega
/-- one index alone -/
theorem sumN_one (n : Nat) (f : Nat → Int) (k : Nat) (hk : k < n) (h : ∀ i, i < n → i ≠ k → f i = 0) : sumN n f = f k := by
  induction n with
  | zero => omega
  | succ n ih =>
    simp only [sumN]
    by_cases e : k = n
    · subst e
      rw [sumN_congr (g := fun _ => 0) (fun i hi => h i (by omega) (by omega)), sumN_zero]; omega
    · rw [ih (by omega) (fun i hi hne => h i (by omega) hne), h n (by omega) (by omega)]; omega
theorem sumN_span (a b : Int) (h : 0 ≤ a) (n : Nat) : sumN n (fun i => if a ≤ (i : Int) ∧ (i : Int) < b then 1 else 0) = max 0 (min b n - a) := by
  induction n with
  | zero => simp only [sumN]; omega
  | succ n ih => simp only [sumN]; rw [ih]; split <;> omega

def one (b : Bool) : Int := if b then 1 else 0
theorem one_nonneg (b : Bool) : 0 ≤ one b := by cases b <;> decide
theorem one_le (b : Bool) : one b ≤ 1 := by cases b <;> decide
theorem one_and (a b : Bool) : one (a && b) = one a * one b := by cases a <;> cases b <;> decide

/-- The sum over all cells of the field. -/
def cells (f : Nat → Nat → Int) : Int := sumN 20 fun y => sumN 20 fun x => f x y
theorem cells_congr {f g : Nat → Nat → Int} (h : ∀ x y, x < 20 → y < 20 → f x y = g x y) : cells f = cells g :=
  sumN_congr fun y hy => sumN_congr fun x hx => h x y hx hy
theorem cells_le {f g : Nat → Nat → Int} (h : ∀ x y, x < 20 → y < 20 → f x y ≤ g x y) : cells f ≤ cells g :=
  sumN_le fun y hy => sumN_le fun x hx => h x y hx hy
theorem cells_nonneg {f : Nat → Nat → Int} (h : ∀ x y, x < 20 → y < 20 → 0 ≤ f x y) : 0 ≤ cells f :=
  sumN_nonneg fun y hy => sumN_nonneg fun x hx => h x y hx hy
theorem cells_add (f g : Nat → Nat → Int) : cells (fun x y => f x y + g x y) = cells f + cells g := by
  unfold cells; rw [← sumN_add]; exact sumN_congr fun y _ => sumN_add _ _ _
theorem cells_sub (f g : Nat → Nat → Int) : cells (fun x y => f x y - g x y) = cells f - cells g := by
  unfold cells; rw [← sumN_sub]; exact sumN_congr fun y _ => sumN_sub _ _ _
theorem cells_mul (c : Int) (f : Nat → Nat → Int) : cells (fun x y => c * f x y) = c * cells f := by
  unfold cells; rw [← sumN_mul]; exact sumN_congr fun y _ => sumN_mul _ _ _
theorem cells_zero : cells (fun _ _ => 0) = 0 := by
  unfold cells; rw [sumN_congr (g := fun _ => 0) (fun _ _ => sumN_zero _)]; exact sumN_zero _
theorem sumN_cells (n : Nat) (f : Nat → Nat → Nat → Int) : sumN n (fun i => cells (f i)) = cells (fun x y => sumN n (fun i => f i x y)) := by
  induction n with
  | zero => simp only [sumN]; rw [cells_zero]
  | succ n ih => simp only [sumN]; rw [ih, cells_add]

def hasB (r : Rt) (x y : Int) : Bool := decide (r.l ≤ x ∧ x < r.r ∧ r.o ≤ y ∧ y < r.h)
theorem hasB_iff {r : Rt} {x y : Int} : hasB r x y = true ↔ r.l ≤ x ∧ x < r.r ∧ r.o ≤ y ∧ y < r.h := by unfold hasB; simp
theorem hasB_common (a b : Rt) (x y : Int) : hasB (commonR a b) x y = (hasB a x y && hasB b x y) := by
  rw [Bool.eq_iff_iff, Bool.and_eq_true, hasB_iff, hasB_iff, hasB_iff]; unfold commonR; dsimp only; omega
theorem area_cells (r : Rt) (h : okB r = true) : areaM r = cells fun x y => one (hasB r x y) := by
  have hk := okB_iff.1 h
  have e : ∀ x y : Nat, one (hasB r x y) = (if r.o ≤ (y : Int) ∧ (y : Int) < r.h then 1 else 0) * (if r.l ≤ (x : Int) ∧ (x : Int) < r.r then 1 else 0) := by
    intro x y
    by_cases h1 : r.o ≤ (y : Int) ∧ (y : Int) < r.h <;> by_cases h2 : r.l ≤ (x : Int) ∧ (x : Int) < r.r
    · rw [if_pos h1, if_pos h2, show hasB r x y = true from hasB_iff.2 ⟨h2.1, h2.2, h1.1, h1.2⟩]; rfl
    · rw [if_neg h2, show hasB r x y = false by rw [Bool.eq_false_iff]; intro hh; have := hasB_iff.1 hh; omega]; simp [one]
    · rw [if_neg h1, show hasB r x y = false by rw [Bool.eq_false_iff]; intro hh; have := hasB_iff.1 hh; omega]; simp [one]
    · rw [if_neg h1, show hasB r x y = false by rw [Bool.eq_false_iff]; intro hh; have := hasB_iff.1 hh; omega]; simp [one]
  unfold areaM cells
  rw [if_pos h]
  rw [sumN_congr (g := fun y => (r.r - r.l) * (if r.o ≤ (y : Int) ∧ (y : Int) < r.h then 1 else 0)) (fun y hy => by
    rw [sumN_congr (g := fun x => (if r.o ≤ (y : Int) ∧ (y : Int) < r.h then 1 else 0) * (if r.l ≤ (x : Int) ∧ (x : Int) < r.r then 1 else 0)) (fun x _ => e x y), sumN_mul, sumN_span _ _ hk.1.1, Int.mul_comm]
    congr 1; omega)]
  rw [sumN_mul, sumN_span _ _ hk.2.1]
  congr 1; omega

-- lists of rectangles, told by f and n
def full : Rt := ⟨0, 0, 20, 20⟩
def laidB (xs : List Rt) : Bool := decide (xs.length ≤ 7) && xs.all okB
def depthM (xs : List Rt) (x y : Int) : Nat := xs.countP (hasB · x y)
def foldC (xs : List Rt) : Rt := xs.foldl commonR full
def unionM (xs : List Rt) : Int := if laidB xs then cells (fun x y => one (decide (0 < depthM xs x y))) else -1
def acB (xs : List Rt) : Bool := laidB xs && (!xs.isEmpty && okB (foldC xs))
def acR (xs : List Rt) : Rt := if acB xs then foldC xs else Rt.zero
/-- The area of what all have in common; 0 if that is none. -/
def areaC (xs : List Rt) : Int := if okB (foldC xs) then areaM (foldC xs) else 0

theorem foldC_snoc (xs : List Rt) (r : Rt) : foldC (xs ++ [r]) = commonR (foldC xs) r := by unfold foldC; simp
theorem common_full (r : Rt) (h : okB r = true) : commonR full r = r := by
  have hk := okB_iff.1 h
  unfold commonR full; cases r; simp only [Rt.mk.injEq] at *; omega
theorem foldC_bd (xs : List Rt) : 0 ≤ (foldC xs).l ∧ 0 ≤ (foldC xs).o ∧ (foldC xs).r ≤ 20 ∧ (foldC xs).h ≤ 20 := by
  suffices H : ∀ (xs : List Rt) (a : Rt), (0 ≤ a.l ∧ 0 ≤ a.o ∧ a.r ≤ 20 ∧ a.h ≤ 20) → (0 ≤ (xs.foldl commonR a).l ∧ 0 ≤ (xs.foldl commonR a).o ∧ (xs.foldl commonR a).r ≤ 20 ∧ (xs.foldl commonR a).h ≤ 20) from
    H xs full (by unfold full; simp)
  intro xs
  induction xs with
  | nil => intro a h; exact h
  | cons x xs ih => intro a h; exact ih _ (by unfold commonR; dsimp only; omega)
def allB (xs : List Rt) (x y : Int) : Bool := xs.all (hasB · x y)
theorem hasB_fold (xs : List Rt) (x y : Nat) (hx : x < 20) (hy : y < 20) : hasB (foldC xs) x y = allB xs x y := by
  suffices H : ∀ (xs : List Rt) (a : Rt), hasB (xs.foldl commonR a) x y = (hasB a x y && allB xs x y) by
    unfold foldC; rw [H, show hasB full x y = true from hasB_iff.2 (by unfold full; dsimp only; omega)]; rfl
  intro xs
  induction xs with
  | nil => intro a; simp [allB]
  | cons r xs ih => intro a; rw [List.foldl_cons, ih, hasB_common]; simp [allB, Bool.and_assoc]
theorem areaC_cells (xs : List Rt) : areaC xs = cells fun x y => one (allB xs x y) := by
  have hb := foldC_bd xs
  unfold areaC
  by_cases h : okB (foldC xs) = true
  · rw [if_pos h, area_cells _ h]; exact cells_congr fun x y hx hy => by rw [hasB_fold xs x y hx hy]
  · rw [if_neg h, ← cells_zero]
    refine cells_congr fun x y hx hy => ?_
    rw [← hasB_fold xs x y hx hy]
    have : hasB (foldC xs) x y = false := by
      rw [Bool.eq_false_iff]; intro hh; have := hasB_iff.1 hh; exact h (okB_iff.2 (by omega))
    rw [this]; rfl
theorem areaC_nonneg (xs : List Rt) : 0 ≤ areaC xs := by rw [areaC_cells]; exact cells_nonneg fun _ _ _ _ => one_nonneg _
theorem areaC_le (xs : List Rt) : areaC xs ≤ 400 := by
  rw [areaC_cells]
  refine Int.le_trans (cells_le (g := fun _ _ => 1) fun _ _ _ _ => one_le _) ?_
  decide
-- choices: the rectangles whose bits are set
def subTo (f : Nat → Rt) (s : Nat) : Nat → List Rt
  | 0 => []
  | k + 1 => subTo f s k ++ (if s.testBit k then [f k] else [])
theorem subTo_len_le (f : Nat → Rt) (s k : Nat) : (subTo f s k).length ≤ k := by
  induction k with
  | zero => simp [subTo]
  | succ k ih => simp only [subTo, List.length_append]; split <;> simp <;> omega
theorem subTo_congr {f : Nat → Rt} {s t : Nat} : ∀ {k : Nat}, (∀ i, i < k → s.testBit i = t.testBit i) → subTo f s k = subTo f t k
  | 0, _ => rfl
  | k + 1, h => by simp only [subTo]; rw [subTo_congr (k := k) (fun i hi => h i (by omega)), h k (by omega)]
/-- The sum of g over all choices out of f 0 .. f (n - 1). -/
def over (f : Nat → Rt) (n : Nat) (g : List Rt → Int) : Int := sumN (2 ^ n) fun s => g (subTo f s n)
theorem over_zero (f : Nat → Rt) (g : List Rt → Int) : over f 0 g = g [] := by simp [over, sumN, subTo]
theorem over_succ (f : Nat → Rt) (n : Nat) (g : List Rt → Int) : over f (n + 1) g = over f n g + over f n (fun ys => g (ys ++ [f n])) := by
  unfold over
  rw [show 2 ^ (n + 1) = 2 ^ n + 2 ^ n by omega, sumN_split]
  congr 1
  · refine sumN_congr fun s hs => ?_
    simp only [subTo]; rw [Nat.testBit_lt_two_pow hs]; simp
  · refine sumN_congr fun s hs => ?_
    simp only [subTo]
    rw [Nat.testBit_two_pow_add_eq, Nat.testBit_lt_two_pow hs, subTo_congr (t := s) (fun i hi => Nat.testBit_two_pow_add_gt hi s)]
    simp
theorem over_congr {f : Nat → Rt} {n : Nat} {g h : List Rt → Int} (e : ∀ ys, g ys = h ys) : over f n g = over f n h := sumN_congr fun _ _ => e _
theorem over_congr_le {f : Nat → Rt} {n : Nat} {g h : List Rt → Int} (e : ∀ ys, ys.length ≤ n → g ys = h ys) : over f n g = over f n h := sumN_congr fun _ _ => e _ (subTo_len_le _ _ _)
theorem over_zero_fn (f : Nat → Rt) (n : Nat) : over f n (fun _ => 0) = 0 := sumN_zero _
theorem over_mul (f : Nat → Rt) (n : Nat) (c : Int) (g : List Rt → Int) : over f n (fun ys => c * g ys) = c * over f n g := sumN_mul _ _ _
theorem over_cells (f : Nat → Rt) (n : Nat) (g : List Rt → Nat → Nat → Int) : over f n (fun ys => cells (g ys)) = cells (fun x y => over f n (fun ys => g ys x y)) := sumN_cells _ _
theorem allB_snoc (ys : List Rt) (r : Rt) (x y : Int) : allB (ys ++ [r]) x y = (allB ys x y && hasB r x y) := by simp [allB]
def sgn (n : Nat) : Int := if n % 2 = 0 then 1 else -1
theorem sgn_succ (n : Nat) : sgn (n + 1) = - sgn n := by unfold sgn; split <;> split <;> omega
def anyTo (f : Nat → Rt) (x y : Int) : Nat → Bool
  | 0 => false
  | k + 1 => anyTo f x y k || hasB (f k) x y
/-- by turns added and taken away -/
theorem over_sgn (f : Nat → Rt) (n : Nat) (x y : Int) : over f n (fun ys => sgn ys.length * one (allB ys x y)) = 1 - one (anyTo f x y n) := by
  induction n with
  | zero => rw [over_zero]; simp [sgn, one, allB, anyTo]
  | succ n ih =>
    rw [over_succ, ih, over_congr (h := fun ys => (- one (hasB (f n) x y)) * (sgn ys.length * one (allB ys x y))) (fun ys => by
      rw [allB_snoc, one_and, List.length_append, List.length_singleton, sgn_succ]; rw [Int.mul_comm (one (allB ys x y)), ← Int.mul_assoc, ← Int.mul_assoc, Int.neg_mul, Int.neg_mul, Int.neg_mul, Int.neg_mul, Int.mul_comm (sgn ys.length)]), over_mul, ih]
    simp only [anyTo]
    cases anyTo f x y n <;> cases hasB (f n) x y <;> decide
/-- so many chosen, with areas -/
def sumsAt (f : Nat → Rt) (n j : Nat) : Int := over f n fun ys => if ys.length = j + 1 then areaC ys else 0
theorem sumN_sgn (n m : Nat) (a : Int) (hm : m ≤ n) : sumN n (fun j => sgn j * (if m = j + 1 then a else 0)) = if m = 0 then 0 else sgn (m - 1) * a := by
  by_cases h0 : m = 0
  · rw [if_pos h0, sumN_congr (g := fun _ => 0) (fun j _ => by rw [if_neg (by omega), Int.mul_zero]), sumN_zero]
  · rw [if_neg h0, sumN_one n _ (m - 1) (by omega) (fun i _ hne => by rw [if_neg (by omega), Int.mul_zero]), if_pos (by omega)]
theorem over_sumN (f : Nat → Rt) (n m : Nat) (g : Nat → List Rt → Int) : sumN m (fun j => over f n (g j)) = over f n (fun ys => sumN m (fun j => g j ys)) := sumN_swap _ _ _
theorem over_empty (f : Nat → Rt) (n : Nat) : over f n (fun ys => (if ys.length = 0 then 1 else 0)) = 1 := by
  induction n with
  | zero => rw [over_zero]; rfl
  | succ n ih => rw [over_succ, ih, over_congr (h := fun _ => 0) (fun ys => by rw [if_neg (by simp)]), over_zero_fn]; rfl
theorem sums_signed (f : Nat → Rt) (n : Nat) : sumN n (fun j => sgn j * sumsAt f n j) = cells (fun x y => one (anyTo f x y n)) := by
  unfold sumsAt
  rw [sumN_congr (g := fun j => over f n (fun ys => sgn j * (if ys.length = j + 1 then areaC ys else 0))) (fun j _ => (over_mul _ _ _ _).symm), over_sumN,
    over_congr_le (h := fun ys => cells fun x y => (if ys.length = 0 then 1 else 0) - sgn ys.length * one (allB ys x y)) (fun ys hl => by
      rw [sumN_sgn _ _ _ hl]
      by_cases h0 : ys.length = 0
      · rw [if_pos h0, ← cells_zero]; refine cells_congr fun x y _ _ => ?_
        rw [if_pos h0, List.length_eq_zero_iff.1 h0]; simp [sgn, one, allB]
      · rw [if_neg h0, areaC_cells, ← cells_mul]; refine cells_congr fun x y _ _ => ?_
        rw [if_neg h0]
        obtain ⟨k, hk⟩ : ∃ k, ys.length = k + 1 := ⟨ys.length - 1, by omega⟩
        rw [hk, sgn_succ, Nat.add_sub_cancel]; simp only [Int.neg_mul]; omega), over_cells]
  refine cells_congr fun x y _ _ => ?_
  show over f n (fun ys => (if ys.length = 0 then 1 else 0) - sgn ys.length * one (allB ys x y)) = _
  have e := over_empty f n
  have e2 : over f n (fun ys => (if ys.length = 0 then 1 else 0) - sgn ys.length * one (allB ys x y)) = over f n (fun ys => (if ys.length = 0 then 1 else 0)) - over f n (fun ys => sgn ys.length * one (allB ys x y)) := sumN_sub _ _ _
  rw [e2, e, over_sgn]; omega
/-- choices of just so many -/
def cnt (f : Nat → Rt) (x y : Int) (n j : Nat) : Int := over f n fun ys => if ys.length = j then one (allB ys x y) else 0
theorem cnt_zero (f : Nat → Rt) (x y : Int) (n : Nat) : cnt f x y n 0 = 1 := by
  unfold cnt
  induction n with
  | zero => rw [over_zero]; rfl
  | succ n ih => rw [over_succ, ih, over_congr (h := fun _ => 0) (fun ys => by rw [if_neg (by simp)]), over_zero_fn]; rfl
theorem cnt_succ (f : Nat → Rt) (x y : Int) (n j : Nat) : cnt f x y (n + 1) (j + 1) = cnt f x y n (j + 1) + one (hasB (f n) x y) * cnt f x y n j := by
  unfold cnt
  rw [over_succ, ← over_mul]
  congr 1
  refine over_congr fun ys => ?_
  rw [List.length_append, List.length_singleton]
  by_cases h : ys.length = j
  · rw [if_pos (by omega), if_pos h, allB_snoc, one_and, Int.mul_comm]
  · rw [if_neg (by omega), if_neg h, Int.mul_zero]
theorem cnt_nonneg (f : Nat → Rt) (x y : Int) (n j : Nat) : 0 ≤ cnt f x y n j :=
  sumN_nonneg fun s _ => by dsimp only; split <;> first | exact one_nonneg _ | exact Int.le_refl _
theorem cnt_any (f : Nat → Rt) (x y : Int) (n : Nat) : one (anyTo f x y n) ≤ cnt f x y n 1 ∧ cnt f x y n 1 - cnt f x y n 2 ≤ one (anyTo f x y n) := by
  induction n with
  | zero => unfold cnt; rw [over_zero, over_zero]; simp [one, anyTo]
  | succ n ih =>
    have h1 := cnt_succ f x y n 0
    have h2 := cnt_succ f x y n 1
    rw [cnt_zero] at h1
    have n1 := cnt_nonneg f x y n 1
    have n2 := cnt_nonneg f x y n 2
    simp only [Nat.zero_add, Nat.reduceAdd] at h1 h2
    rw [h1, h2]
    simp only [anyTo]
    revert ih
    cases anyTo f x y n <;> cases hasB (f n) x y <;> simp [one] <;> omega
theorem sumsAt_cells (f : Nat → Rt) (n j : Nat) : sumsAt f n j = cells fun x y => cnt f x y n (j + 1) := by
  unfold sumsAt cnt
  rw [← over_cells]
  refine over_congr fun ys => ?_
  by_cases h : ys.length = j + 1
  · rw [if_pos h, areaC_cells]; exact cells_congr fun x y _ _ => by rw [if_pos h]
  · rw [if_neg h]; exact cells_zero.symm.trans (cells_congr fun x y _ _ => by rw [if_neg h])
theorem sumsAt_nonneg (f : Nat → Rt) (n j : Nat) : 0 ≤ sumsAt f n j := by rw [sumsAt_cells]; exact cells_nonneg fun _ _ _ _ => cnt_nonneg _ _ _ _ _
theorem cnt_one (f : Nat → Rt) (x y : Int) (n : Nat) : cnt f x y n 1 = sumN n fun i => one (hasB (f i) x y) := by
  induction n with
  | zero => unfold cnt; rw [over_zero]; rfl
  | succ n ih => have h1 := cnt_succ f x y n 0; rw [cnt_zero] at h1; simp only [Nat.zero_add] at h1; rw [h1, ih]; simp [sumN]
theorem sums_first (f : Nat → Rt) (n : Nat) (h : ∀ i, i < n → okB (f i) = true) : sumsAt f n 0 = sumN n fun i => areaM (f i) := by
  rw [sumsAt_cells, sumN_congr (g := fun i => cells fun x y => one (hasB (f i) x y)) (fun i hi => area_cells _ (h i hi)), sumN_cells]
  exact cells_congr fun x y _ _ => cnt_one _ _ _ _
def upTo (f : Nat → Rt) : Nat → List Rt
  | 0 => []
  | k + 1 => upTo f k ++ [f k]
theorem upTo_len (f : Nat → Rt) (k : Nat) : (upTo f k).length = k := by
  induction k with
  | zero => rfl
  | succ k ih => simp [upTo, ih]
theorem sums_last (f : Nat → Rt) (n : Nat) : sumsAt f (n + 1) n = areaC (upTo f (n + 1)) := by
  have H : ∀ (n : Nat) (g : List Rt → Int), over f n (fun ys => if ys.length = n then g ys else 0) = g (upTo f n) := by
    intro n
    induction n with
    | zero => intro g; rw [over_zero]; rfl
    | succ n ih =>
      intro g
      rw [over_succ, over_congr_le (h := fun _ => 0) (fun ys hl => by rw [if_neg (by omega)]), over_zero_fn,
        over_congr (h := fun ys => if ys.length = n then g (ys ++ [f n]) else 0) (fun ys => by
          rw [List.length_append, List.length_singleton]
          by_cases h : ys.length = n
          · rw [if_pos (by omega), if_pos h]
          · rw [if_neg (by omega), if_neg h]), ih (fun ys => g (ys ++ [f n]))]
      simp [upTo]
  exact H _ _
theorem union_bonf (f : Nat → Rt) (n : Nat) : cells (fun x y => one (anyTo f x y n)) ≤ sumsAt f n 0 ∧ sumsAt f n 0 - sumsAt f n 1 ≤ cells (fun x y => one (anyTo f x y n)) := by
  rw [sumsAt_cells, sumsAt_cells, ← cells_sub]
  exact ⟨cells_le fun x y _ _ => (cnt_any f x y n).1, cells_le fun x y _ _ => (cnt_any f x y n).2⟩
theorem sumsAt_one_one (f : Nat → Rt) : sumsAt f 1 1 = 0 := by
  unfold sumsAt; rw [over_congr_le (h := fun _ => 0) (fun ys hl => by rw [if_neg (by omega)]), over_zero_fn]
-- a list, told by its places
def at_ (xs : List Rt) (i : Nat) : Rt := xs.getD i Rt.zero
theorem at_lt {xs : List Rt} {i : Nat} (h : i < xs.length) : at_ xs i = xs[i] := by unfold at_; rw [List.getD_eq_getElem?_getD, List.getElem?_eq_getElem h]; rfl
theorem take_snoc (xs : List Rt) (k : Nat) (h : k < xs.length) : xs.take (k + 1) = xs.take k ++ [at_ xs k] := by
  rw [List.take_succ_eq_append_getElem h, at_lt h]
theorem upTo_take (xs : List Rt) (k : Nat) (h : k ≤ xs.length) : upTo (at_ xs) k = xs.take k := by
  induction k with
  | zero => simp [upTo]
  | succ k ih => rw [upTo, ih (by omega), take_snoc xs k (by omega)]
theorem upTo_all (xs : List Rt) : upTo (at_ xs) xs.length = xs := by rw [upTo_take _ _ (Nat.le_refl _), List.take_length]
theorem any_depth (xs : List Rt) (x y : Int) : decide (0 < depthM xs x y) = anyTo (at_ xs) x y xs.length := by
  have H : ∀ k, k ≤ xs.length → (xs.take k).any (hasB · x y) = anyTo (at_ xs) x y k := by
    intro k
    induction k with
    | zero => intro _; simp [anyTo]
    | succ k ih => intro h; rw [take_snoc xs k (by omega), List.any_append, ih (by omega)]; simp [anyTo]
  have := H xs.length (Nat.le_refl _)
  rw [List.take_length] at this
  rw [← this, Bool.eq_iff_iff, decide_eq_true_iff, List.any_eq_true]
  unfold depthM
  rw [List.countP_pos_iff]
theorem union_any (xs : List Rt) (h : laidB xs = true) : unionM xs = cells fun x y => one (anyTo (at_ xs) x y xs.length) := by
  unfold unionM; rw [if_pos h]; exact cells_congr fun x y _ _ => by rw [any_depth]
theorem laid_ok {xs : List Rt} (h : laidB xs = true) : xs.length ≤ 7 ∧ ∀ i, i < xs.length → okB (at_ xs i) = true := by
  unfold laidB at h
  simp at h
  exact ⟨h.1, fun i hi => by rw [at_lt hi]; exact h.2 _ (List.getElem_mem hi)⟩
/-- What the law of unions says. -/
theorem union_law (xs : List Rt) (h : laidB xs = true) :
    sumN xs.length (fun j => sumsAt (at_ xs) xs.length j * sgn j) = unionM xs ∧ unionM xs ≤ sumN xs.length (fun i => areaM (at_ xs i)) ∧ (∀ i, i < xs.length → areaM (at_ xs i) ≤ unionM xs) ∧ 0 ≤ unionM xs := by
  obtain ⟨hl, ho⟩ := laid_ok h
  rw [union_any xs h]
  refine ⟨?_, ?_, ?_, cells_nonneg fun _ _ _ _ => one_nonneg _⟩
  · rw [← sums_signed]; exact sumN_congr fun j _ => Int.mul_comm _ _
  · rw [← sums_first _ _ ho]; exact (union_bonf _ _).1
  · intro i hi
    rw [area_cells _ (ho i hi)]
    refine cells_le fun x y _ _ => ?_
    have : ∀ n, i < n → one (hasB (at_ xs i) x y) ≤ one (anyTo (at_ xs) x y n) := by
      intro n
      induction n with
      | zero => intro h; omega
      | succ n ih =>
        intro h
        simp only [anyTo]
        by_cases e : i = n
        · subst e; cases anyTo (at_ xs) x y i <;> cases hasB (at_ xs i) x y <;> decide
        · have := ih (by omega)
          revert this
          cases anyTo (at_ xs) x y n <;> cases hasB (at_ xs i) x y <;> cases hasB (at_ xs n) x y <;> decide
    exact this _ hi
theorem sums_law (xs : List Rt) (h : laidB xs = true) (h0 : 0 < xs.length) :
    sumsAt (at_ xs) xs.length 0 = sumN xs.length (fun i => areaM (at_ xs i)) ∧ sumsAt (at_ xs) xs.length (xs.length - 1) = areaC xs ∧
    sumsAt (at_ xs) xs.length 0 - (if 1 < xs.length then sumsAt (at_ xs) xs.length 1 else 0) ≤ unionM xs := by
  obtain ⟨hl, ho⟩ := laid_ok h
  rw [union_any xs h]
  refine ⟨sums_first _ _ ho, ?_, ?_⟩
  · obtain ⟨n, hn⟩ : ∃ n, xs.length = n + 1 := ⟨xs.length - 1, by omega⟩
    rw [hn, Nat.add_sub_cancel, sums_last, ← hn, upTo_all]
  · by_cases h1 : 1 < xs.length
    · rw [if_pos h1]; exact (union_bonf _ _).2
    · have := (union_bonf (at_ xs) xs.length).2
      have e : xs.length = 1 := by omega
      rw [if_neg h1]
      rw [e] at this ⊢
      rw [sumsAt_one_one] at this
      exact this
theorem unionM_snoc (xs : List Rt) (r : Rt) (h : laidB (xs ++ [r]) = true) :
    laidB xs = true ∧ okB r = true ∧ unionM xs ≤ unionM (xs ++ [r]) ∧ unionM (xs ++ [r]) ≤ unionM xs + areaM r ∧ (xs.any (insideB r ·) = true → unionM (xs ++ [r]) = unionM xs) := by
  have h1 : laidB xs = true ∧ okB r = true := by
    unfold laidB at h ⊢; simp at h ⊢; exact ⟨⟨by omega, h.2.1⟩, h.2.2⟩
  have d : ∀ x y, depthM (xs ++ [r]) x y = depthM xs x y + (if hasB r x y then 1 else 0) := fun x y => by
    unfold depthM; rw [List.countP_append, List.countP_singleton]
  refine ⟨h1.1, h1.2, ?_, ?_, ?_⟩
  · unfold unionM; rw [if_pos h, if_pos h1.1]
    refine cells_le fun x y _ _ => ?_
    rw [d]
    by_cases hd : 0 < depthM xs x y
    · rw [show decide (0 < depthM xs x y) = true by simpa using hd, show decide (0 < depthM xs x y + (if hasB r x y then 1 else 0)) = true by simp; omega]; exact Int.le_refl _
    · rw [show decide (0 < depthM xs x y) = false by simpa using hd]; exact one_nonneg _
  · unfold unionM; rw [if_pos h, if_pos h1.1, area_cells r h1.2, ← cells_add]
    refine cells_le fun x y _ _ => ?_
    rw [d]
    cases hasB r x y
    · simp [one]
    · have := one_nonneg (decide (0 < depthM xs x y))
      have := one_le (decide (0 < depthM xs x y + (if true then 1 else 0)))
      simp only [one] at *; simp at *; omega
  · intro hw
    obtain ⟨s, hs, hi⟩ := List.any_eq_true.1 hw
    unfold unionM; rw [if_pos h, if_pos h1.1]
    refine cells_congr fun x y _ _ => ?_
    rw [d]
    cases hr : hasB r x y
    · simp
    · have hh : hasB s x y = true := by
        have := hasB_iff.1 hr
        unfold insideB at hi; simp at hi
        exact hasB_iff.2 (by omega)
      have : 0 < depthM xs x y := List.countP_pos_iff.2 ⟨s, hs, hh⟩
      rw [show decide (0 < depthM xs x y) = true by simpa using this, show decide (0 < depthM xs x y + (if true then 1 else 0)) = true by simp]
end Go.Proofs.Ytfdkkkdijgmbbaa
