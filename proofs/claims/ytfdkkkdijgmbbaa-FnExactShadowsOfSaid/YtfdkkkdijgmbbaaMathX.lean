/- Chapter 7: shadows and runs. -/
import Derived.Test.YtfdkkkdijgmbbaaMathR
namespace Go.Proofs.Ytfdkkkdijgmbbaa
set_option linter.unusedVariables false
def anyN : Nat → (Nat → Bool) → Bool
  | 0, _ => false
  | n + 1, g => anyN n g || g n
theorem anyN_iff (n : Nat) (g : Nat → Bool) : anyN n g = true ↔ ∃ i, i < n ∧ g i = true := by
  induction n with
  | zero => exact ⟨fun h => (by cases h), fun ⟨i, hi, _⟩ => by omega⟩
  | succ n ih =>
    simp only [anyN, Bool.or_eq_true]; rw [ih]
    constructor
    · rintro (⟨i, hi, h⟩ | h)
      · exact ⟨i, by omega, h⟩
      · exact ⟨n, by omega, h⟩
    · rintro ⟨i, hi, h⟩
      by_cases e : i = n
      · subst e; exact Or.inr h
      · exact Or.inl ⟨i, by omega, h⟩
theorem any_ge {n i : Nat} {g : Nat → Bool} (hi : i < n) : one (g i) ≤ one (anyN n g) := by
  cases h : g i
  · exact one_nonneg _
  · rw [(anyN_iff n g).2 ⟨i, hi, h⟩]; exact Int.le_refl _
theorem any_sum (n : Nat) (g : Nat → Bool) : one (anyN n g) ≤ sumN n (fun i => one (g i)) := by
  induction n with
  | zero => exact Int.le_refl _
  | succ n ih =>
    simp only [anyN, sumN]
    have t : ∀ a b : Bool, one (a || b) ≤ one a + one b := by decide
    have := t (anyN n g) (g n)
    omega
/-- how many columns, or rows, have a cell -/
def shX (U : Nat → Nat → Bool) : Int := sumN 20 fun a => one (anyN 20 (U a))
def shY (U : Nat → Nat → Bool) : Int := sumN 20 fun b => one (anyN 20 fun a => U a b)
def rowC (U : Nat → Nat → Bool) (y : Nat) : Int := sumN 20 fun x => one (U x y)
def arU (U : Nat → Nat → Bool) : Int := cells fun x y => one (U x y)
theorem row_sum (U : Nat → Nat → Bool) : sumN 20 (rowC U) = arU U := rfl
theorem shX_bd (U : Nat → Nat → Bool) : 0 ≤ shX U ∧ shX U ≤ 20 := by
  refine ⟨sumN_nonneg fun i _ => one_nonneg _, ?_⟩
  have := sumN_le (n := 20) (f := fun a => one (anyN 20 (U a))) (g := fun _ => 1) fun i _ => one_le _
  exact this
theorem sh_over (U : Nat → Nat → Bool) : shX (fun a b => U b a) = shY U ∧ shY (fun a b => U b a) = shX U := ⟨rfl, rfl⟩
theorem shY_bd (U : Nat → Nat → Bool) : 0 ≤ shY U ∧ shY U ≤ 20 := shX_bd fun a b => U b a
theorem row_le (U : Nat → Nat → Bool) {y : Nat} (hy : y < 20) : 0 ≤ rowC U y ∧ rowC U y ≤ shX U ∧ rowC U y ≤ 20 := by
  refine ⟨sumN_nonneg fun i _ => one_nonneg _, sumN_le fun x _ => any_ge (g := U x) hy, ?_⟩
  have := sumN_le (n := 20) (f := fun x => one (U x y)) (g := fun _ => 1) fun i _ => one_le _
  exact this
theorem area_ge (U : Nat → Nat → Bool) : shX U ≤ arU U ∧ shY U ≤ arU U := by
  constructor
  · unfold arU cells
    rw [sumN_swap]
    exact sumN_le fun x _ => any_sum 20 (U x)
  · exact sumN_le fun y _ => any_sum 20 fun x => U x y
theorem area_prod (U : Nat → Nat → Bool) : arU U ≤ shX U * shY U := by
  have h1 : arU U ≤ cells fun x y => one (anyN 20 fun a => U a y) * one (anyN 20 (U x)) := cells_le fun x y hx hy => by
    have a := any_ge (g := fun a => U a y) (n := 20) hx
    have b := any_ge (g := U x) (n := 20) hy
    cases h : U x y
    · exact Int.mul_nonneg (one_nonneg _) (one_nonneg _)
    · rw [(anyN_iff 20 fun a => U a y).2 ⟨x, hx, h⟩, (anyN_iff 20 (U x)).2 ⟨y, hy, h⟩]; decide
  have h2 : (cells fun x y => one (anyN 20 fun a => U a y) * one (anyN 20 (U x))) = shX U * shY U := by
    unfold cells
    rw [sumN_congr (fun y _ => sumN_mul 20 (one (anyN 20 fun a => U a y)) fun x => one (anyN 20 (U x)))]
    show sumN 20 (fun y => one (anyN 20 fun a => U a y) * shX U) = _
    rw [sumN_congr (fun y _ => Int.mul_comm _ (shX U)), sumN_mul]; rfl
  omega
-- runs
/-- how many runs begin in a line's first b -/
def runN (g : Nat → Bool) : Nat → Int
  | 0 => 0
  | b + 1 => runN g b + one (g b && (decide (b = 0) || !g (b - 1)))
def runX (U : Nat → Nat → Bool) : Int := sumN 20 fun y => runN (fun x => U x y) 20
def runY (U : Nat → Nat → Bool) : Int := sumN 20 fun x => runN (U x) 20
theorem runN_bd (g : Nat → Bool) (b : Nat) : 0 ≤ runN g b ∧ runN g b ≤ b := by
  induction b with
  | zero => simp [runN]
  | succ b ih => simp only [runN]; have := one_nonneg (g b && (decide (b = 0) || !g (b - 1))); have := one_le (g b && (decide (b = 0) || !g (b - 1))); omega
theorem run_any (g : Nat → Bool) : ∀ n, one (anyN n g) ≤ runN g n
  | 0 => Int.le_refl _
  | n + 1 => by
    have ih := run_any g n
    simp only [anyN, runN]
    have h0 := one_nonneg (g n && (decide (n = 0) || !g (n - 1)))
    cases ha : anyN n g
    · cases hg : g n
      · simp [one]; exact (runN_bd g n).1
      · have hn : n = 0 ∨ g (n - 1) = false := by
          by_cases e : n = 0
          · exact Or.inl e
          · right
            cases hp : g (n - 1)
            · rfl
            · have := (anyN_iff n g).2 ⟨n - 1, by omega, hp⟩
              rw [ha] at this; cases this
        have hb := (runN_bd g n).1
        have e1 : (true && (decide (n = 0) || !g (n - 1))) = true := by
          rcases hn with e | e
          · simp [e]
          · simp [e]
        rw [e1]; simp [one]; omega
    · rw [ha] at ih; simp [one] at ih ⊢
      have : (0 : Int) ≤ if (g n && (decide (n = 0) || !g (n - 1))) = true then 1 else 0 := by split <;> omega
      simp only [Bool.and_eq_true, Bool.or_eq_true, decide_eq_true_eq, Bool.not_eq_true'] at this
      omega
theorem run_shadow (U : Nat → Nat → Bool) : shY U ≤ runX U ∧ shX U ≤ runY U :=
  ⟨sumN_le fun y _ => run_any (fun x => U x y) 20, sumN_le fun x _ => run_any (U x) 20⟩
/-- a line's changes are twice its runs -/
theorem run_changes {G : Nat → Bool} {g : Nat → Bool} (h0 : G 0 = false) (h : ∀ i, i < 20 → G (i + 1) = g i) (h1 : G 21 = false) : sumN 21 (fun i => one (G i != G (i + 1))) = 2 * runN g 20 := by
  have H : ∀ k, k ≤ 20 → sumN k (fun i => one (G i != G (i + 1))) = 2 * runN g k - one (G k) := by
    intro k
    induction k with
    | zero => intro _; rw [h0]; rfl
    | succ k ih =>
      intro hk
      simp only [sumN, runN]
      rw [ih (by omega), h k (by omega)]
      by_cases e : k = 0
      · subst e; rw [h0]; cases g 0 <;> simp [one, runN]
      · have hp : G k = g (k - 1) := by have := h (k - 1) (by omega); rwa [show k - 1 + 1 = k by omega] at this
        rw [hp, decide_eq_false e]
        cases g k <;> cases g (k - 1) <;> simp [one] <;> omega
  show sumN 20 _ + one (G 20 != G 21) = _
  rw [H 20 (Nat.le_refl _), h1]
  cases G 20 <;> simp [one]
theorem sum_grid (m n : Nat) (f : Nat → Int) : sumN (n * m) f = sumN m fun y => sumN n fun x => f (n * y + x) := by
  induction m with
  | zero => rfl
  | succ m ih => rw [Nat.mul_succ, sumN_split, ih]; rfl
theorem sum_inner (L : Nat → Int) : sumN 22 L = L 0 + sumN 20 (fun y => L (y + 1)) + L 21 := by
  show sumN 21 L + L 21 = _
  rw [show (21 : Nat) = 1 + 20 from rfl, sumN_split]
  rw [sumN_congr (n := 20) (f := fun i => L (1 + i)) (g := fun y => L (y + 1)) fun i _ => by rw [Nat.add_comm]]
  simp [sumN]
/-- the cells of a union, and its map -/
def uniB (f : Nat → Rt) (n : Nat) (x y : Nat) : Bool := anyTo f x y n
theorem map_cell (f : Nat → Rt) (n : Nat) {x y : Nat} (hx : x < 20) (hy : y < 20) : mapG f n (22 * (y + 1) + (x + 1)) = uniB f n x y := by
  rw [mapG_at f n (x + 1) (y + 1) (by omega), decide_eq_true (by omega), Bool.true_and]
  unfold uniB
  rw [show (((x + 1 : Nat) : Int) - 1) = (x : Int) by omega, show (((y + 1 : Nat) : Int) - 1) = (y : Int) by omega]
theorem map_side (f : Nat → Rt) (n : Nat) {x y : Nat} (hx : x < 22) (h : x = 0 ∨ x = 21 ∨ y = 0 ∨ 21 ≤ y) : mapG f n (22 * y + x) = false := by
  rw [mapG_at f n x y hx, decide_eq_false (by omega)]; rfl
/-- the outline is twice all runs -/
theorem outline_runs (f : Nat → Rt) (n : Nat) : outl (mapG f n) = 2 * (runX (uniB f n) + runY (uniB f n)) := by
  have hM := mapG_map f n
  rw [outl_eq hM]
  have ez : ∀ d, ∀ a, 461 ≤ a → one (mapG f n a != mapG f n (a + d)) = 0 := fun d a ha => by rw [hM.hi ha, hM.hi (by omega)]; rfl
  have A : sumN 461 (fun a => one (mapG f n a != mapG f n (a + 1))) = 2 * runX (uniB f n) := by
    rw [← sum_upto 484 (by omega) (ez 1), show (484 : Nat) = 22 * 22 from rfl, sum_grid]
    have row : ∀ y, y < 22 → sumN 22 (fun x => one (mapG f n (22 * y + x) != mapG f n (22 * y + x + 1))) = sumN 21 (fun x => one (mapG f n (22 * y + x) != mapG f n (22 * y + (x + 1)))) := fun y hy => by
      show sumN 21 _ + one (mapG f n (22 * y + 21) != mapG f n (22 * (y + 1) + 0)) = _
      rw [map_side f n (y := y) (by omega) (Or.inr (Or.inl rfl)), map_side f n (y := y + 1) (by omega) (Or.inl rfl)]
      show _ + (0 : Int) = _
      rw [Int.add_zero]; rfl
    rw [sumN_congr row, sum_inner]
    have z : ∀ y, y = 0 ∨ 21 ≤ y → sumN 21 (fun x => one (mapG f n (22 * y + x) != mapG f n (22 * y + (x + 1)))) = 0 := fun y hy => sum_none fun x hx => by
      rw [map_side f n (y := y) (x := x) (by omega) (Or.inr (Or.inr hy)), map_side f n (y := y) (x := x + 1) (by omega) (Or.inr (Or.inr hy))]; rfl
    rw [z 0 (Or.inl rfl), z 21 (Or.inr (by omega))]
    unfold runX
    rw [← sumN_mul, Int.zero_add, Int.add_zero]
    exact sumN_congr fun y hy => run_changes (G := fun i => mapG f n (22 * (y + 1) + i)) (map_side f n (y := y + 1) (by omega) (Or.inl rfl)) (fun i hi => map_cell f n hi hy) (map_side f n (y := y + 1) (by omega) (Or.inr (Or.inl rfl)))
  have B : sumN 461 (fun a => one (mapG f n a != mapG f n (a + 22))) = 2 * runY (uniB f n) := by
    rw [← sum_upto 484 (by omega) (ez 22), show (484 : Nat) = 22 * 22 from rfl, sum_grid, sumN_swap]
    have col : ∀ x, x < 22 → sumN 22 (fun y => one (mapG f n (22 * y + x) != mapG f n (22 * y + x + 22))) = sumN 21 (fun y => one (mapG f n (22 * y + x) != mapG f n (22 * (y + 1) + x))) := fun x hx => by
      show sumN 21 _ + one (mapG f n (22 * 21 + x) != mapG f n (22 * 21 + x + 22)) = _
      rw [show 22 * 21 + x + 22 = 22 * 22 + x by omega, map_side f n (y := 21) hx (by omega), map_side f n (y := 22) hx (by omega)]
      show _ + (0 : Int) = _
      rw [Int.add_zero]
      exact sumN_congr fun y _ => by rw [show 22 * y + x + 22 = 22 * (y + 1) + x by omega]
    rw [sumN_congr col, sum_inner]
    have z : ∀ x, x < 22 → x = 0 ∨ x = 21 → sumN 21 (fun y => one (mapG f n (22 * y + x) != mapG f n (22 * (y + 1) + x))) = 0 := fun x hx h => sum_none fun y hy => by
      rw [map_side f n (y := y) hx (by omega), map_side f n (y := y + 1) hx (by omega)]; rfl
    rw [z 0 (by omega) (Or.inl rfl), z 21 (by omega) (Or.inr rfl)]
    unfold runY
    rw [← sumN_mul, Int.zero_add, Int.add_zero]
    exact sumN_congr fun x hx => run_changes (G := fun i => mapG f n (22 * i + (x + 1))) (map_side f n (y := 0) (by omega) (by omega)) (fun i hi => map_cell f n hx hi) (map_side f n (y := 21) (by omega) (by omega))
  rw [A, B]; omega
-- what the laws say
/-- Of a function of unions: its answer; -1 for others. -/
def onU (g : (Nat → Nat → Bool) → Int) (f : Nat → Rt) (n : Nat) : Int := if laidF f n then g (uniB f n) else -1
theorem onU_yes {g : (Nat → Nat → Bool) → Int} {f : Nat → Rt} {n : Nat} (hl : laidF f n = true) : onU g f n = g (uniB f n) := by unfold onU; rw [hl]; rfl
theorem onU_no {g : (Nat → Nat → Bool) → Int} {f : Nat → Rt} {n : Nat} (hl : laidF f n = false) : onU g f n = -1 := by unfold onU; rw [hl]; rfl
theorem runs_outline {f : Nat → Rt} {n : Nat} (hl : laidF f n = true) : 2 * (onU runX f n + onU runY f n) = olF f n ∧ onU shY f n ≤ onU runX f n ∧ onU shX f n ≤ onU runY f n := by
  rw [onU_yes hl, onU_yes hl, onU_yes hl, onU_yes hl, olF_yes hl, outline_runs]
  exact ⟨rfl, run_shadow _⟩
/-- without gaps: as many runs as shadows -/
def gapF (f : Nat → Rt) (n : Nat) : Bool := laidF f n && (decide (onU runX f n = onU shY f n) && decide (onU runY f n = onU shX f n))
theorem gap_outline {f : Nat → Rt} {n : Nat} (hl : laidF f n = true) : gapF f n = (olF f n == 2 * (onU shX f n + onU shY f n)) := by
  obtain ⟨h1, h2, h3⟩ := runs_outline hl
  unfold gapF
  rw [hl, Bool.true_and, Bool.eq_iff_iff, Bool.and_eq_true, decide_eq_true_eq, decide_eq_true_eq, beq_iff_eq]
  omega
theorem shadow_one {r : Rt} (h : okB r = true) : r.r - r.l ≤ shX (fun a b => hasB r a b) ∧ r.h - r.o ≤ shY (fun a b => hasB r a b) := by
  obtain ⟨⟨p1, p2, p3⟩, q1, q2, q3⟩ := okB_iff.1 h
  constructor
  · have e := sumN_span r.l r.r p1 20
    have : sumN 20 (fun i => if r.l ≤ (i : Int) ∧ (i : Int) < r.r then 1 else 0) ≤ shX (fun a b => hasB r a b) := sumN_le fun a ha => by
      split
      · next hh => rw [(anyN_iff 20 _).2 ⟨r.o.toNat, by omega, hasB_iff.2 (by omega)⟩]; exact Int.le_refl _
      · exact one_nonneg _
    omega
  · have e := sumN_span r.o r.h q1 20
    have : sumN 20 (fun i => if r.o ≤ (i : Int) ∧ (i : Int) < r.h then 1 else 0) ≤ shY (fun a b => hasB r a b) := sumN_le fun b hb => by
      split
      · next hh => rw [(anyN_iff 20 _).2 ⟨r.l.toNat, by omega, hasB_iff.2 (by omega)⟩]; exact Int.le_refl _
      · exact one_nonneg _
    omega
theorem gap_one {f : Nat → Rt} (hl : laidF f 1 = true) : gapF f 1 = true := by
  have hok : okB (f 0) = true := okTo_le (laidF_ok hl).2 (by omega)
  obtain ⟨h1, h2, h3⟩ := runs_outline hl
  obtain ⟨s1, s2⟩ := shadow_one hok
  have eU : uniB f 1 = fun (a b : Nat) => hasB (f 0) a b := by funext a b; unfold uniB; simp only [anyTo, Bool.false_or]
  rw [gap_outline hl, beq_iff_eq]
  have ho : olF f 1 = 2 * (((f 0).r - (f 0).l) + ((f 0).h - (f 0).o)) := by
    rw [olF_yes hl, show mapG f 1 = mapR (f 0) by funext a; unfold mapR mapG; simp only [anyTo, Bool.false_or], outl_one _ hok]
  simp only [onU_yes hl, eU] at h1 h2 h3 ⊢
  omega
theorem shadows_say {f : Nat → Rt} {n : Nat} (hl : laidF f n = true) : arU (uniB f n) ≤ onU shX f n * onU shY f n ∧ onU shX f n ≤ arU (uniB f n) ∧ onU shY f n ≤ arU (uniB f n) ∧ 2 * (onU shX f n + onU shY f n) ≤ olF f n ∧ (0 ≤ onU shX f n ∧ onU shX f n ≤ 20) ∧ 0 ≤ onU shY f n ∧ onU shY f n ≤ 20 := by
  obtain ⟨h1, h2, h3⟩ := runs_outline hl
  obtain ⟨a1, a2⟩ := area_ge (uniB f n)
  have e1 : onU shX f n = shX (uniB f n) := onU_yes hl
  have e2 : onU shY f n = shY (uniB f n) := onU_yes hl
  have p := area_prod (uniB f n)
  have b1 := shX_bd (uniB f n)
  have b2 := shY_bd (uniB f n)
  rw [e2] at h2
  rw [e1] at h3
  rw [e1, e2]
  exact ⟨p, a1, a2, by omega, b1, b2⟩
end Go.Proofs.Ytfdkkkdijgmbbaa
