/- Chapter 2: sums over choices; SumsOf of spec. -/
import Derived.Test.YtfdkkkdijgmbbaaWi
import Derived.Test.YtfdkkkdijgmbbaaUni
import Derived.Deep.RegionHeld3
import Derived.Deep.DeepCutAuto
namespace Go.Proofs.Ytfdkkkdijgmbbaa
open Go.RowKit Go.Sort Go.BigFrame
set_option linter.unusedVariables false
/-- what the choice t adds to the sum at place j -/
def addF (f : Nat → Rt) (n j t : Nat) : Int := if (subTo f t n).length = j + 1 then areaC (subTo f t n) else 0
/-- the sums when the choices below s are done -/
def accF (f : Nat → Rt) (n s j : Nat) : Int := sumN s (addF f n j)
theorem accF_all (f : Nat → Rt) (n j : Nat) : accF f n (2 ^ n) j = sumsAt f n j := rfl
theorem subTo_zero (f : Nat → Rt) (n : Nat) : subTo f 0 n = [] := by
  induction n with
  | zero => rfl
  | succ n ih => simp only [subTo]; rw [ih]; simp
theorem accF_one (f : Nat → Rt) (n j : Nat) : accF f n 1 j = 0 := by
  unfold accF addF
  simp only [sumN]
  rw [subTo_zero]
  simp
theorem sub_len (f : Nat → Rt) (s k : Nat) : (subTo f s k).length = popTo s k := by
  induction k with
  | zero => rfl
  | succ k ih => simp only [subTo, popTo, List.length_append, ih]; split <;> simp
theorem popTo_pos {s n : Nat} (h1 : 1 ≤ s) (h2 : s < 2 ^ n) : 0 < popTo s n := by
  induction n with
  | zero => omega
  | succ n ih =>
    simp only [popTo]
    by_cases h : s < 2 ^ n
    · have := ih h; omega
    · have : s.testBit n = true := by
        have h3 : s = 2 ^ n + (s - 2 ^ n) := by omega
        have h4 : s - 2 ^ n < 2 ^ n := by have := Nat.pow_succ 2 n; omega
        rw [h3, Nat.testBit_two_pow_add_eq, Nat.testBit_lt_two_pow h4]; rfl
      rw [this]; simp
theorem accF_step (f : Nat → Rt) (n s j : Nat) : accF f n (s + 1) j = accF f n s j + addF f n j s := rfl
theorem addF_bd (f : Nat → Rt) (n j t : Nat) : 0 ≤ addF f n j t ∧ addF f n j t ≤ 400 := by
  unfold addF
  split
  · exact ⟨areaC_nonneg _, areaC_le _⟩
  · omega
theorem accF_bd (f : Nat → Rt) (n s j : Nat) : 0 ≤ accF f n s j ∧ accF f n s j ≤ 400 * s := by
  induction s with
  | zero => simp [accF, sumN]
  | succ s ih => rw [accF_step]; have := addF_bd f n j s; omega
theorem pow_le7 (n : Nat) (h : n ≤ 7) : 2 ^ n ≤ 128 := by
  have := Nat.pow_le_pow_right (n := 2) (by omega) h
  omega
theorem shl_eq : ∀ n : Fin 8, IntKind.i64.wrap ((2 : Int) ^ n.val) = ((2 ^ n.val : Nat) : Int) := by decide +kernel
theorem bit_eq : ∀ s : Fin 128, ∀ i : Fin 7, ((((s.val : Nat) : Int) / 2 ^ i.val).tmod 2 == 1) = s.val.testBit i.val := by decide +kernel

theorem up_snoc (f : Nat → Rt) (n : Nat) (r : Rt) : upTo (withF f n r) (n + 1) = upTo f n ++ [r] := by
  have : ∀ k, k ≤ n → upTo (withF f n r) k = upTo f k := by
    intro k
    induction k with
    | zero => intro _; rfl
    | succ k ih => intro h; simp only [upTo]; rw [ih (by omega)]; unfold withF; rw [if_pos (by omega)]
  simp only [upTo]
  rw [this n (Nat.le_refl _)]
  unfold withF
  rw [if_neg (by omega)]
theorem okTo_with (f : Nat → Rt) (n : Nat) (r : Rt) : okTo (withF f n r) (n + 1) = (okTo f n && okB r) := by
  simp only [okTo]
  rw [okTo_congr (f := withF f n r) (f' := f) n (fun i hi => by unfold withF; rw [if_pos hi]), show withF f n r n = r by unfold withF; rw [if_neg (by omega)]]
/-- what the chosen ones, laid beside each other, have in common -/
theorem ac_some {G f : Nat → Rt} {L t n : Nat} (h7 : L ≤ 7) (h0 : 0 < L) (hok : okTo G L = true) (hu : upTo G L = subTo f t n) :
    acF G L = okB (foldC (subTo f t n)) ∧ acRF G L = onlyR (foldC (subTo f t n)) := by
  have h1 : acF G L = okB (foldC (subTo f t n)) := by
    unfold acF laidF; rw [hok, hu, show decide (L ≤ 7) = true by simpa using h7, show decide (L = 0) = false by simp; omega]; simp
  exact ⟨h1, by unfold acRF onlyR; rw [h1, hu]⟩
/-- Ints are handed back, in a block of the call's own. -/
def IntsPost (n : Nat) (f : Nat → Int) (w : World) (e : Ending) (w' : World) : Prop :=
  ∃ A cap g, e = .returned (.slice A n cap) ∧ Iw w' A n f g ∧ w.heap.size ≤ g ∧ Below w.heap.size w w'
theorem add_not (f : Nat → Rt) (n j t : Nat) (h : okB (foldC (subTo f t n)) = false) : addF f n j t = 0 := by
  unfold addF areaC; rw [h]; simp
theorem add_yes (f : Nat → Rt) (n j t : Nat) (h : okB (foldC (subTo f t n)) = true) : addF f n j t = if popTo t n = j + 1 then areaM (foldC (subTo f t n)) else 0 := by
  unfold addF areaC; rw [h, sub_len]; rfl
theorem bel_set {B : Nat} {a w : World} (h : Below B a w) {g o : Nat} (hg : B ≤ g) (u : Value) : Below B a (w.setCell ⟨g, o, none⟩ u) := h.setCell (p := ⟨g, o, none⟩) hg u

end Go.Proofs.Ytfdkkkdijgmbbaa
