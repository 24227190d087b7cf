/- Chapter 5: what its laws say. -/
import Derived.Test.YtkfeeijiockdhaaMathSU
import Derived.Test.YtkfeeijiockdhaaDp
namespace Go.Proofs.Ytkfeeijiockdhaa
set_option linter.unusedVariables false
theorem lenTo_ok {f : Nat → Rt} {n : Nat} (hl : laidF f n = true) : ∀ i, i < n → okB (f i) = true := fun i hi => okTo_le (laidF_ok hl).2 hi
/-- two rectangles, in their order -/
def twoR (r s : Rt) (i : Nat) : Rt := if i = 0 then r else s
theorem two_laid {r s : Rt} (hr : okB r = true) (hs : okB s = true) : laidF (twoR r s) 2 = true := by
  have h0 : twoR r s 0 = r := rfl
  have h1 : twoR r s 1 = s := rfl
  unfold laidF; simp only [okTo]; rw [h0, h1, hr, hs]; rfl
theorem two_depth {r s : Rt} (hr : okB r = true) (hs : okB s = true) : (daF (twoR r s) 2 (max r.l s.l) (max r.o s.o) == 2) = cmB r s := by
  have a := okB_iff.1 hr
  have b := okB_iff.1 hs
  have h0 : twoR r s 0 = r := rfl
  have h1 : twoR r s 1 = s := rfl
  have x1 : inB (max r.l s.l) 0 19 = true := inB_iff.2 (by omega)
  have x2 : inB (max r.o s.o) 0 19 = true := inB_iff.2 (by omega)
  unfold daF
  rw [two_laid hr hs, x1, x2, meet_depth hr hs]
  simp only [Bool.and_self, if_true, depF]
  rw [h0, h1]
  cases hasB r (max r.l s.l) (max r.o s.o) <;> cases hasB s (max r.l s.l) (max r.o s.o) <;> rfl
theorem meet_self {r : Rt} (hr : okB r = true) : cmB r r = true := by
  have a := okB_iff.1 hr
  exact (meet_iff hr hr).2 (by omega)
theorem meet_none {r s : Rt} (h : okB r = false ∨ okB s = false) : cmB r s = false := by
  unfold cmB bothB
  rcases h with h | h
  · rw [h]; rfl
  · rw [h, Bool.and_false]; rfl
theorem am_none {f : Nat → Rt} {m : Nat} (h : laidF f m = false ∨ m = 0) : amF f m = laidF f m := by
  unfold amF
  rcases h with h | h
  · rw [h, Bool.and_false]
  · subst h; rfl
theorem am_helly {f : Nat → Rt} {m : Nat} (hl : laidF f m = true) (hm : 0 < m) : acF f m = amF f m ∧ (prF f m == 1) = amF f m := by
  obtain ⟨h1, h2⟩ := helly hm (lenTo_ok hl)
  constructor
  · unfold acF
    rw [hl, show decide (m = 0) = false from decide_eq_false (by omega), Bool.eq_iff_iff, amF_iff]
    simp only [Bool.true_and, Bool.not_false]
    exact ⟨fun h => ⟨h1.2 h, hl⟩, fun h => h1.1 h.1⟩
  · unfold prF
    rw [hl, Bool.eq_iff_iff, amF_iff, beq_iff_eq, if_pos rfl]
    exact ⟨fun h => ⟨h2.2 (by omega), hl⟩, fun h => by have := h2.1 h.1; omega⟩
/-- the first k lie as the first one does, from low to high -/
def sameTo (f : Nat → Rt) : Nat → Bool
  | 0 => true
  | k + 1 => (sameTo f k && ((f k).o == (f 0).o)) && ((f k).h == (f 0).h)
theorem sameTo_iff (f : Nat → Rt) (k : Nat) : sameTo f k = true ↔ ∀ i, i < k → (f i).o = (f 0).o ∧ (f i).h = (f 0).h := by
  induction k with
  | zero => exact ⟨fun _ i hi => by omega, fun _ => rfl⟩
  | succ k ih =>
    simp only [sameTo, Bool.and_eq_true, beq_iff_eq]; rw [ih]
    refine ⟨fun ⟨⟨h1, h2⟩, h3⟩ i hi => ?_, fun h => ⟨⟨fun i hi => h i (by omega), (h k (by omega)).1⟩, (h k (by omega)).2⟩⟩
    by_cases e : i = k
    · subst e; exact ⟨h2, h3⟩
    · exact h1 i (by omega)
theorem prF_yes {f : Nat → Rt} {m : Nat} (hl : laidF f m = true) : prF f m = prN f m := by unfold prF; rw [hl]; rfl
theorem apF_yes {f : Nat → Rt} {m : Nat} (hl : laidF f m = true) : apF f m = apN f m := by unfold apF; rw [hl]; rfl
theorem apF_bd {f : Nat → Rt} {m : Nat} (hl : laidF f m = true) : 0 ≤ apF f m ∧ apF f m ≤ m := by
  rw [apF_yes hl]; have := apN_le f m; omega
/-- What the law of PierceOf says. -/
theorem pierce_say {f : Nat → Rt} {m : Nat} (hl : laidF f m = true) : apF f m ≤ prF f m ∧ prF f m ≤ m ∧ (sameTo f m = true → prF f m = apF f m) := by
  have h1 := apN_le_prN (lenTo_ok hl)
  have h2 := prN_le (lenTo_ok hl)
  rw [apF_yes hl, prF_yes hl]
  refine ⟨by omega, by omega, fun h => ?_⟩
  rw [prN_same (lenTo_ok hl) ((sameTo_iff f m).1 h)]
theorem pierce_more {f : Nat → Rt} {m : Nat} {r : Rt} (h : woB f m r = true) : prF f m ≤ prF (withF f m r) (m + 1) ∧ prF (withF f m r) (m + 1) ≤ prF f m + 1 := by
  have hl := (laid_with h).1
  have hl2 : laidF (withF f m r) (m + 1) = true := h
  obtain ⟨h1, h2⟩ := prN_more (lenTo_ok hl2)
  have h3 : prN (withF f m r) m = prN f m := prN_congr (lenTo_ok hl) fun i hi => by unfold withF; rw [if_pos hi]
  rw [prF_yes hl, prF_yes hl2]
  omega
/-- What the law of ApartOf says. -/
theorem apart_one {f : Nat → Rt} {m : Nat} (hl : laidF f m = true) : (apF f m == 1) = (decide (0 < m) && amF f m) := by
  have h := apN_one f m
  rw [apF_yes hl, Bool.eq_iff_iff, Bool.and_eq_true, beq_iff_eq, decide_eq_true_iff, amF_iff]
  exact ⟨fun e => by have := h.1 (by omega); exact ⟨this.1, this.2, hl⟩, fun e => by have := h.2 ⟨e.1, e.2.1⟩; omega⟩
theorem apart_pieces {f : Nat → Rt} {m : Nat} (hl : laidF f m = true) : pcF f m ≤ apF f m := by
  obtain ⟨R, hR, _⟩ := lst_ex f m
  rw [pcF_pcs hl hR, apF_yes hl]
  exact pieces_apart hR (lenTo_ok hl)
theorem over_ok {a : Rt} (h : okB a = true) : okB (ovR a) = true := by
  have := okB_iff.1 h
  unfold ovR; rw [h]; exact okB_iff.2 ⟨this.2, this.1⟩
theorem over_meet {a b : Rt} (ha : okB a = true) (hb : okB b = true) : cmB a b = cmB (ovR a) (ovR b) := by
  have e1 := over_ok ha
  have e2 := over_ok hb
  rw [Bool.eq_iff_iff, meet_iff ha hb, meet_iff e1 e2]
  unfold ovR; rw [ha, hb]; simp only [if_true, overR]; omega
theorem over_laid {f f' : Nat → Rt} {m : Nat} (hl : laidF f m = true) (hf : ∀ i, i < m → f' i = ovR (f i)) : laidF f' m = true := by
  obtain ⟨h7, hok⟩ := laidF_ok hl
  have H : ∀ k, k ≤ m → okTo f' k = true := by
    intro k
    induction k with
    | zero => intro _; rfl
    | succ k ih => intro hk; simp only [okTo]; rw [ih (by omega), hf k (by omega), over_ok (okTo_le hok (by omega))]; rfl
  unfold laidF; rw [H m (Nat.le_refl _), decide_eq_true h7]; rfl
theorem apart_over {f f' : Nat → Rt} {m : Nat} (hl : laidF f m = true) (hf : ∀ i, i < m → f' i = ovR (f i)) : apF f' m = apF f m := by
  rw [apF_yes hl, apF_yes (over_laid hl hf)]
  rw [apN_congr (f := f) (f' := f') fun i j hij hj => by rw [hf i (by omega), hf j hj]; exact over_meet (lenTo_ok hl i (by omega)) (lenTo_ok hl j hj)]
end Go.Proofs.Ytkfeeijiockdhaa
