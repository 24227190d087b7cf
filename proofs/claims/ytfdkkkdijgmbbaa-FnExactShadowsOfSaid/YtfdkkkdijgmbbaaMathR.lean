/- What the laws of chapter 4 say, of outlines, corners, pieces and holes as they are counted. -/
import Derived.Test.YtfdkkkdijgmbbaaPieces
namespace Go.Proofs.Ytfdkkkdijgmbbaa
set_option linter.unusedVariables false

theorem mapG_congr {f f' : Nat → Rt} {n : Nat} (h : ∀ i, i < n → f i = f' i) : mapG f n = mapG f' n := by
  funext a
  unfold mapG
  congr 1
  have : ∀ k, k ≤ n → ∀ x y : Int, anyTo f x y k = anyTo f' x y k := by
    intro k
    induction k with
    | zero => intro _ _ _; rfl
    | succ k ih => intro hk x y; simp only [anyTo]; rw [ih (by omega), h k (by omega)]
  exact this n (Nat.le_refl _) _ _
theorem mapG_with (f : Nat → Rt) (n : Nat) (r : Rt) : mapG (withF f n r) n = mapG f n := mapG_congr fun i hi => by unfold withF; rw [if_pos hi]
theorem withF_last (f : Nat → Rt) (n : Nat) (r : Rt) : withF f n r n = r := by unfold withF; rw [if_neg (by omega)]
theorem laid_with {f : Nat → Rt} {n : Nat} {r : Rt} (h : woB f n r = true) : laidF f n = true ∧ okB r = true ∧ n ≤ 6 := by
  unfold woB laidF at h
  rw [okTo_with, Bool.and_eq_true, Bool.and_eq_true, decide_eq_true_iff] at h
  refine ⟨?_, h.2.2, by omega⟩
  unfold laidF; rw [h.2.1, decide_eq_true (p := n ≤ 7) (by omega)]; rfl
theorem olF_yes {f : Nat → Rt} {n : Nat} (h : laidF f n = true) : olF f n = outl (mapG f n) := by unfold olF; rw [h]; rfl
theorem olF_bd {f : Nat → Rt} {n : Nat} (h : laidF f n = true) : 0 ≤ olF f n ∧ olF f n ≤ 966 := by
  rw [olF_yes h]; have := sides_sum_bd (mapG f n) 483; unfold outl; omega
/-- What the law of outlines says. -/
theorem outline_law {f : Nat → Rt} {n : Nat} (h : laidF f n = true) : olF f n % 2 = 0 ∧ (olF f n = 0 ↔ n = 0) := by
  rw [olF_yes h]
  refine ⟨outl_even (mapG_map f n), ?_, fun e => by subst e; exact outl_zero f⟩
  intro hz
  cases n with
  | zero => rfl
  | succ n => exact absurd hz (outl_pos (okTo_le (laidF_ok h).2 (by omega)))
theorem one_laid {r : Rt} (h : okB r = true) : laidF (fun _ => r) 1 = true := by unfold laidF okTo okTo; rw [h]; rfl
theorem outline_own {r : Rt} (h : okB r = true) : olF (fun _ => r) 1 = 2 * ((r.r - r.l) + (r.h - r.o)) := by
  rw [olF_yes (one_laid h)]; exact outl_one r h
theorem outline_more {f : Nat → Rt} {n : Nat} {r : Rt} (h : woB f n r = true) : olF (withF f n r) (n + 1) ≤ olF f n + olF (fun _ => r) 1 := by
  obtain ⟨h1, h2, _⟩ := laid_with h
  rw [olF_yes h1, olF_yes (show laidF (withF f n r) (n + 1) = true from h), olF_yes (one_laid h2)]
  have := outl_step (withF f n r) n
  rw [mapG_with, withF_last] at this
  exact this
theorem pcF_yes {f : Nat → Rt} {n : Nat} (h : laidF f n = true) : pcF f n = cntP 484 (fun a => mapG f n a = true ∧ Rep (Rch (EdE false true (mapG f n))) a) := by unfold pcF; rw [h]; rfl
theorem hoF_yes {f : Nat → Rt} {n : Nat} (h : laidF f n = true) : hoF f n = cntP 484 (fun a => mapG f n a = false ∧ Rep (Rch (EdE true false (mapG f n))) a) - 1 := by unfold hoF; rw [h]; rfl
/-- There is a least equivalence of a map. -/
theorem lst_ex (f : Nat → Rt) (n : Nat) : ∃ R, Lst (mapG f n) R ∧ pcs (mapG f n) R 484 - (whs (mapG f n) R 484 - 1) = chi (mapG f n) 484 := by
  obtain ⟨R, e, c, nr, l, _, h⟩ := euler (mapG_map f n).toBare
  exact ⟨R, ⟨e, c, nr, l⟩, h⟩
theorem pcF_pcs {f : Nat → Rt} {n : Nat} {R : Nat → Nat → Prop} (h : laidF f n = true) (hR : Lst (mapG f n) R) : pcF f n = pcs (mapG f n) R 484 := by
  rw [pcF_yes h, EdE_four, pcs_rch (mapG_map f n) hR]
theorem hoF_whs {f : Nat → Rt} {n : Nat} {R : Nat → Nat → Prop} (h : laidF f n = true) (hR : Lst (mapG f n) R) : hoF f n = whs (mapG f n) R 484 - 1 := by
  rw [hoF_yes h, EdE_eight, whs_rch (mapG_map f n) hR]
theorem coF_yes {f : Nat → Rt} {n : Nat} (h : laidF f n = true) : coF f n = sumN 461 (outAt (mapG f n)) := by
  rw [← (corner_rows (mapG_map f n)).1]; unfold coF; rw [h]; rfl
theorem ciF_yes {f : Nat → Rt} {n : Nat} (h : laidF f n = true) : ciF f n = sumN 461 (inAt (mapG f n)) := by
  rw [← (corner_rows (mapG_map f n)).2]; unfold ciF; rw [h]; rfl
theorem coF_bd {f : Nat → Rt} {n : Nat} (h : laidF f n = true) : (0 ≤ coF f n ∧ coF f n ≤ 882) ∧ 0 ≤ ciF f n ∧ ciF f n ≤ 882 := by
  have h1 := rowsAt_bd (outAt_bd (mapG f n)) 21
  have h2 := rowsAt_bd (inAt_bd (mapG f n)) 21
  unfold coF ciF; rw [h]; exact ⟨h1, h2⟩
theorem pcF_bd {f : Nat → Rt} {n : Nat} (h : laidF f n = true) : 0 ≤ pcF f n ∧ pcF f n ≤ 484 := by rw [pcF_yes h]; exact cntP_bd 484 _
/-- What the law of corners says. -/
theorem corners_say {f : Nat → Rt} {n : Nat} (h : laidF f n = true) : coF f n - ciF f n = 4 * (pcF f n - hoF f n) ∧ (coF f n + ciF f n) % 2 = 0 ∧ coF f n + ciF f n ≤ olF f n := by
  obtain ⟨R, hR, he⟩ := lst_ex f n
  obtain ⟨l1, l2, l3⟩ := corners_law (mapG_map f n)
  rw [coF_yes h, ciF_yes h, pcF_pcs h hR, hoF_whs h hR, olF_yes h]
  exact ⟨by omega, l2, l3⟩
/-- What the law of pieces says. -/
theorem pieces_one {f : Nat → Rt} {n : Nat} (h : laidF f (n + 1) = true) : 1 ≤ pcF f (n + 1) ∧ pcF f (n + 1) ≤ pcF f n + 1 := by
  have hn : laidF f n = true := by
    obtain ⟨h7, hok⟩ := laidF_ok h
    simp only [okTo, Bool.and_eq_true] at hok
    unfold laidF; rw [hok.1, decide_eq_true (p := n ≤ 7) (by omega)]; rfl
  obtain ⟨R, hR, _⟩ := lst_ex f n
  obtain ⟨R', hR', _⟩ := lst_ex f (n + 1)
  have hok := okTo_le (laidF_ok h).2 (show n < n + 1 by omega)
  rw [pcF_pcs h hR', pcF_pcs hn hR]
  exact ⟨pieces_some hR' hok, pieces_step hR hR' hok⟩
theorem laid_pre {f : Nat → Rt} {n : Nat} (h : laidF f (n + 1) = true) : laidF f n = true := by
  obtain ⟨h7, hok⟩ := laidF_ok h
  simp only [okTo, Bool.and_eq_true] at hok
  unfold laidF; rw [hok.1, decide_eq_true (p := n ≤ 7) (by omega)]; rfl
theorem pieces_zero {f : Nat → Rt} (h : laidF f 0 = true) : pcF f 0 = 0 := by
  obtain ⟨R, hR, _⟩ := lst_ex f 0
  rw [pcF_pcs h hR]; exact pieces_none
theorem pieces_le {f : Nat → Rt} : ∀ n, laidF f n = true → pcF f n ≤ n
  | 0, h => by rw [pieces_zero h]; exact Int.le_refl _
  | n + 1, h => by
    have := (pieces_one h).2
    have := pieces_le n (laid_pre h)
    omega
/-- What the law of holes says. -/
theorem holes_say {f : Nat → Rt} {n : Nat} (h : laidF f n = true) : 0 ≤ hoF f n ∧ hoF f n ≤ 484 ∧ (n < 4 → hoF f n = 0) := by
  obtain ⟨R, hR, _⟩ := lst_ex f n
  refine ⟨?_, ?_, fun h4 => ?_⟩
  · rw [hoF_whs h hR]
    have h0 : mapG f n 0 = false := (mapG_map f n).first 0 (by omega)
    have := cntP_drop (t := 484) (k := 0) (P := fun a => mapG f n a = false ∧ Rep R a) (Q := fun a => (mapG f n a = false ∧ Rep R a) ∧ a ≠ 0) (by omega) ⟨h0, fun b hb => by omega⟩ (fun a _ => Iff.rfl)
    have := (cntP_bd 484 (fun a => (mapG f n a = false ∧ Rep R a) ∧ a ≠ 0)).1
    unfold whs; omega
  · rw [hoF_yes h]; have := (cntP_bd 484 (fun a => mapG f n a = false ∧ Rep (Rch (EdE true false (mapG f n))) a)).2; omega
  · rw [hoF_whs h hR, few_whs h4 hR.eqv hR.near]; rfl
end Go.Proofs.Ytfdkkkdijgmbbaa
