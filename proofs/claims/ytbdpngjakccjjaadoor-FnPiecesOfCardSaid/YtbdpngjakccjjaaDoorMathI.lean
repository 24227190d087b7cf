
/- The whole scan: pieces less holes are the sum of what each cell adds. -/
import Derived.Test.YtbdpngjakccjjaaDoorMathH
namespace Go.Proofs.YtbdpngjakccjjaaDoor

/-- The map's border is empty. -/
structure Bare (G : Nat → Bool) : Prop where
  first : ∀ a, a < 22 → G a = false
  left : ∀ y, y < 22 → G (22 * y) = false
  right : ∀ y, y < 22 → G (22 * y + 21) = false
  last : ∀ a, 462 ≤ a → a < 484 → G a = false
/-- The links that are laid when the cell c comes. -/
def At (G : Nat → Bool) (c a b : Nat) : Prop :=
  (b = c ∧ (a + 1 = c ∨ a + 22 = c) ∧ G a = G b) ∨ (b = c ∧ a + 23 = c ∧ G a = false ∧ G b = false) ∨ (a + 22 = c ∧ b + 1 = c ∧ G a = false ∧ G b = false)
def Run (G : Nat → Bool) (y x : Nat) : Prop := ∃ R M, St G y x R M ∧ (∀ c a b, c ≤ 22 * y + x → At G c a b → R a b) ∧
  ∀ L, Eqv L → (∀ c a b, c < 484 → At G c a b → L a b) → ∀ a b, R a b → L a b
theorem run_start {G : Nat → Bool} (h : Bare G) : Run G 1 0 := by
  have g0 : ∀ a, a ≤ 22 → G a = false := fun a ha => by
    by_cases e : a = 22
    · rw [e]; exact h.left 1 (by omega)
    · exact h.first a (by omega)
  have le : ∀ i, i ≤ 22 → fr 1 0 i ≤ 22 := fun i hi => fr_le hi
  have noD : ∀ e, ¬ Dg G 1 0 e := fun e he => he.2 (by rw [g0 _ (le e (by have := he.1; omega)), g0 _ (le (e + 1) (by have := he.1; omega))])
  have eqv : Eqv (fun a b => a = b ∨ (a ≤ 22 ∧ b ≤ 22)) := ⟨fun a => Or.inl rfl, fun a b r => by omega, fun a b c r s => by omega⟩
  refine ⟨fun a b => a = b ∨ (a ≤ 22 ∧ b ≤ 22), fun e => e, ⟨⟨eqv, ?_, ?_⟩, ?_, ?_, ?_⟩, ?_, ?_⟩
  · rintro a b (r | r)
    · rw [r]
    · rw [g0 a r.1, g0 b r.2]
  · rintro a b ha (r | r) <;> omega
  · exact ⟨fun e he => absurd he (noD e), fun e he => absurd he (noD e), fun e he => absurd he (noD e), fun e g he => absurd he (noD e)⟩
  · intro i j hi hj
    exact ⟨fun _ e he => absurd he (noD e), fun _ => Or.inr ⟨le i hi, le j hj⟩⟩
  · unfold pcs cls chi
    have z : ∀ P : Nat → Prop, (∀ a, a < 22 * 1 + 0 + 1 → ¬ P a) → cntP (22 * 1 + 0 + 1) P = 0 := fun P hP => by
      rw [cntP_congr (Q := fun _ => False) (fun a ha => ⟨hP a ha, False.elim⟩)]
      unfold cntP
      rw [sumN_congr (g := fun _ => 0) (fun i _ => by simp [one])]; exact sumN_zero _
    rw [z _ (fun a ha hq => by have := hq.1; rw [g0 a (by omega)] at this; exact absurd this (by decide)),
      z _ (fun a ha hq => hq.1.2 0 (by omega) (Or.inr ⟨le 0 (by omega), by omega⟩)),
      sumN_congr (g := fun _ => 0) (fun i hi => by unfold dchi; rw [g0 i (by omega)]; simp [one]), sumN_zero]
    rfl
  · rintro c a b hc (⟨r, s, _⟩ | ⟨r, s, _⟩ | ⟨r, s, _⟩)
    · exact Or.inr (by omega)
    · exact Or.inr (by omega)
    · exact Or.inr (by omega)
  · intro L hL hall
    have ch : ∀ a, a ≤ 22 → L 0 a := fun a => by
      induction a with
      | zero => intro _; exact hL.refl _
      | succ a ih => intro ha; exact hL.trans _ _ _ (ih (by omega)) (hall (a + 1) a (a + 1) (by omega) (Or.inl ⟨rfl, Or.inl rfl, by rw [g0 a (by omega), g0 _ ha]⟩))
    rintro a b (r | r)
    · rw [r]; exact hL.refl _
    · exact hL.trans _ _ _ (hL.symm _ _ (ch a r.1)) (ch b r.2)
theorem run_next {G : Nat → Bool} {y x : Nat} (h : Run G y x) (hy : 1 ≤ y) (hy2 : y ≤ 21) (hx : x ≤ 20) : Run G y (x + 1) := by
  obtain ⟨R, M, S, hE, hM⟩ := h
  obtain ⟨R', M', S', up, ties, mn⟩ := next_all S hx
  have e' := S'.lk.eqv
  refine ⟨R', M', S', ?_, fun L hL hall => mn L hL ?_ (hM L hL hall)⟩
  · intro c a b hc hat
    by_cases e : c ≤ 22 * y + x
    · exact up _ _ (hE c a b e hat)
    · have ec : c = 22 * y + x + 1 := by omega
      rcases hat with ⟨r, s | s, g⟩ | ⟨r, s, g1, g2⟩ | ⟨r, s, g1, g2⟩
      · have ea : a = fr y x x := by rw [fr_w]; omega
        have eb : b = 22 * y + x + 1 := by omega
        subst ea eb; exact ties.w g
      · have ea : a = fr y x (x + 2) := by rw [fr_n]; omega
        have eb : b = 22 * y + x + 1 := by omega
        subst ea eb; exact ties.n g
      · have ea : a = fr y x (x + 1) := by rw [fr_nw]; omega
        have eb : b = 22 * y + x + 1 := by omega
        subst ea eb; exact ties.nw g1 g2
      · have ea : a = fr y x (x + 2) := by rw [fr_n]; omega
        have eb : b = fr y x x := by rw [fr_w]; omega
        subst ea eb; exact e'.symm _ _ (ties.wn g2 g1)
  · have hw : fr y x x + 1 = 22 * y + x + 1 := by rw [fr_w]
    have hn : fr y x (x + 2) + 22 = 22 * y + x + 1 := by rw [fr_n]; omega
    have hnw : fr y x (x + 1) + 23 = 22 * y + x + 1 := by rw [fr_nw]; omega
    have hc : 22 * y + x + 1 < 484 := by omega
    exact ⟨fun g => hall _ _ _ hc (Or.inl ⟨rfl, Or.inl hw, g⟩), fun g => hall _ _ _ hc (Or.inl ⟨rfl, Or.inr hn, g⟩), fun g1 g2 => hall _ _ _ hc (Or.inr (Or.inl ⟨rfl, hnw, g1, g2⟩)),
      fun g1 g2 => hL.symm _ _ (hall _ _ _ hc (Or.inr (Or.inr ⟨hn, hw, g2, g1⟩)))⟩
theorem fr_row (y j : Nat) : fr (y + 1) 0 (j + 1) = 22 * y + j := by unfold fr; rw [if_neg (by omega)]; omega
theorem fr_end (y j : Nat) (h : j ≤ 21) : fr y 21 j = 22 * y + j := by unfold fr; rw [if_pos h]
theorem run_row {G : Nat → Bool} (hB : Bare G) {y : Nat} (h : Run G y 21) (hy : 1 ≤ y) (hy2 : y ≤ 20) : Run G (y + 1) 0 := by
  obtain ⟨R, M, S, hE, hM⟩ := h
  have e := S.lk.eqv
  have g0 := hB.left y (by omega)
  have g1 := hB.left (y + 1) (by omega)
  have g2 := hB.right y (by omega)
  have g3 := hB.right (y - 1) (by omega)
  have f22 : fr y 21 22 = 22 * (y - 1) + 21 := by unfold fr; rw [if_neg (by omega)]; omega
  have n21 : ¬ Dg G y 21 21 := fun z => z.2 (by rw [fr_end _ _ (by omega), f22, g2, g3])
  have hD : ∀ e, Dg G (y + 1) 0 (e + 1) ↔ Dg G y 21 e := fun e => by
    by_cases h21 : e = 21
    · rw [h21]; exact ⟨fun z => by have := z.1; omega, fun z => absurd z n21⟩
    · unfold Dg
      rw [fr_row, fr_row]
      constructor
      · rintro ⟨u, v⟩; exact ⟨by omega, by rw [fr_end _ _ (by omega), fr_end _ _ (by omega)]; exact v⟩
      · rintro ⟨u, v⟩; exact ⟨by omega, by rw [fr_end _ _ (by omega), fr_end _ _ (by omega)] at v; exact v⟩
  have fz : fr (y + 1) 0 0 = 22 * (y + 1) := by unfold fr; rw [if_pos (by omega)]; omega
  have hz : ¬ Dg G (y + 1) 0 0 := fun z => z.2 (by rw [fz, fr_row, g1, Nat.add_zero, g0])
  obtain ⟨a1, a2, a3⟩ := shift S.arcs hD hz
  have hc : ∀ b, R (22 * (y + 1)) b → b = 22 * (y + 1) := fun b hb => S.lk.alone _ b (by omega) hb
  have eJ := J_eqv e (22 * y) (22 * (y + 1))
  have hl := J_link e (22 * y) (22 * (y + 1))
  -- the places, told in the frontier before
  have pl : ∀ i, i ≤ 22 → rc (22 * (y + 1)) (22 * y) (fr (y + 1) 0 i) = fr y 21 (i - 1) := fun i hi => by
    cases i with
    | zero => rw [fz, fr_end _ _ (by omega)]; unfold rc; rw [if_pos rfl]; rfl
    | succ i => rw [fr_row, Nat.add_sub_cancel, fr_end _ _ (by omega)]; unfold rc; rw [if_neg (by omega)]
  have lnk : ∀ i j, i ≤ 22 → j ≤ 22 → Free (Dg G y 21) M i j → R (fr y 21 i) (fr y 21 j) := fun i j hi hj hf => (S.inv i j hi hj).2 hf
  have free0 : ∀ j, 21 ≤ j → Free (Dg G y 21) M 0 j := fun j hj e he => by
    have u := he.1
    have v := (S.arcs.dom e he).1
    have u2 : e ≠ 21 := fun z => n21 (z ▸ he)
    have v2 : M e ≠ 21 := fun z => n21 (z ▸ S.arcs.dom e he)
    rw [Bool.eq_iff_iff, und_iff, und_iff]; omega
  have r21 : R (22 * y) (22 * y + 21) := by have := lnk 0 21 (by omega) (by omega) (free0 21 (by omega)); rwa [fr_end _ _ (by omega), fr_end _ _ (by omega)] at this
  have r22 : R (22 * y) (22 * (y - 1) + 21) := by have := lnk 0 22 (by omega) (by omega) (free0 22 (by omega)); rwa [fr_end _ _ (by omega), f22] at this
  obtain ⟨r1, r2⟩ := rep_new e hc (x := 22 * y) (by omega)
  have up : ∀ a b, R a b → J R (22 * y) (22 * (y + 1)) a b := fun a b r => Or.inl r
  refine ⟨J R (22 * y) (22 * (y + 1)), shM M, ⟨⟨eJ, ?_, ?_⟩, a1, ?_, ?_⟩, ?_, fun L hL hall => J_in hL (hM L hL hall) (hall (22 * (y + 1)) _ _ (by omega) (Or.inl ⟨rfl, Or.inr (by omega), by rw [g0, g1]⟩))⟩
  · rintro a b (r | ⟨r, s⟩ | ⟨r, s⟩)
    · exact S.lk.col _ _ r
    · rw [S.lk.col _ _ r, g0, ← g1, S.lk.col _ _ s]
    · rw [S.lk.col _ _ r, g1, ← g0, S.lk.col _ _ s]
  · rintro a b ha (r | ⟨r, s⟩ | ⟨r, s⟩)
    · exact S.lk.alone a b (by omega) r
    · have := S.lk.alone a _ (by omega) r; omega
    · have := S.lk.alone a _ (by omega) r; omega
  · intro i j hi hj
    rw [J_new e hc, pl i hi, pl j hj, S.inv _ _ (by omega) (by omega), ← a2]
    have st : ∀ i, Free (Dg G (y + 1) 0) (shM M) (i - 1 + 1) i := fun i => by
      cases i with
      | zero => exact a3.symm
      | succ i => rw [Nat.add_sub_cancel]; exact Free.rfl' _
    exact ⟨fun hf => (st i).symm.trans (hf.trans (st j)), fun hf => (st i).trans (hf.trans (st j).symm)⟩
  · have cl : ∀ a, a < 22 * (y + 1) → (Cl (y + 1) 0 (J R (22 * y) (22 * (y + 1))) a ↔ Cl y 21 R a) := fun a ha => by
      have ra : rc (22 * (y + 1)) (22 * y) a = a := by unfold rc; rw [if_neg (by omega)]
      constructor
      · intro hcl i hi hr
        by_cases h22 : i = 22
        · refine hcl 1 (by omega) ?_
          rw [J_new e hc, pl 1 (by omega), ra]
          show R (fr y 21 0) a
          rw [fr_end _ _ (by omega)]
          rw [h22, f22] at hr
          exact e.trans _ _ _ r22 hr
        · refine hcl (i + 1) (by omega) ?_
          rw [J_new e hc, pl _ (by omega), ra]; exact hr
      · intro hcl i hi hr
        rw [J_new e hc, pl i hi, ra] at hr
        exact hcl _ (by omega) hr
    have own : ¬ Cl (y + 1) 0 (J R (22 * y) (22 * (y + 1))) (22 * (y + 1)) := fun hcl => hcl 0 (by omega) (by rw [fz]; exact eJ.refl _)
    show pcs G _ (22 * (y + 1) + 1) - cls G (y + 1) 0 _ (22 * (y + 1) + 1) = chi G (22 * (y + 1) + 1)
    have p1 : pcs G (J R (22 * y) (22 * (y + 1))) (22 * (y + 1) + 1) = pcs G R (22 * (y + 1)) := by
      unfold pcs; rw [cntP_no (fun hq => r2 hq.2)]; exact cntP_congr fun a ha => by rw [r1 a ha]
    have p2 : cls G (y + 1) 0 (J R (22 * y) (22 * (y + 1))) (22 * (y + 1) + 1) = cls G y 21 R (22 * (y + 1)) := by
      unfold cls; rw [cntP_no (fun hq => r2 hq.2)]; exact cntP_congr fun a ha => by rw [r1 a ha, cl a ha]
    have p3 : chi G (22 * (y + 1) + 1) = chi G (22 * (y + 1)) := by
      unfold chi; simp only [sumN]; unfold dchi; rw [g1]; simp [one]
    have := S.cnt
    rw [show 22 * y + 21 + 1 = 22 * (y + 1) by omega] at this
    rw [p1, p2, p3]; exact this
  · intro c a b hcc hat
    by_cases ec : c ≤ 22 * y + 21
    · exact up _ _ (hE c a b ec hat)
    · have ec : c = 22 * (y + 1) := by omega
      have toC : ∀ a, R (22 * y) a → J R (22 * y) (22 * (y + 1)) a (22 * (y + 1)) := fun a r => eJ.trans _ _ _ (up _ _ (e.symm _ _ r)) hl
      rcases hat with ⟨r, s | s, g⟩ | ⟨r, s, g1, g2⟩ | ⟨r, s, g1, g2⟩
      · rw [show b = 22 * (y + 1) by omega, show a = 22 * y + 21 by omega]; exact toC _ r21
      · rw [show b = 22 * (y + 1) by omega, show a = 22 * y by omega]; exact hl
      · rw [show b = 22 * (y + 1) by omega, show a = 22 * (y - 1) + 21 by omega]; exact toC _ r22
      · rw [show b = 22 * y + 21 by omega, show a = 22 * y by omega]; exact up _ _ r21
end Go.Proofs.YtbdpngjakccjjaaDoor
