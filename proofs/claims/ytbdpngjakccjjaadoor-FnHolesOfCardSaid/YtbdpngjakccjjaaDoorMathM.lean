
/- Pieces: a further rectangle makes at most one more. -/
import Derived.Test.YtbdpngjakccjjaaDoorMathL
namespace Go.Proofs.YtbdpngjakccjjaaDoor

theorem cntP_le1 {t k : Nat} {P Q : Nat → Prop} (h : ∀ a, a < t → P a → Q a ∨ a = k) : cntP t P ≤ cntP t Q + 1 := by
  have sub : ∀ t, (∀ a, a < t → P a → Q a) → cntP t P ≤ cntP t Q := fun t => by
    induction t with
    | zero => intro _; exact Int.le_refl _
    | succ t ih =>
      intro h
      have := ih (fun a ha => h a (by omega))
      by_cases hp : P t
      · rw [cntP_yes hp, cntP_yes (h t (by omega) hp)]; omega
      · rw [cntP_no hp]
        by_cases hq : Q t
        · rw [cntP_yes hq]; omega
        · rw [cntP_no hq]; omega
  induction t with
  | zero => unfold cntP; simp [sumN]
  | succ t ih =>
    by_cases e : t = k
    · have := sub t (fun a ha hp => (h a (by omega) hp).elim id (fun x => by omega))
      have q : cntP t Q ≤ cntP (t + 1) Q := by
        by_cases hq : Q t
        · rw [cntP_yes hq]; omega
        · rw [cntP_no hq]; omega
      by_cases hp : P t
      · rw [cntP_yes hp]; omega
      · rw [cntP_no hp]; omega
    · have := ih (fun a ha => h a (by omega))
      by_cases hp : P t
      · rw [cntP_yes hp, cntP_yes ((h t (by omega) hp).elim id (fun x => absurd x e))]; omega
      · rw [cntP_no hp]
        by_cases hq : Q t
        · rw [cntP_yes hq]; omega
        · rw [cntP_no hq]; omega
/-- The least equivalence that has all links of a map. -/
structure Lst (G : Nat → Bool) (R : Nat → Nat → Prop) : Prop where
  eqv : Eqv R
  col : ∀ a b, R a b → G a = G b
  near : ∀ a b, b < 484 → Nbr G a b → R a b
  least : ∀ L, Eqv L → (∀ a b, b < 484 → Nbr G a b → L a b) → ∀ a b, R a b → L a b
theorem way_row {G : Nat → Bool} {R : Nat → Nat → Prop} (h : Lst G R) {a : Nat} (k : Nat) (hk : a + k < 484) (hg : ∀ i, i ≤ k → G (a + i) = true) : R a (a + k) := by
  induction k with
  | zero => exact h.eqv.refl _
  | succ k ih => exact h.eqv.trans _ _ _ (ih (by omega) (fun i hi => hg i (by omega))) (h.near _ _ (by omega) (Or.inl ⟨Or.inl (by omega), by rw [hg k (by omega), hg (k + 1) (by omega)]⟩))
theorem way_col {G : Nat → Bool} {R : Nat → Nat → Prop} (h : Lst G R) {a : Nat} (k : Nat) (hk : a + 22 * k < 484) (hg : ∀ i, i ≤ k → G (a + 22 * i) = true) : R a (a + 22 * k) := by
  induction k with
  | zero => exact h.eqv.refl _
  | succ k ih => exact h.eqv.trans _ _ _ (ih (by omega) (fun i hi => hg i (by omega))) (h.near _ _ (by omega) (Or.inl ⟨Or.inr (by omega), by rw [hg k (by omega), hg (k + 1) (by omega)]⟩))
/-- the rectangle's cell, told by its numbers in the map -/
theorem mapG_in {f : Nat → Rt} {n i x y : Nat} (hi : i < n) (hok : okB (f i) = true) (hx : (f i).l ≤ (x : Int) ∧ (x : Int) < (f i).r) (hy : (f i).o ≤ (y : Int) ∧ (y : Int) < (f i).h) : mapG f n (22 * (y + 1) + (x + 1)) = true := by
  obtain ⟨⟨p1, p2, p3⟩, q1, q2, q3⟩ := okB_iff.1 hok
  rw [mapG_at f n (x + 1) (y + 1) (by omega), show decide (1 ≤ x + 1 ∧ x + 1 ≤ 20 ∧ 1 ≤ y + 1 ∧ y + 1 ≤ 20) = true from decide_eq_true (by omega), Bool.true_and]
  exact (any_iff f _ _ n).2 ⟨i, hi, hasB_iff.2 (by omega)⟩
theorem rect_linked {f : Nat → Rt} {n i x y : Nat} {R : Nat → Nat → Prop} (h : Lst (mapG f n) R) (hi : i < n) (hok : okB (f i) = true) (hx : (f i).l ≤ (x : Int) ∧ (x : Int) < (f i).r) (hy : (f i).o ≤ (y : Int) ∧ (y : Int) < (f i).h) :
    R (22 * ((f i).o.toNat + 1) + ((f i).l.toNat + 1)) (22 * (y + 1) + (x + 1)) := by
  obtain ⟨⟨p1, p2, p3⟩, q1, q2, q3⟩ := okB_iff.1 hok
  generalize hl : (f i).l.toNat = l
  generalize ho : (f i).o.toNat = o
  have r1 := way_row h (a := 22 * (o + 1) + (l + 1)) (x - l) (by omega) (fun j hj => by
    rw [show 22 * (o + 1) + (l + 1) + j = 22 * (o + 1) + (l + j + 1) by omega]; exact mapG_in hi hok (by omega) (by omega))
  have r2 := way_col h (a := 22 * (o + 1) + (x + 1)) (y - o) (by omega) (fun j hj => by
    rw [show 22 * (o + 1) + (x + 1) + 22 * j = 22 * (o + j + 1) + (x + 1) by omega]; exact mapG_in hi hok (by omega) (by omega))
  rw [show 22 * (o + 1) + (l + 1) + (x - l) = 22 * (o + 1) + (x + 1) by omega] at r1
  rw [show 22 * (o + 1) + (x + 1) + 22 * (y - o) = 22 * (y + 1) + (x + 1) by omega] at r2
  exact h.eqv.trans _ _ _ r1 r2
theorem mapG_more {f : Nat → Rt} {n a : Nat} (h : mapG f n a = true) : mapG f (n + 1) a = true := by
  unfold mapG at h ⊢
  rw [Bool.and_eq_true] at h ⊢
  exact ⟨h.1, by simp only [anyTo]; rw [h.2]; rfl⟩
theorem mapG_last {f : Nat → Rt} {n a : Nat} (h : mapG f (n + 1) a = true) (h' : mapG f n a = false) :
    ∃ x y : Nat, a = 22 * (y + 1) + (x + 1) ∧ hasB (f n) x y = true := by
  unfold mapG at h h'
  rw [Bool.and_eq_true, decide_eq_true_iff] at h
  obtain ⟨h1, h2⟩ := h
  rw [decide_eq_true h1, Bool.true_and] at h'
  simp only [anyTo] at h2
  rw [h', Bool.false_or] at h2
  refine ⟨a % 22 - 1, a / 22 - 1, by omega, ?_⟩
  rw [show ((a % 22 - 1 : Nat) : Int) = ((a % 22 : Nat) : Int) - 1 by omega, show ((a / 22 - 1 : Nat) : Int) = ((a / 22 : Nat) : Int) - 1 by omega]
  exact h2
/-- With the last rectangle there is at most one piece more. -/
theorem pieces_step {f : Nat → Rt} {n : Nat} {R R' : Nat → Nat → Prop} (hR : Lst (mapG f n) R) (hR' : Lst (mapG f (n + 1)) R') (hok : okB (f n) = true) :
    pcs (mapG f (n + 1)) R' 484 ≤ pcs (mapG f n) R 484 + 1 := by
  have e := hR.eqv
  have e' := hR'.eqv
  have sub : ∀ a b, R a b → mapG f n a = true → R' a b := fun a b r g => by
    have := hR.least (fun a b => mapG f n a = mapG f n b ∧ (mapG f n a = true → R' a b))
      ⟨fun a => ⟨rfl, fun _ => e'.refl _⟩, fun a b h => ⟨h.1.symm, fun g => e'.symm _ _ (h.2 (h.1.trans g))⟩, fun a b c h k => ⟨h.1.trans k.1, fun g => e'.trans _ _ _ (h.2 g) (k.2 (h.1.symm.trans g))⟩⟩
      (fun a b hb hn => by
        rcases hn with ⟨h, g⟩ | ⟨h, g, g'⟩
        · exact ⟨g, fun ga => hR'.near _ _ hb (Or.inl ⟨h, by rw [mapG_more ga, mapG_more (g ▸ ga)]⟩)⟩
        · exact ⟨g.trans g'.symm, fun ga => by rw [g] at ga; exact absurd ga (by decide)⟩) a b r
    exact this.2 g
  obtain ⟨k, k1, k2, k3⟩ := rep_ex e' (22 * ((f n).o.toNat + 1) + ((f n).l.toNat + 1))
  unfold pcs
  refine cntP_le1 (k := k) fun a ha => ?_
  rintro ⟨g, hr⟩
  by_cases hz : R' (22 * ((f n).o.toNat + 1) + ((f n).l.toNat + 1)) a
  · exact Or.inr (rep_one e' hr k3 (e'.symm _ _ (e'.trans _ _ _ k2 hz)))
  · left
    have ga : mapG f n a = true := by
      cases hh : mapG f n a
      · exfalso
        obtain ⟨x, y, rfl, hb⟩ := mapG_last g hh
        have hb := hasB_iff.1 hb
        exact hz (rect_linked hR' (Nat.lt_succ_self n) hok ⟨hb.1, hb.2.1⟩ ⟨hb.2.2.1, hb.2.2.2⟩)
      · rfl
    refine ⟨ga, fun b hb r => hr b hb ?_⟩
    exact sub b a r ((hR.col _ _ r).trans ga)
theorem pieces_none {f : Nat → Rt} {R : Nat → Nat → Prop} : pcs (mapG f 0) R 484 = 0 := by
  unfold pcs cntP
  refine sum_none fun a _ => ?_
  have : mapG f 0 a = false := by unfold mapG; simp [anyTo]
  simp [this, one]
theorem pieces_some {f : Nat → Rt} {n : Nat} {R : Nat → Nat → Prop} (hR : Lst (mapG f (n + 1)) R) (hok : okB (f n) = true) : 1 ≤ pcs (mapG f (n + 1)) R 484 := by
  obtain ⟨⟨p1, p2, p3⟩, q1, q2, q3⟩ := okB_iff.1 hok
  obtain ⟨k, k1, k2, k3⟩ := rep_ex hR.eqv (22 * ((f n).o.toNat + 1) + ((f n).l.toNat + 1))
  have g : mapG f (n + 1) k = true := (hR.col _ _ k2).trans (mapG_in (Nat.lt_succ_self n) hok (by omega) (by omega))
  have z : cntP 484 (fun a => (mapG f (n + 1) a = true ∧ Rep R a) ∧ a ≠ k) = pcs (mapG f (n + 1)) R 484 - 1 := cntP_drop (by omega) ⟨g, k3⟩ (fun a _ => Iff.rfl)
  have : 0 ≤ cntP 484 (fun a => (mapG f (n + 1) a = true ∧ Rep R a) ∧ a ≠ k) := by unfold cntP; exact sumN_nonneg fun _ _ => one_nonneg _
  omega
end Go.Proofs.YtbdpngjakccjjaaDoor
