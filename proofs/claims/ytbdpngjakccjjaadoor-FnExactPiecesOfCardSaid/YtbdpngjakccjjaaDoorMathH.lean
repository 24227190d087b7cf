
/- One step of the scan: pieces less closed classes are the sum of what each cell adds. -/
import Derived.Test.YtbdpngjakccjjaaDoorMathG
namespace Go.Proofs.YtbdpngjakccjjaaDoor

/-- What the cell c adds: cells less pairs of neighbours and blocks of four. -/
def dchi (G : Nat → Bool) (c : Nat) : Int := one (G c) * (1 - one (G (c - 1)) - one (G (c - 22)) + one (G (c - 1)) * one (G (c - 22)) * one (G (c - 23)))
def chi (G : Nat → Bool) (t : Nat) : Int := sumN t (dchi G)
theorem chi_next (G : Nat → Bool) (y x : Nat) : chi G (22 * y + x + 1 + 1) = chi G (22 * y + x + 1) + one (G (22 * y + x + 1)) * (1 - one (G (fr y x x)) - one (G (fr y x (x + 2))) + one (G (fr y x x)) * one (G (fr y x (x + 2))) * one (G (fr y x (x + 1)))) := by
  rw [fr_w, fr_n, fr_nw]
  unfold chi
  simp only [sumN]
  unfold dchi
  rw [show 22 * y + x + 1 - 1 = 22 * y + x by omega, show 22 * y + x + 1 - 22 = 22 * y + x - 21 by omega, show 22 * y + x + 1 - 23 = 22 * y + x - 22 by omega]
structure St (G : Nat → Bool) (y x : Nat) (R : Nat → Nat → Prop) (M : Nat → Nat) : Prop where
  lk : Lk G y x R
  arcs : Arcs (Dg G y x) M
  inv : ∀ i j, i ≤ 22 → j ≤ 22 → (R (fr y x i) (fr y x j) ↔ Free (Dg G y x) M i j)
  cnt : pcs G R (22 * y + x + 1) - cls G y x R (22 * y + x + 1) = chi G (22 * y + x + 1)
/-- The links of the cell that comes are in L. -/
structure Ties (G : Nat → Bool) (y x : Nat) (L : Nat → Nat → Prop) : Prop where
  w : G (fr y x x) = G (22 * y + x + 1) → L (fr y x x) (22 * y + x + 1)
  n : G (fr y x (x + 2)) = G (22 * y + x + 1) → L (fr y x (x + 2)) (22 * y + x + 1)
  nw : G (fr y x (x + 1)) = false → G (22 * y + x + 1) = false → L (fr y x (x + 1)) (22 * y + x + 1)
  wn : G (fr y x x) = false → G (fr y x (x + 2)) = false → L (fr y x x) (fr y x (x + 2))
def Next (G : Nat → Bool) (y x : Nat) (R : Nat → Nat → Prop) : Prop :=
  ∃ R' M', St G y (x + 1) R' M' ∧ (∀ a b, R a b → R' a b) ∧ Ties G y x R' ∧
    ∀ L, Eqv L → Ties G y x L → (∀ a b, R a b → L a b) → ∀ a b, R' a b → L a b
theorem J_in {R L : Nat → Nat → Prop} (hL : Eqv L) (h : ∀ a b, R a b → L a b) {a b : Nat} (hab : L a b) : ∀ i j, J R a b i j → L i j := by
  rintro i j (r | ⟨r, u⟩ | ⟨r, u⟩)
  · exact h _ _ r
  · exact hL.trans _ _ _ (h _ _ r) (hL.trans _ _ _ hab (h _ _ u))
  · exact hL.trans _ _ _ (h _ _ r) (hL.trans _ _ _ (hL.symm _ _ hab) (h _ _ u))
theorem free_sw {D : Nat → Prop} {M : Nat → Nat} {k t : Nat} (h : Free D M t (k + 1)) (i j : Nat) : Free D M (sw k t i) (sw k t j) ↔ Free D M i j := by
  have e : ∀ i, Free D M (sw k t i) i := fun i => by
    unfold sw; split
    · next hi => rw [hi]; exact h
    · exact Free.rfl' _
  exact ⟨fun h' => (e i).symm.trans (h'.trans (e j)), fun h' => (e i).trans (h'.trans (e j).symm)⟩
theorem Dg_eq {G : Nat → Bool} {y x : Nat} (hx : x ≤ 20) (P : Nat → Prop) (h : ∀ e, e ≠ x → e ≠ x + 1 → (P e ↔ Dg G y x e)) (h0 : P x ↔ G (fr y x x) ≠ G (22 * y + x + 1)) (h1 : P (x + 1) ↔ G (22 * y + x + 1) ≠ G (fr y x (x + 2))) :
    Dg G y (x + 1) = P := by
  funext e
  refine propext ?_
  by_cases a : e = x
  · subst a; rw [h0]; unfold Dg; rw [fr_same (by omega), fr_next]; exact ⟨fun z => z.2, fun z => ⟨by omega, z⟩⟩
  by_cases b : e = x + 1
  · subst b; rw [h1]; unfold Dg; rw [fr_next, fr_same (by omega)]; exact ⟨fun z => z.2, fun z => ⟨by omega, z⟩⟩
  rw [h e a b, Dg_next _ _ _ _ a b]
theorem Dg_x {G : Nat → Bool} {y x : Nat} (hx : x ≤ 20) : Dg G y x x ↔ G (fr y x x) ≠ G (fr y x (x + 1)) := ⟨fun z => z.2, fun z => ⟨by omega, z⟩⟩
theorem Dg_x1 {G : Nat → Bool} {y x : Nat} (hx : x ≤ 20) : Dg G y x (x + 1) ↔ G (fr y x (x + 1)) ≠ G (fr y x (x + 2)) := ⟨fun z => z.2, fun z => ⟨by omega, z⟩⟩
theorem sw_le {k t i : Nat} (ht : t ≤ 22) (hi : i ≤ 22) : sw k t i ≤ 22 := by unfold sw; split <;> omega

/-- The cell is linked to the place s, and nothing else is new. -/
theorem next_tie {G : Nat → Bool} {y x : Nat} {R : Nat → Nat → Prop} {M M' : Nat → Nat} (S : St G y x R M) {s p : Nat} (hs : s ≤ 22)
    (hG : G (fr y x s) = G (22 * y + x + 1)) (hp : p ≤ 22) (hpx : sw x s p = p) (hR : R (fr y x p) (fr y x (x + 1)))
    (hA : Arcs (Dg G y (x + 1)) M') (hF : ∀ i j, Free (Dg G y (x + 1)) M' i j ↔ Free (Dg G y x) M (sw x s i) (sw x s j))
    (hchi : one (G (22 * y + x + 1)) * (1 - one (G (fr y x x)) - one (G (fr y x (x + 2))) + one (G (fr y x x)) * one (G (fr y x (x + 2))) * one (G (fr y x (x + 1)))) = 0)
    (hT : Ties G y x (J R (fr y x s) (22 * y + x + 1)))
    (hL : ∀ L, Eqv L → Ties G y x L → L (fr y x s) (22 * y + x + 1)) : Next G y x R := by
  obtain ⟨t1, t2, t3⟩ := S.lk.tie hs hG
  refine ⟨_, M', ⟨t1, hA, ?_, ?_⟩, fun a b r => Or.inl r, hT, fun L h1 h2 h3 => J_in h1 h3 (hL L h1 h2)⟩
  · intro i j hi hj
    rw [t2 i j hi hj, S.inv _ _ (sw_le hs hi) (sw_le hs hj), hF]
  · show pcs G _ (22 * y + x + 1 + 1) - cls G y (x + 1) _ (22 * y + x + 1 + 1) = chi G (22 * y + x + 1 + 1)
    rw [pcs_tie S.lk hs, cls_tie S.lk hs hG p hp hpx hR, S.cnt, chi_next, hchi, Int.add_zero]
/-- West and north differ. -/
theorem next_side {G : Nat → Bool} {y x : Nat} {R : Nat → Nat → Prop} {M : Nat → Nat} (S : St G y x R M) (hx : x ≤ 20) (h : G (fr y x x) ≠ G (fr y x (x + 2))) : Next G y x R := by
  have dx := Dg_x (G := G) (y := y) hx
  have dx1 := Dg_x1 (G := G) (y := y) hx
  have hchi : one (G (22 * y + x + 1)) * (1 - one (G (fr y x x)) - one (G (fr y x (x + 2))) + one (G (fr y x x)) * one (G (fr y x (x + 2))) * one (G (fr y x (x + 1)))) = 0 := by
    revert h; cases G (fr y x x) <;> cases G (fr y x (x + 2)) <;> cases G (fr y x (x + 1)) <;> cases G (22 * y + x + 1) <;> decide
  have e := S.lk.eqv
  have lkw : G (fr y x x) = G (fr y x (x + 1)) → R (fr y x x) (fr y x (x + 1)) := fun hg => (S.inv _ _ (by omega) (by omega)).2 (free_next S.arcs (by rw [dx]; exact fun z => z hg))
  have lkn : G (fr y x (x + 1)) = G (fr y x (x + 2)) → R (fr y x (x + 2)) (fr y x (x + 1)) := fun hg => e.symm _ _ ((S.inv _ _ (by omega) (by omega)).2 (free_next S.arcs (by rw [dx1]; exact fun z => z hg)))
  have bool3 : ∀ a b c : Bool, a ≠ b → c ≠ a → c = b := by decide
  by_cases hv : G (fr y x x) = G (22 * y + x + 1)
  · have hvn : G (fr y x (x + 2)) ≠ G (22 * y + x + 1) := fun z => h (hv.trans z.symm)
    have hT : Ties G y x (J R (fr y x x) (22 * y + x + 1)) := by
      have hl := J_link e (fr y x x) (22 * y + x + 1)
      refine ⟨fun _ => hl, fun z => absurd z hvn, fun a b => ?_, fun a b => absurd (a.trans b.symm) h⟩
      exact (J_eqv e _ _).trans _ _ _ (Or.inl (e.symm _ _ (lkw (by rw [a, hv, b])))) hl
    by_cases hn : G (fr y x x) = G (fr y x (x + 1))
    · have hD : Dg G y (x + 1) = Dg G y x := Dg_eq hx _ (fun _ _ _ => Iff.rfl) (by rw [dx, hn, ← hv, hn]) (by rw [dx1, ← hn, hv])
      refine next_tie S (s := x) (p := x) (by omega) hv (by omega) (sw_else (by omega)) (lkw hn) (M' := M) (hD ▸ S.arcs) (fun i j => ?_) hchi hT (fun L _ h2 => h2.w hv)
      rw [hD]; exact (free_sw (free_next S.arcs (by rw [dx]; exact fun z => z hn)) i j).symm
    · have hn2 : G (fr y x (x + 1)) = G (fr y x (x + 2)) := bool3 _ _ _ h (Ne.symm hn)
      obtain ⟨s1, s2⟩ := slide (a := x) (a' := x + 1) (t := x) S.arcs (Or.inl ⟨rfl, rfl, rfl⟩) (dx.2 hn) (by rw [dx1]; exact fun z => z hn2)
      have hD : Dg G y (x + 1) = (fun e => (Dg G y x e ∧ e ≠ x) ∨ e = x + 1) := Dg_eq hx _ (fun e a b => ⟨fun z => z.elim (fun u => u.1) (fun u => absurd u b), fun z => Or.inl ⟨z, a⟩⟩)
        ⟨fun z => z.elim (fun u => absurd rfl u.2) (fun u => by omega), fun z => absurd hv z⟩ ⟨fun _ => Ne.symm hvn, fun _ => Or.inr rfl⟩
      exact next_tie S (s := x) (p := x + 2) (by omega) hv (by omega) (sw_else (by omega)) (lkn hn2) (hD ▸ s1) (fun i j => by rw [hD]; exact s2 i j) hchi hT (fun L _ h2 => h2.w hv)
  · have hvn : G (fr y x (x + 2)) = G (22 * y + x + 1) := (bool3 _ _ _ h (Ne.symm hv)).symm
    have hT : Ties G y x (J R (fr y x (x + 2)) (22 * y + x + 1)) := by
      have hl := J_link e (fr y x (x + 2)) (22 * y + x + 1)
      refine ⟨fun z => absurd z hv, fun _ => hl, fun a b => ?_, fun a b => absurd (a.trans b.symm) h⟩
      exact (J_eqv e _ _).trans _ _ _ (Or.inl (e.symm _ _ (lkn (by rw [a, hvn, b])))) hl
    by_cases hn : G (fr y x (x + 1)) = G (fr y x (x + 2))
    · have hD : Dg G y (x + 1) = Dg G y x := Dg_eq hx _ (fun _ _ _ => Iff.rfl) (by rw [dx, hn, hvn]) (by rw [dx1, hn, hvn])
      refine next_tie S (s := x + 2) (p := x + 2) (by omega) hvn (by omega) (sw_else (by omega)) (lkn hn) (M' := M) (hD ▸ S.arcs) (fun i j => ?_) hchi hT (fun L _ h2 => h2.n hvn)
      rw [hD]; exact (free_sw (free_next S.arcs (by rw [dx1]; exact fun z => z hn)).symm i j).symm
    · have hn2 : G (fr y x x) = G (fr y x (x + 1)) := (bool3 _ _ _ (Ne.symm h) hn).symm
      obtain ⟨s1, s2⟩ := slide (a := x + 1) (a' := x) (t := x + 2) S.arcs (Or.inr ⟨rfl, rfl, rfl⟩) (dx1.2 hn) (by rw [dx]; exact fun z => z hn2)
      have hD : Dg G y (x + 1) = (fun e => (Dg G y x e ∧ e ≠ x + 1) ∨ e = x) := Dg_eq hx _ (fun e a b => ⟨fun z => z.elim (fun u => u.1) (fun u => absurd u a), fun z => Or.inl ⟨z, b⟩⟩)
        ⟨fun _ => hv, fun _ => Or.inr rfl⟩ ⟨fun z => z.elim (fun u => absurd rfl u.2) (fun u => by omega), fun z => absurd hvn.symm z⟩
      exact next_tie S (s := x + 2) (p := x) (by omega) hvn (by omega) (sw_else (by omega)) (lkw hn2) (hD ▸ s1) (fun i j => by rw [hD]; exact s2 i j) hchi hT (fun L _ h2 => h2.n hvn)

theorem lk_w {G : Nat → Bool} {y x : Nat} {R : Nat → Nat → Prop} {M : Nat → Nat} (S : St G y x R M) (hx : x ≤ 20) (hg : G (fr y x x) = G (fr y x (x + 1))) : R (fr y x x) (fr y x (x + 1)) :=
  (S.inv _ _ (by omega) (by omega)).2 (free_next S.arcs (by rw [Dg_x hx]; exact fun z => z hg))
theorem lk_n {G : Nat → Bool} {y x : Nat} {R : Nat → Nat → Prop} {M : Nat → Nat} (S : St G y x R M) (hx : x ≤ 20) (hg : G (fr y x (x + 1)) = G (fr y x (x + 2))) : R (fr y x (x + 1)) (fr y x (x + 2)) :=
  (S.inv _ _ (by omega) (by omega)).2 (free_next S.arcs (by rw [Dg_x1 hx]; exact fun z => z hg))
/-- All of one colour, or the corner's link alone. -/
theorem next_flat {G : Nat → Bool} {y x : Nat} {R : Nat → Nat → Prop} {M : Nat → Nat} (S : St G y x R M) (hx : x ≤ 20) (h : G (fr y x x) = G (fr y x (x + 2))) (hn : G (fr y x x) = G (fr y x (x + 1)))
    (hv : G (fr y x x) = G (22 * y + x + 1)) : Next G y x R := by
  have e := S.lk.eqv
  have dx := Dg_x (G := G) (y := y) hx
  have dx1 := Dg_x1 (G := G) (y := y) hx
  have l1 := lk_w S hx hn
  have l2 := lk_n S hx (hn.symm.trans h)
  have hchi : one (G (22 * y + x + 1)) * (1 - one (G (fr y x x)) - one (G (fr y x (x + 2))) + one (G (fr y x x)) * one (G (fr y x (x + 2))) * one (G (fr y x (x + 1)))) = 0 := by
    rw [← h, ← hn, ← hv]; cases G (fr y x x) <;> decide
  have hT : Ties G y x (J R (fr y x x) (22 * y + x + 1)) := by
    have hl := J_link e (fr y x x) (22 * y + x + 1)
    have eJ := J_eqv e (fr y x x) (22 * y + x + 1)
    exact ⟨fun _ => hl, fun _ => eJ.trans _ _ _ (Or.inl (e.symm _ _ (e.trans _ _ _ l1 l2))) hl, fun _ _ => eJ.trans _ _ _ (Or.inl (e.symm _ _ l1)) hl, fun _ _ => Or.inl (e.trans _ _ _ l1 l2)⟩
  have hD : Dg G y (x + 1) = Dg G y x := Dg_eq hx _ (fun _ _ _ => Iff.rfl) (by rw [dx, ← hn, ← hv]) (by rw [dx1, ← hn, ← hv])
  refine next_tie S (s := x) (p := x) (by omega) hv (by omega) (sw_else (by omega)) l1 (M' := M) (hD ▸ S.arcs) (fun i j => ?_) hchi hT (fun L _ h2 => h2.w hv)
  rw [hD]; exact (free_sw (free_next S.arcs (by rw [dx]; exact fun z => z hn)) i j).symm
theorem next_corner {G : Nat → Bool} {y x : Nat} {R : Nat → Nat → Prop} {M : Nat → Nat} (S : St G y x R M) (hx : x ≤ 20) (h : G (fr y x x) = true) (h2 : G (fr y x (x + 2)) = true) (hn : G (fr y x (x + 1)) = false)
    (hv : G (22 * y + x + 1) = false) : Next G y x R := by
  have e := S.lk.eqv
  have dx := Dg_x (G := G) (y := y) hx
  have dx1 := Dg_x1 (G := G) (y := y) hx
  have hT : Ties G y x (J R (fr y x (x + 1)) (22 * y + x + 1)) :=
    ⟨fun z => by rw [h, hv] at z; exact absurd z (by decide), fun z => by rw [h2, hv] at z; exact absurd z (by decide), fun _ _ => J_link e _ _, fun z => by rw [h] at z; exact absurd z (by decide)⟩
  have hD : Dg G y (x + 1) = Dg G y x := Dg_eq hx _ (fun _ _ _ => Iff.rfl) (by rw [dx, hn, hv]) (by rw [dx1, hn, hv])
  have sid : ∀ i, sw x (x + 1) i = i := fun i => by unfold sw; split <;> omega
  refine next_tie S (s := x + 1) (p := x + 1) (by omega) (hn.trans hv.symm) (by omega) (sid _) (e.refl _) (M' := M) (hD ▸ S.arcs) (fun i j => ?_) (by rw [hv]; simp [one]) hT (fun L _ h2 => h2.nw hn hv)
  rw [hD, sid, sid]
/-- A new class begins. -/
theorem next_new {G : Nat → Bool} {y x : Nat} {R : Nat → Nat → Prop} {M : Nat → Nat} (S : St G y x R M) (hx : x ≤ 20) (h : G (fr y x x) = G (fr y x (x + 2))) (hn : G (fr y x x) = G (fr y x (x + 1)))
    (hv : G (fr y x x) ≠ G (22 * y + x + 1)) : Next G y x R := by
  have e := S.lk.eqv
  have dx := Dg_x (G := G) (y := y) hx
  have dx1 := Dg_x1 (G := G) (y := y) hx
  have l1 := lk_w S hx hn
  have l2 := lk_n S hx (hn.symm.trans h)
  obtain ⟨t1, t2, _⟩ := S.lk.new
  obtain ⟨c1, c2⟩ := cup (k := x) S.arcs (by rw [dx]; exact fun z => z hn) (by rw [dx1]; exact fun z => z (hn.symm.trans h))
  have hD : Dg G y (x + 1) = (fun e => Dg G y x e ∨ e = x ∨ e = x + 1) := Dg_eq hx _ (fun e a b => ⟨fun z => z.elim id (fun u => u.elim (fun u => absurd u a) (fun u => absurd u b)), Or.inl⟩)
    ⟨fun _ => hv, fun _ => Or.inr (Or.inl rfl)⟩ ⟨fun _ z => hv (h.trans z.symm), fun _ => Or.inr (Or.inr rfl)⟩
  refine ⟨R, cupM M x, ⟨t1, hD ▸ c1, fun i j hi hj => ?_, ?_⟩, fun _ _ r => r, ⟨fun z => absurd z hv, fun z => absurd (h.trans z) hv, fun a b => absurd (hn.trans (a.trans b.symm)) hv, fun _ _ => e.trans _ _ _ l1 l2⟩, fun L _ _ h3 => h3⟩
  · rw [t2 i j hi hj, hD, c2, S.inv i j hi hj]
  · show pcs G _ (22 * y + x + 1 + 1) - cls G y (x + 1) _ (22 * y + x + 1 + 1) = chi G (22 * y + x + 1 + 1)
    rw [pcs_new S.lk, cls_new S.lk hx (fun _ => ⟨x, by omega, by omega, l1⟩), chi_next, ← S.cnt]
    have : one (G (22 * y + x + 1)) * (1 - one (G (fr y x x)) - one (G (fr y x (x + 2))) + one (G (fr y x x)) * one (G (fr y x (x + 2))) * one (G (fr y x (x + 1)))) = one (G (22 * y + x + 1)) := by
      rw [← h, ← hn]; revert hv; cases G (fr y x x) <;> cases G (22 * y + x + 1) <;> decide
    rw [this]; omega
/-- The corner is closed off. -/
theorem next_shut {G : Nat → Bool} {y x : Nat} {R : Nat → Nat → Prop} {M : Nat → Nat} (S : St G y x R M) (hx : x ≤ 20) (h : G (fr y x x) = G (fr y x (x + 2))) (hn : G (fr y x x) ≠ G (fr y x (x + 1)))
    (hv : G (fr y x x) = G (22 * y + x + 1)) : Next G y x R := by
  have e := S.lk.eqv
  have dx := (Dg_x (G := G) (y := y) hx).2 hn
  have dx1 := (Dg_x1 (G := G) (y := y) hx).2 (fun z => hn (h.trans z.symm))
  obtain ⟨t1, t2, t3⟩ := S.lk.tie (s := x) (by omega) hv
  have hD : Dg G y (x + 1) = (fun e => Dg G y x e ∧ e ≠ x ∧ e ≠ x + 1) := Dg_eq hx _ (fun e a b => ⟨fun z => z.1, fun z => ⟨z, a, b⟩⟩)
    ⟨fun z => absurd rfl z.2.1, fun z => absurd hv z⟩ ⟨fun z => absurd rfl z.2.2, fun z => absurd (hv.symm.trans h) z⟩
  have sne : ∀ i, sw x x i ≠ x + 1 := fun i => by unfold sw; split <;> omega
  have hl := J_link e (fr y x x) (22 * y + x + 1)
  have eJ := J_eqv e (fr y x x) (22 * y + x + 1)
  have col : ∀ a b c : Bool, a ≠ b → a = c → b = false → c = false → False := by decide
  by_cases hm : M x = x + 1
  · obtain ⟨c1, c2, c3, c4⟩ := cap_own S.arcs dx hm
    have lwn : R (fr y x x) (fr y x (x + 2)) := (S.inv _ _ (by omega) (by omega)).2 c2
    refine ⟨_, M, ⟨t1, hD ▸ c1, fun i j hi hj => ?_, ?_⟩, fun _ _ r => Or.inl r,
      ⟨fun _ => hl, fun _ => eJ.trans _ _ _ (Or.inl (e.symm _ _ lwn)) hl, fun a b => (col _ _ _ hn hv a b).elim, fun _ _ => Or.inl lwn⟩, fun L h1 h2 h3 => J_in h1 h3 (h2.w hv)⟩
    · rw [t2 i j hi hj, S.inv _ _ (sw_le (by omega) hi) (sw_le (by omega) hj), ← c3 _ _ (sne i) (sne j), hD]
      exact free_sw (free_next c1 (fun z => z.2.1 rfl)) i j
    · show pcs G _ (22 * y + x + 1 + 1) - cls G y (x + 1) _ (22 * y + x + 1 + 1) = chi G (22 * y + x + 1 + 1)
      rw [pcs_tie S.lk (by omega), cls_shut S.lk hx (s := x) (by omega) (by omega) hv (fun p hp hpx hr => c4 p hpx ((S.inv _ _ hp (by omega)).1 hr)), chi_next, ← S.cnt, ← h, ← hv]
      revert hn; cases G (fr y x x) <;> cases G (fr y x (x + 1)) <;> simp [one] <;> omega
  · obtain ⟨c1, c2, c3⟩ := cap_two S.arcs dx dx1 hm
    obtain ⟨l1, l2, l3⟩ := cap_left S.arcs dx hm
    have f0 : fr y (x + 1) x = fr y x x := fr_same (by omega)
    have f2 : fr y (x + 1) (x + 2) = fr y x (x + 2) := fr_same (by omega)
    have hG2 : G (fr y (x + 1) x) = G (fr y (x + 1) (x + 2)) := by rw [f0, f2]; exact h
    have s0 : sw x x x = x := sw_else (by omega)
    have s2 : sw x x (x + 2) = x + 2 := sw_else (by omega)
    obtain ⟨j1, _⟩ := t1.join (s := x) (t := x + 2) (by omega) (by omega) hG2
    have hTn : ¬ J R (fr y x x) (22 * y + x + 1) (fr y (x + 1) x) (fr y (x + 1) (x + 2)) := by
      rw [t2 _ _ (by omega) (by omega), s0, s2, S.inv _ _ (by omega) (by omega)]; exact c2
    obtain ⟨k1, k2⟩ := cnt_link t1 (s := x) (t := x + 2) (by omega) (by omega) hG2 hTn
    have eJ2 := J_eqv eJ (fr y (x + 1) x) (fr y (x + 1) (x + 2))
    have hl2 := J_link eJ (fr y (x + 1) x) (fr y (x + 1) (x + 2))
    have up := fun a b (r : J R (fr y x x) (22 * y + x + 1) a b) => (Or.inl r : J (J R (fr y x x) (22 * y + x + 1)) (fr y (x + 1) x) (fr y (x + 1) (x + 2)) a b)
    refine ⟨_, capM M x, ⟨j1, hD ▸ c1, fun i j hi hj => ?_, ?_⟩, fun _ _ r => Or.inl (Or.inl r),
      ⟨fun _ => up _ _ hl, fun _ => eJ2.trans _ _ _ (by rw [f0, f2] at hl2 ⊢; exact (f0 ▸ f2 ▸ eJ2).symm _ _ hl2) (up _ _ hl), fun a b => (col _ _ _ hn hv a b).elim, fun _ _ => by rw [f0, f2] at hl2 ⊢; exact hl2⟩,
      fun L h1 h2 h3 => J_in h1 (J_in h1 h3 (h2.w hv)) ?_⟩
    · unfold J
      show (J R (fr y x x) (22 * y + x + 1) _ _ ∨ (J R (fr y x x) (22 * y + x + 1) _ _ ∧ J R (fr y x x) (22 * y + x + 1) _ _) ∨ (J R (fr y x x) (22 * y + x + 1) _ _ ∧ J R (fr y x x) (22 * y + x + 1) _ _)) ↔ _
      rw [t2 i j hi hj, t2 i x hi (by omega), t2 (x + 2) j (by omega) hj, t2 i (x + 2) hi (by omega), t2 x j (by omega) hj, s0, s2]
      have li := sw_le (k := x) (t := x) (by omega) hi
      have lj := sw_le (k := x) (t := x) (by omega) hj
      rw [S.inv _ _ li lj, S.inv _ _ li (by omega), S.inv _ _ (by omega) lj, S.inv _ _ li (by omega), S.inv _ _ (by omega) lj, ← c3 _ _ (sne i) (sne j), hD]
      exact free_sw (free_next c1 (fun z => z.2.1 rfl)) i j
    · show pcs G _ (22 * y + (x + 1) + 1) - cls G y (x + 1) _ (22 * y + (x + 1) + 1) = chi G (22 * y + x + 1 + 1)
      have hp : M x ≤ 22 := by have := l1.1; omega
      rw [k1, k2]
      show pcs G _ (22 * y + x + 1 + 1) - one (G (fr y (x + 1) x)) - cls G y (x + 1) _ (22 * y + x + 1 + 1) = chi G (22 * y + x + 1 + 1)
      rw [pcs_tie S.lk (by omega), cls_tie S.lk (s := x) (by omega) hv (M x) hp (sw_else l2) ((S.inv _ _ hp (by omega)).2 l3), chi_next, ← S.cnt, ← h, ← hv, f0]
      revert hn; cases G (fr y x x) <;> cases G (fr y x (x + 1)) <;> simp [one] <;> omega
    · rw [f0, f2]
      cases hc : G (fr y x x)
      · exact h2.wn hc (h ▸ hc)
      · exact h1.trans _ _ _ (h2.w hv) (h1.symm _ _ (h2.n (h.symm.trans hv)))

/-- The corner is closed off, and a new class begins. -/
theorem next_turn {G : Nat → Bool} {y x : Nat} {R : Nat → Nat → Prop} {M : Nat → Nat} (S : St G y x R M) (hx : x ≤ 20) (h : G (fr y x x) = false) (h2 : G (fr y x (x + 2)) = false) (hn : G (fr y x (x + 1)) = true)
    (hv : G (22 * y + x + 1) = true) : Next G y x R := by
  have e := S.lk.eqv
  have dx := (Dg_x (G := G) (y := y) hx).2 (by rw [h, hn]; decide)
  have dx1 := (Dg_x1 (G := G) (y := y) hx).2 (by rw [h2, hn]; decide)
  obtain ⟨t1, t2, _⟩ := S.lk.new
  have hD2 : ∀ D2 : Nat → Prop, (∀ e, D2 e ↔ Dg G y x e ∧ e ≠ x ∧ e ≠ x + 1) → Dg G y (x + 1) = (fun e => D2 e ∨ e = x ∨ e = x + 1) := fun D2 hd => Dg_eq hx _
    (fun e a b => ⟨fun z => z.elim (fun u => ((hd e).1 u).1) (fun u => u.elim (fun u => absurd u a) (fun u => absurd u b)), fun z => Or.inl ((hd e).2 ⟨z, a, b⟩)⟩)
    ⟨fun _ => by rw [h, hv]; decide, fun _ => Or.inr (Or.inl rfl)⟩ ⟨fun _ => by rw [h2, hv]; decide, fun _ => Or.inr (Or.inr rfl)⟩
  have hD := hD2 (fun e => Dg G y x e ∧ e ≠ x ∧ e ≠ x + 1) (fun _ => Iff.rfl)
  have n0 : ¬ (fun e => Dg G y x e ∧ e ≠ x ∧ e ≠ x + 1) x := fun z => z.2.1 rfl
  have n1 : ¬ (fun e => Dg G y x e ∧ e ≠ x ∧ e ≠ x + 1) (x + 1) := fun z => z.2.2 rfl
  have ties : ∀ L : Nat → Nat → Prop, L (fr y x x) (fr y x (x + 2)) → Ties G y x L := fun L hl =>
    ⟨fun z => by rw [h, hv] at z; exact absurd z (by decide), fun z => by rw [h2, hv] at z; exact absurd z (by decide), fun z => by rw [hn] at z; exact absurd z (by decide), fun _ _ => hl⟩
  have hchi : one (G (22 * y + x + 1)) * (1 - one (G (fr y x x)) - one (G (fr y x (x + 2))) + one (G (fr y x x)) * one (G (fr y x (x + 2))) * one (G (fr y x (x + 1)))) = 1 := by
    rw [h, h2, hn, hv]; decide
  have hcl := cls_new S.lk hx (fun z => by rw [hn] at z; exact absurd z (by decide))
  have hpc := pcs_new (G := G) S.lk
  rw [hv, show one true = 1 from rfl] at hpc
  by_cases hm : M x = x + 1
  · obtain ⟨c1, c2, c3, c4⟩ := cap_own S.arcs dx hm
    obtain ⟨d1, d2⟩ := cup c1 n0 n1
    have lwn : R (fr y x x) (fr y x (x + 2)) := (S.inv _ _ (by omega) (by omega)).2 c2
    refine ⟨R, cupM M x, ⟨t1, hD ▸ d1, fun i j hi hj => ?_, ?_⟩, fun _ _ r => r, ties R lwn, fun L _ _ h3 => h3⟩
    · rw [t2 i j hi hj, hD, d2]
      refine and_congr_right fun hij => ?_
      constructor
      · intro hr hi'; exact (c3 i j hi' (fun z => hi' (hij.2 z))).2 ((S.inv i j hi hj).1 (hr hi'))
      · intro hr hi'; exact (S.inv i j hi hj).2 ((c3 i j hi' (fun z => hi' (hij.2 z))).1 (hr hi'))
    · show pcs G _ (22 * y + x + 1 + 1) - cls G y (x + 1) _ (22 * y + x + 1 + 1) = chi G (22 * y + x + 1 + 1)
      rw [hpc, hcl, chi_next, ← S.cnt, hchi]; omega
  · obtain ⟨c1, c2, c3⟩ := cap_two S.arcs dx dx1 hm
    obtain ⟨d1, d2⟩ := cup c1 n0 n1
    have f0 : fr y (x + 1) x = fr y x x := fr_same (by omega)
    have f2 : fr y (x + 1) (x + 2) = fr y x (x + 2) := fr_same (by omega)
    have hG2 : G (fr y (x + 1) x) = G (fr y (x + 1) (x + 2)) := by rw [f0, f2, h, h2]
    obtain ⟨j1, _⟩ := t1.join (s := x) (t := x + 2) (by omega) (by omega) hG2
    have hTn : ¬ R (fr y (x + 1) x) (fr y (x + 1) (x + 2)) := by
      rw [f0, f2, S.inv _ _ (by omega) (by omega)]; exact c2
    obtain ⟨k1, k2⟩ := cnt_link t1 (s := x) (t := x + 2) (by omega) (by omega) hG2 hTn
    have hl2 := J_link e (fr y (x + 1) x) (fr y (x + 1) (x + 2))
    refine ⟨_, cupM (capM M x) x, ⟨j1, hD ▸ d1, fun i j hi hj => ?_, ?_⟩, fun _ _ r => Or.inl r, ties _ (by rw [f0, f2] at hl2 ⊢; exact hl2),
      fun L h1 h3 h4 => J_in h1 h4 (by rw [f0, f2]; exact h3.wn h h2)⟩
    · unfold J
      rw [t2 i j hi hj, t2 i x hi (by omega), t2 (x + 2) j (by omega) hj, t2 i (x + 2) hi (by omega), t2 x j (by omega) hj, hD, d2]
      rw [S.inv i j hi hj, S.inv i x hi (by omega), S.inv (x + 2) j (by omega) hj, S.inv i (x + 2) hi (by omega), S.inv x j (by omega) hj]
      by_cases hi' : i = x + 1 <;> by_cases hj' : j = x + 1
      · simp [hi', hj']
      · simp [hi', hj']
      · simp [hi', hj']
      · rw [c3 i j hi' hj']
        simp [hi', hj']
    · show pcs G _ (22 * y + (x + 1) + 1) - cls G y (x + 1) _ (22 * y + (x + 1) + 1) = chi G (22 * y + x + 1 + 1)
      rw [k1, k2, f0, h]
      show pcs G _ (22 * y + x + 1 + 1) - one false - cls G y (x + 1) _ (22 * y + x + 1 + 1) = chi G (22 * y + x + 1 + 1)
      rw [hpc, hcl, chi_next, ← S.cnt, hchi]; simp [one]; omega
/-- One step of the scan. -/
theorem next_all {G : Nat → Bool} {y x : Nat} {R : Nat → Nat → Prop} {M : Nat → Nat} (S : St G y x R M) (hx : x ≤ 20) : Next G y x R := by
  have b1 : ∀ a b : Bool, a ≠ b → a = false → b = true := by decide
  have b2 : ∀ a b : Bool, a ≠ b → a = true → b = false := by decide
  by_cases h : G (fr y x x) = G (fr y x (x + 2))
  · by_cases hn : G (fr y x x) = G (fr y x (x + 1)) <;> by_cases hv : G (fr y x x) = G (22 * y + x + 1)
    · exact next_flat S hx h hn hv
    · exact next_new S hx h hn hv
    · exact next_shut S hx h hn hv
    · cases hw : G (fr y x x)
      · exact next_turn S hx hw (h ▸ hw) (b1 _ _ hn hw) (b1 _ _ hv hw)
      · exact next_corner S hx hw (h ▸ hw) (b2 _ _ hn hw) (b2 _ _ hv hw)
  · exact next_side S hx h
end Go.Proofs.YtbdpngjakccjjaaDoor
