
/- The scan of the map, cell by cell: the frontier, and what is linked on it. -/
import Derived.Test.YtbdpngjakccjjaaDoorMathE
import Derived.Test.YtbdpngjakccjjaaDoorMathF
namespace Go.Proofs.YtbdpngjakccjjaaDoor

/-- The cell at the frontier's place j when all cells up to 22 y + x have come. -/
def fr (y x j : Nat) : Nat := if j ≤ x then 22 * y + j else 22 * y + j - 23
theorem fr_next (y x : Nat) : fr y (x + 1) (x + 1) = 22 * y + x + 1 := by unfold fr; rw [if_pos (by omega)]; omega
theorem fr_same {y x j : Nat} (h : j ≠ x + 1) : fr y (x + 1) j = fr y x j := by unfold fr; split <;> split <;> omega
theorem fr_le {y x j : Nat} (hj : j ≤ 22) : fr y x j ≤ 22 * y + x := by unfold fr; split <;> omega
theorem fr_w (y x : Nat) : fr y x x = 22 * y + x := by unfold fr; rw [if_pos (Nat.le_refl _)]
theorem fr_nw (y x : Nat) : fr y x (x + 1) = 22 * y + x - 22 := by unfold fr; rw [if_neg (by omega)]; omega
theorem fr_n (y x : Nat) : fr y x (x + 2) = 22 * y + x - 21 := by unfold fr; rw [if_neg (by omega)]; omega
/-- a change of colour between the places e and e + 1 -/
def Dg (G : Nat → Bool) (y x e : Nat) : Prop := e < 22 ∧ G (fr y x e) ≠ G (fr y x (e + 1))
/-- a's class has left the frontier -/
def Cl (y x : Nat) (R : Nat → Nat → Prop) (a : Nat) : Prop := ∀ i, i ≤ 22 → ¬ R (fr y x i) a
/-- The frontier's changes behind a flip. -/
theorem Dg_next (G : Nat → Bool) (y x e : Nat) (h0 : e ≠ x) (h1 : e ≠ x + 1) : Dg G y (x + 1) e ↔ Dg G y x e := by
  unfold Dg; rw [fr_same (by omega), fr_same (by omega)]
theorem Dg_w (G : Nat → Bool) (y x : Nat) (hx : x ≤ 20) : Dg G y x x ↔ G (22 * y + x) ≠ G (22 * y + x - 22) := by
  unfold Dg; rw [fr_w, fr_nw]; exact ⟨fun h => h.2, fun h => ⟨by omega, h⟩⟩
theorem Dg_n (G : Nat → Bool) (y x : Nat) (hx : x ≤ 20) : Dg G y x (x + 1) ↔ G (22 * y + x - 22) ≠ G (22 * y + x - 21) := by
  unfold Dg; rw [fr_n, fr_nw]; exact ⟨fun h => h.2, fun h => ⟨by omega, h⟩⟩
theorem Dg_w' (G : Nat → Bool) (y x : Nat) (hx : x ≤ 20) : Dg G y (x + 1) x ↔ G (22 * y + x) ≠ G (22 * y + x + 1) := by
  unfold Dg; rw [fr_same (by omega), fr_w, fr_next]; exact ⟨fun h => h.2, fun h => ⟨by omega, h⟩⟩
theorem Dg_n' (G : Nat → Bool) (y x : Nat) (hx : x ≤ 20) : Dg G y (x + 1) (x + 1) ↔ G (22 * y + x + 1) ≠ G (22 * y + x - 21) := by
  unfold Dg; rw [fr_next, fr_same (by omega), fr_n]; exact ⟨fun h => h.2, fun h => ⟨by omega, h⟩⟩
/-- no change between two neighbours: nothing separates them -/
theorem free_next {D : Nat → Prop} {M : Nat → Nat} {k : Nat} (hA : Arcs D M) (h : ¬ D k) : Free D M k (k + 1) := fun e he =>
  (und_step e (M e) k (fun x => h (x ▸ he)) (fun x => h (x ▸ hA.dom e he))).symm

/-- What holds when all cells up to 22 y + x have come. -/
structure Lk (G : Nat → Bool) (y x : Nat) (R : Nat → Nat → Prop) : Prop where
  eqv : Eqv R
  col : ∀ a b, R a b → G a = G b
  alone : ∀ a b, 22 * y + x < a → R a b → b = a
/-- the cell that comes is linked to the place s -/
theorem Lk.tie {G : Nat → Bool} {y x : Nat} {R : Nat → Nat → Prop} (h : Lk G y x R) {s : Nat} (hs : s ≤ 22) (hG : G (fr y x s) = G (22 * y + x + 1)) :
    Lk G y (x + 1) (J R (fr y x s) (22 * y + x + 1)) ∧
    (∀ i j, i ≤ 22 → j ≤ 22 → (J R (fr y x s) (22 * y + x + 1) (fr y (x + 1) i) (fr y (x + 1) j) ↔ R (fr y x (sw x s i)) (fr y x (sw x s j)))) ∧
    (∀ i a, i ≤ 22 → a < 22 * y + x + 1 → (J R (fr y x s) (22 * y + x + 1) (fr y (x + 1) i) a ↔ R (fr y x (sw x s i)) a)) := by
  have hc : ∀ b, R (22 * y + x + 1) b → b = 22 * y + x + 1 := fun b hb => h.alone _ b (by omega) hb
  have hX := fr_le (y := y) (x := x) hs
  have pl : ∀ i, i ≤ 22 → rc (22 * y + x + 1) (fr y x s) (fr y (x + 1) i) = fr y x (sw x s i) := fun i hi => by
    by_cases e : i = x + 1
    · rw [e, fr_next, sw_mid]; unfold rc; rw [if_pos rfl]
    · have := fr_le (y := y) (x := x) hi
      rw [fr_same e, sw_else e]; unfold rc; rw [if_neg (by omega)]
  refine ⟨⟨J_eqv h.eqv _ _, ?_, ?_⟩, ?_, ?_⟩
  · rintro a b (r | ⟨r, u⟩ | ⟨r, u⟩)
    · exact h.col _ _ r
    · rw [h.col _ _ r, hG, h.col _ _ u]
    · rw [h.col _ _ r, ← hG, h.col _ _ u]
  · intro a b ha hr
    rw [J_new h.eqv hc] at hr
    have ea : rc (22 * y + x + 1) (fr y x s) a = a := by unfold rc; rw [if_neg (by omega)]
    rw [ea] at hr
    have := h.alone a _ (by omega) hr
    unfold rc at this
    split at this <;> omega
  · intro i j hi hj
    rw [J_new h.eqv hc, pl i hi, pl j hj]
  · intro i a hi ha
    rw [J_new h.eqv hc, pl i hi]
    have ea : rc (22 * y + x + 1) (fr y x s) a = a := by unfold rc; rw [if_neg (by omega)]
    rw [ea]
/-- the cell that comes is linked to none -/
theorem Lk.new {G : Nat → Bool} {y x : Nat} {R : Nat → Nat → Prop} (h : Lk G y x R) :
    Lk G y (x + 1) R ∧
    (∀ i j, i ≤ 22 → j ≤ 22 → (R (fr y (x + 1) i) (fr y (x + 1) j) ↔ ((i = x + 1 ↔ j = x + 1) ∧ (i ≠ x + 1 → R (fr y x i) (fr y x j))))) ∧
    (∀ i a, i ≤ 22 → a < 22 * y + x + 1 → (R (fr y (x + 1) i) a ↔ i ≠ x + 1 ∧ R (fr y x i) a)) := by
  have hc : ∀ b, R (22 * y + x + 1) b → b = 22 * y + x + 1 := fun b hb => h.alone _ b (by omega) hb
  refine ⟨⟨h.eqv, h.col, fun a b ha => h.alone a b (by omega)⟩, ?_, ?_⟩
  · intro i j hi hj
    have li := fr_le (y := y) (x := x) hi
    have lj := fr_le (y := y) (x := x) hj
    by_cases ei : i = x + 1 <;> by_cases ej : j = x + 1
    · rw [ei, ej]; exact ⟨fun _ => ⟨Iff.rfl, fun hn => absurd rfl hn⟩, fun _ => h.eqv.refl _⟩
    · rw [ei, fr_next, fr_same ej]
      exact ⟨fun hr => by have := hc _ hr; omega, fun hr => absurd (hr.1.1 rfl) ej⟩
    · rw [ej, fr_next, fr_same ei]
      exact ⟨fun hr => by have := hc _ (h.eqv.symm _ _ hr); omega, fun hr => absurd (hr.1.2 rfl) ei⟩
    · rw [fr_same ei, fr_same ej]
      exact ⟨fun hr => ⟨⟨fun e => absurd e ei, fun e => absurd e ej⟩, fun _ => hr⟩, fun hr => hr.2 ei⟩
  · intro i a hi ha
    by_cases ei : i = x + 1
    · rw [ei, fr_next]
      exact ⟨fun hr => by have := hc _ hr; omega, fun hr => absurd rfl hr.1⟩
    · rw [fr_same ei]; exact ⟨fun hr => ⟨ei, hr⟩, fun hr => hr.2⟩
/-- two places are linked -/
theorem Lk.join {G : Nat → Bool} {y x : Nat} {R : Nat → Nat → Prop} (h : Lk G y x R) {s t : Nat} (hs : s ≤ 22) (ht : t ≤ 22) (hG : G (fr y x s) = G (fr y x t)) :
    Lk G y x (J R (fr y x s) (fr y x t)) ∧ ∀ a, Cl y x (J R (fr y x s) (fr y x t)) a ↔ Cl y x R a := by
  have ls := fr_le (y := y) (x := x) hs
  have lt := fr_le (y := y) (x := x) ht
  refine ⟨⟨J_eqv h.eqv _ _, ?_, ?_⟩, fun a => ⟨fun hc i hi hr => hc i hi (Or.inl hr), ?_⟩⟩
  · rintro a b (r | ⟨r, u⟩ | ⟨r, u⟩)
    · exact h.col _ _ r
    · rw [h.col _ _ r, hG, h.col _ _ u]
    · rw [h.col _ _ r, ← hG, h.col _ _ u]
  · rintro a b ha (r | ⟨r, u⟩ | ⟨r, u⟩)
    · exact h.alone a b ha r
    · have := h.alone a _ ha r; omega
    · have := h.alone a _ ha r; omega
  · rintro hc i hi (r | ⟨_, u⟩ | ⟨_, u⟩)
    · exact hc i hi r
    · exact hc t ht u
    · exact hc s hs u
/-- nothing is closed while the place of the cell that comes is linked to a further one -/
theorem Cl_tie {G : Nat → Bool} {y x : Nat} {R : Nat → Nat → Prop} (h : Lk G y x R) {s : Nat} (hs : s ≤ 22) (hG : G (fr y x s) = G (22 * y + x + 1))
    (p : Nat) (hp : p ≤ 22) (hpx : sw x s p = p) (hR : R (fr y x p) (fr y x (x + 1))) (a : Nat) (ha : a < 22 * y + x + 1) :
    Cl y (x + 1) (J R (fr y x s) (22 * y + x + 1)) a ↔ Cl y x R a := by
  obtain ⟨_, _, h3⟩ := h.tie hs hG
  constructor
  · intro hc i hi hr
    by_cases e : i = x + 1
    · refine hc p hp ((h3 p a hp ha).2 ?_)
      rw [hpx]; exact h.eqv.trans _ _ _ hR (e ▸ hr)
    · exact hc i hi ((h3 i a hi ha).2 (by rw [sw_else e]; exact hr))
  · intro hc i hi hr
    rw [h3 i a hi ha] at hr
    refine hc _ ?_ hr
    unfold sw; split
    · exact hs
    · exact hi
theorem Cl_new {G : Nat → Bool} {y x : Nat} {R : Nat → Nat → Prop} (h : Lk G y x R) (a : Nat) (ha : a < 22 * y + x + 1)
    (hR : R (fr y x (x + 1)) a → ∃ p, p ≤ 22 ∧ p ≠ x + 1 ∧ R (fr y x p) (fr y x (x + 1))) :
    Cl y (x + 1) R a ↔ Cl y x R a := by
  obtain ⟨_, _, h3⟩ := h.new
  constructor
  · intro hc i hi hr
    by_cases e : i = x + 1
    · obtain ⟨p, p1, p2, p3⟩ := hR (e ▸ hr)
      exact hc p p1 ((h3 p a p1 ha).2 ⟨p2, h.eqv.trans _ _ _ p3 (e ▸ hr)⟩)
    · exact hc i hi ((h3 i a hi ha).2 ⟨e, hr⟩)
  · intro hc i hi hr
    exact hc i hi ((h3 i a hi ha).1 hr).2
/-- the cell that has come is on the frontier -/
theorem Cl_own {y x : Nat} {R : Nat → Nat → Prop} (h : Eqv R) (hx : x ≤ 20) : ¬ Cl y (x + 1) R (22 * y + x + 1) := fun hc =>
  hc (x + 1) (by omega) (by rw [fr_next]; exact h.refl _)

-- counts
noncomputable def pcs (G : Nat → Bool) (R : Nat → Nat → Prop) (t : Nat) : Int := cntP t fun a => G a = true ∧ Rep R a
noncomputable def cls (G : Nat → Bool) (y x : Nat) (R : Nat → Nat → Prop) (t : Nat) : Int := cntP t fun a => (G a = false ∧ Cl y x R a) ∧ Rep R a
theorem Lk.hc {G : Nat → Bool} {y x : Nat} {R : Nat → Nat → Prop} (h : Lk G y x R) : ∀ b, R (22 * y + x + 1) b → b = 22 * y + x + 1 := fun b hb => h.alone _ b (by omega) hb
theorem pcs_tie {G : Nat → Bool} {y x : Nat} {R : Nat → Nat → Prop} (h : Lk G y x R) {s : Nat} (hs : s ≤ 22) :
    pcs G (J R (fr y x s) (22 * y + x + 1)) (22 * y + x + 1 + 1) = pcs G R (22 * y + x + 1) := by
  have hX := fr_le (y := y) (x := x) hs
  obtain ⟨r1, r2⟩ := rep_new h.eqv h.hc (x := fr y x s) (by omega)
  unfold pcs
  rw [cntP_no (fun hq => r2 hq.2)]
  exact cntP_congr fun a ha => by rw [r1 a ha]
theorem cls_tie {G : Nat → Bool} {y x : Nat} {R : Nat → Nat → Prop} (h : Lk G y x R) {s : Nat} (hs : s ≤ 22) (hG : G (fr y x s) = G (22 * y + x + 1))
    (p : Nat) (hp : p ≤ 22) (hpx : sw x s p = p) (hR : R (fr y x p) (fr y x (x + 1))) :
    cls G y (x + 1) (J R (fr y x s) (22 * y + x + 1)) (22 * y + x + 1 + 1) = cls G y x R (22 * y + x + 1) := by
  have hX := fr_le (y := y) (x := x) hs
  obtain ⟨r1, r2⟩ := rep_new h.eqv h.hc (x := fr y x s) (by omega)
  unfold cls
  rw [cntP_no (fun hq => r2 hq.2)]
  exact cntP_congr fun a ha => by rw [r1 a ha, Cl_tie h hs hG p hp hpx hR a ha]
/-- the class of the place is closed -/
theorem cls_shut {G : Nat → Bool} {y x : Nat} {R : Nat → Nat → Prop} (h : Lk G y x R) (hx : x ≤ 20) {s : Nat} (hs : s ≤ 22) (hsx : s ≠ x + 1) (hG : G (fr y x s) = G (22 * y + x + 1))
    (hR : ∀ p, p ≤ 22 → p ≠ x + 1 → ¬ R (fr y x p) (fr y x (x + 1))) :
    cls G y (x + 1) (J R (fr y x s) (22 * y + x + 1)) (22 * y + x + 1 + 1) = cls G y x R (22 * y + x + 1) + (if G (fr y x (x + 1)) = false then 1 else 0) := by
  have hX := fr_le (y := y) (x := x) hs
  have hN := fr_le (y := y) (x := x) (j := x + 1) (by omega)
  obtain ⟨r1, r2⟩ := rep_new h.eqv h.hc (x := fr y x s) (by omega)
  obtain ⟨_, _, h3⟩ := h.tie hs hG
  have hC : ∀ a, a < 22 * y + x + 1 → (Cl y (x + 1) (J R (fr y x s) (22 * y + x + 1)) a ↔ Cl y x R a ∨ R (fr y x (x + 1)) a) := by
    intro a ha
    constructor
    · intro hc
      by_cases hr : R (fr y x (x + 1)) a
      · exact Or.inr hr
      · refine Or.inl fun i hi hri => ?_
        by_cases e : i = x + 1
        · exact hr (e ▸ hri)
        · exact hc i hi ((h3 i a hi ha).2 (by rw [sw_else e]; exact hri))
    · intro hc i hi hri
      rw [h3 i a hi ha] at hri
      have hq : sw x s i ≤ 22 ∧ sw x s i ≠ x + 1 := by unfold sw; split <;> omega
      rcases hc with hc | hc
      · exact hc _ hq.1 hri
      · exact hR _ hq.1 hq.2 (h.eqv.trans _ _ _ hri (h.eqv.symm _ _ hc))
  unfold cls
  rw [cntP_no (fun hq => r2 hq.2)]
  by_cases hw : G (fr y x (x + 1)) = false
  · rw [if_pos hw]
    obtain ⟨k, k1, k2, k3⟩ := rep_ex h.eqv (fr y x (x + 1))
    have := cntP_drop (t := 22 * y + x + 1) (k := k) (P := fun a => (G a = false ∧ Cl y (x + 1) (J R (fr y x s) (22 * y + x + 1)) a) ∧ Rep (J R (fr y x s) (22 * y + x + 1)) a)
      (Q := fun a => (G a = false ∧ Cl y x R a) ∧ Rep R a) (by omega)
      ⟨⟨by rw [h.col _ _ k2]; exact hw, (hC k (by omega)).2 (Or.inr (h.eqv.symm _ _ k2))⟩, (r1 k (by omega)).2 k3⟩ (fun a ha => by
        rw [r1 a ha, hC a ha]
        constructor
        · rintro ⟨⟨u, v⟩, z⟩
          refine ⟨⟨⟨u, Or.inl v⟩, z⟩, ?_⟩
          rintro rfl; exact v (x + 1) (by omega) (h.eqv.symm _ _ k2)
        · rintro ⟨⟨⟨u, v⟩, z⟩, ne⟩
          refine ⟨⟨u, ?_⟩, z⟩
          rcases v with v | v
          · exact v
          · exact absurd (rep_one h.eqv z k3 (h.eqv.trans _ _ _ (h.eqv.symm _ _ v) (h.eqv.symm _ _ k2))) ne)
    omega
  · rw [if_neg hw, Int.add_zero]
    refine cntP_congr fun a ha => ?_
    rw [r1 a ha, hC a ha]
    constructor
    · rintro ⟨⟨u, v⟩, z⟩
      refine ⟨⟨u, ?_⟩, z⟩
      rcases v with v | v
      · exact v
      · exact absurd ((h.col _ _ v).trans u) hw
    · rintro ⟨⟨u, v⟩, z⟩; exact ⟨⟨u, Or.inl v⟩, z⟩
theorem pcs_new {G : Nat → Bool} {y x : Nat} {R : Nat → Nat → Prop} (h : Lk G y x R) : pcs G R (22 * y + x + 1 + 1) = pcs G R (22 * y + x + 1) + one (G (22 * y + x + 1)) := by
  have hr : Rep R (22 * y + x + 1) := fun b hb hR => by have := h.hc b (h.eqv.symm _ _ hR); omega
  unfold pcs
  by_cases hg : G (22 * y + x + 1) = true
  · rw [cntP_yes ⟨hg, hr⟩, hg]; rfl
  · rw [cntP_no (fun hq => hg hq.1), show G (22 * y + x + 1) = false by simpa using hg]; simp [one]
theorem cls_new {G : Nat → Bool} {y x : Nat} {R : Nat → Nat → Prop} (h : Lk G y x R) (hx : x ≤ 20)
    (hR : G (fr y x (x + 1)) = false → ∃ p, p ≤ 22 ∧ p ≠ x + 1 ∧ R (fr y x p) (fr y x (x + 1))) :
    cls G y (x + 1) R (22 * y + x + 1 + 1) = cls G y x R (22 * y + x + 1) := by
  unfold cls
  rw [cntP_no (fun hq => Cl_own h.eqv hx hq.1.2)]
  refine cntP_congr fun a ha => ?_
  constructor
  · rintro ⟨⟨u, v⟩, z⟩; exact ⟨⟨u, (Cl_new h a ha (fun r => hR ((h.col _ _ r).trans u))).1 v⟩, z⟩
  · rintro ⟨⟨u, v⟩, z⟩; exact ⟨⟨u, (Cl_new h a ha (fun r => hR ((h.col _ _ r).trans u))).2 v⟩, z⟩
/-- two places that weren't linked are linked -/
theorem cnt_link {G : Nat → Bool} {y x : Nat} {R : Nat → Nat → Prop} (h : Lk G y x R) {s t : Nat} (hs : s ≤ 22) (ht : t ≤ 22) (hG : G (fr y x s) = G (fr y x t)) (hR : ¬ R (fr y x s) (fr y x t)) :
    pcs G (J R (fr y x s) (fr y x t)) (22 * y + x + 1) = pcs G R (22 * y + x + 1) - one (G (fr y x s)) ∧
    cls G y x (J R (fr y x s) (fr y x t)) (22 * y + x + 1) = cls G y x R (22 * y + x + 1) := by
  have ls := fr_le (y := y) (x := x) hs
  have lt := fr_le (y := y) (x := x) ht
  constructor
  · have := cnt_join (Q := fun a => G a = true) (t := 22 * y + x + 1) h.eqv hR (by omega) (by omega) (fun a b r => by rw [h.col _ _ r]) (by rw [hG])
    unfold pcs
    by_cases hg : G (fr y x s) = true
    · rw [this.1 hg, hg]; rfl
    · rw [this.2 hg, show G (fr y x s) = false by simpa using hg]; simp [one]
  · obtain ⟨_, hj⟩ := h.join hs ht hG
    have own : ∀ i, i ≤ 22 → ¬ (G (fr y x i) = false ∧ Cl y x R (fr y x i)) := fun i hi hq => hq.2 i hi (h.eqv.refl _)
    have := cnt_join (Q := fun a => G a = false ∧ Cl y x R a) (t := 22 * y + x + 1) h.eqv hR (by omega) (by omega) (fun a b r => by
      rw [h.col _ _ r]
      refine and_congr_right fun _ => ⟨fun hc i hi hr => hc i hi (h.eqv.trans _ _ _ hr (h.eqv.symm _ _ r)), fun hc i hi hr => hc i hi (h.eqv.trans _ _ _ hr r)⟩)
      ⟨fun hq => absurd hq (own s hs), fun hq => absurd hq (own t ht)⟩
    unfold cls
    rw [← this.2 (own s hs)]
    exact cntP_congr fun a _ => by rw [hj a]
end Go.Proofs.YtbdpngjakccjjaaDoor
