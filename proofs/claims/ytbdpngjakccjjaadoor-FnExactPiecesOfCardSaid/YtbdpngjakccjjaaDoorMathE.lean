
/- Arcs that don't cross, over a row of cells: what of the cells they separate, and what becomes of it when one cell is changed. -/
namespace Go.Proofs.YtbdpngjakccjjaaDoor

/-- The cell i lies under the arc from the edge a (between the cells a and a + 1) to the edge b. -/
def und (a b i : Nat) : Bool := decide ((a < i ∧ i ≤ b) ∨ (b < i ∧ i ≤ a))
/-- The edge g lies under the arc from a to b. -/
def undE (a b g : Nat) : Bool := decide ((a < g ∧ g < b) ∨ (b < g ∧ g < a))
theorem und_iff {a b i : Nat} : und a b i = true ↔ ((a < i ∧ i ≤ b) ∨ (b < i ∧ i ≤ a)) := by unfold und; simp
theorem undE_iff {a b i : Nat} : undE a b i = true ↔ ((a < i ∧ i < b) ∨ (b < i ∧ i < a)) := by unfold undE; simp
theorem und_comm (a b i : Nat) : und a b i = und b a i := by rw [Bool.eq_iff_iff, und_iff, und_iff]; omega
theorem undE_comm (a b i : Nat) : undE a b i = undE b a i := by rw [Bool.eq_iff_iff, undE_iff, undE_iff]; omega
/-- laid end to end -/
theorem und_chain (a b c i : Nat) : und a c i = (und a b i ^^ und b c i) := by
  have h1 := @und_iff a c i
  have h2 := @und_iff a b i
  have h3 := @und_iff b c i
  cases e1 : und a c i <;> cases e2 : und a b i <;> cases e3 : und b c i <;> simp [e1, e2, e3] at h1 h2 h3 ⊢ <;> omega
/-- the cell behind an edge that isn't an end -/
theorem und_step (a b k : Nat) (ha : a ≠ k) (hb : b ≠ k) : und a b (k + 1) = und a b k := by
  rw [Bool.eq_iff_iff, und_iff, und_iff]; omega
theorem und_end (b k : Nat) (hb : b ≠ k) : und k b (k + 1) = !und k b k := by
  have h1 := @und_iff k b k
  have h2 := @und_iff k b (k + 1)
  cases e1 : und k b k <;> cases e2 : und k b (k + 1) <;> simp [e1, e2] at h1 h2 ⊢ <;> omega
theorem und_edge (a b k : Nat) (ha : a ≠ k) (hb : b ≠ k) : undE a b k = und a b k := by
  rw [Bool.eq_iff_iff, und_iff, undE_iff]; omega
theorem cross_symm (a b c d : Nat) (h1 : c ≠ a) (h2 : c ≠ b) (h3 : d ≠ a) (h4 : d ≠ b) (h : undE a b c = undE a b d) : undE c d a = undE c d b := by
  rw [Bool.eq_iff_iff, undE_iff, undE_iff] at h ⊢; omega
/-- Two arcs that don't cross make three parts. -/
theorem three (a b c d x y z t : Nat) (h1 : c ≠ a) (h2 : c ≠ b) (h3 : d ≠ a) (h4 : d ≠ b) (h : undE a b c = undE a b d)
    (u v : Bool) (x1 : und a b x = u) (x2 : und c d x = v) (y1 : und a b y = !u) (y2 : und c d y = v)
    (z1 : und a b z = !u) (z2 : und c d z = !v) (t1 : und a b t = u) (t2 : und c d t = !v) : False := by
  have sw : ∀ (a b c d : Nat), a ≤ b → c ≤ d → c ≠ a → c ≠ b → d ≠ a → d ≠ b → undE a b c = undE a b d → ∀ p q r s : Nat,
      und a b p = true → und c d p = true → und a b q = false → und c d q = true → und a b r = true → und c d r = false → und a b s = false → und c d s = false → False := by
    intro a b c d hab hcd h1 h2 h3 h4 h p q r s p1 p2 q1 q2 r1 r2 s1 s2
    rw [Bool.eq_iff_iff, undE_iff, undE_iff] at h
    rw [und_iff] at p1 p2 q2 r1
    rw [← Bool.not_eq_true, und_iff] at q1 r2
    omega
  have go : ∀ p q r s : Nat,
      und a b p = true → und c d p = true → und a b q = false → und c d q = true → und a b r = true → und c d r = false → und a b s = false → und c d s = false → False := by
    intro p q r s p1 p2 q1 q2 r1 r2 s1 s2
    rcases Nat.le_total a b with hab | hab <;> rcases Nat.le_total c d with hcd | hcd
    · exact sw a b c d hab hcd h1 h2 h3 h4 h p q r s p1 p2 q1 q2 r1 r2 s1 s2
    · rw [und_comm c d] at p2 q2 r2 s2; exact sw a b d c hab hcd h3 h4 h1 h2 h.symm p q r s p1 p2 q1 q2 r1 r2 s1 s2
    · rw [und_comm a b] at p1 q1 r1 s1; rw [undE_comm a b, undE_comm a b] at h; exact sw b a c d hab hcd h2 h1 h4 h3 h p q r s p1 p2 q1 q2 r1 r2 s1 s2
    · rw [und_comm c d] at p2 q2 r2 s2; rw [und_comm a b] at p1 q1 r1 s1; rw [undE_comm a b, undE_comm a b] at h; exact sw b a d c hab hcd h4 h3 h2 h1 h.symm p q r s p1 p2 q1 q2 r1 r2 s1 s2
  cases u <;> cases v
  · exact go z t y x z1 z2 t1 t2 y1 y2 x1 x2
  · exact go y x z t y1 y2 x1 x2 z1 z2 t1 t2
  · exact go t z x y t1 t2 z1 z2 x1 x2 y1 y2
  · exact go x y t z x1 x2 y1 y2 t1 t2 z1 z2

/-- Arcs on the edges with D: each has its partner, and no two cross. -/
structure Arcs (D : Nat → Prop) (M : Nat → Nat) : Prop where
  dom : ∀ e, D e → D (M e)
  inv : ∀ e, D e → M (M e) = e
  ne : ∀ e, D e → M e ≠ e
  nc : ∀ e g, D e → D g → g ≠ e → g ≠ M e → undE e (M e) g = undE e (M e) (M g)
/-- No arc separates i from j. -/
def Free (D : Nat → Prop) (M : Nat → Nat) (i j : Nat) : Prop := ∀ e, D e → und e (M e) i = und e (M e) j
theorem Free.rfl' {D : Nat → Prop} {M : Nat → Nat} (i : Nat) : Free D M i i := fun _ _ => rfl
theorem Free.symm {D : Nat → Prop} {M : Nat → Nat} {i j : Nat} (h : Free D M i j) : Free D M j i := fun e he => (h e he).symm
theorem Free.trans {D : Nat → Prop} {M : Nat → Nat} {i j k : Nat} (h : Free D M i j) (h' : Free D M j k) : Free D M i k := fun e he => (h e he).trans (h' e he)

-- a new pair at the edges k and k + 1
def cupM (M : Nat → Nat) (k e : Nat) : Nat := if e = k then k + 1 else if e = k + 1 then k else M e
theorem cup {D : Nat → Prop} {M : Nat → Nat} {k : Nat} (hA : Arcs D M) (h0 : ¬ D k) (h1 : ¬ D (k + 1)) :
    Arcs (fun e => D e ∨ e = k ∨ e = k + 1) (cupM M k) ∧
    ∀ i j, Free (fun e => D e ∨ e = k ∨ e = k + 1) (cupM M k) i j ↔ ((i = k + 1 ↔ j = k + 1) ∧ (i ≠ k + 1 → Free D M i j)) := by
  have c0 : cupM M k k = k + 1 := by unfold cupM; rw [if_pos rfl]
  have c1 : cupM M k (k + 1) = k := by unfold cupM; rw [if_neg (by omega), if_pos rfl]
  have cM : ∀ e, D e → cupM M k e = M e := fun e he => by
    have a1 : e ≠ k := fun h => h0 (h ▸ he)
    have a2 : e ≠ k + 1 := fun h => h1 (h ▸ he)
    unfold cupM; rw [if_neg a1, if_neg a2]
  have nk : ∀ e, D e → e ≠ k ∧ e ≠ k + 1 := fun e he => ⟨fun h => h0 (h ▸ he), fun h => h1 (h ▸ he)⟩
  refine ⟨⟨?_, ?_, ?_, ?_⟩, ?_⟩
  · rintro e (he | rfl | rfl)
    · rw [cM e he]; exact Or.inl (hA.dom e he)
    · rw [c0]; exact Or.inr (Or.inr rfl)
    · rw [c1]; exact Or.inr (Or.inl rfl)
  · rintro e (he | rfl | rfl)
    · rw [cM e he, cM _ (hA.dom e he)]; exact hA.inv e he
    · rw [c0, c1]
    · rw [c1, c0]
  · rintro e (he | rfl | rfl)
    · rw [cM e he]; exact hA.ne e he
    · rw [c0]; omega
    · rw [c1]; omega
  · have small : ∀ g, D g → undE k (k + 1) g = undE k (k + 1) (M g) := fun g hg => by
      rw [Bool.eq_iff_iff, undE_iff, undE_iff]; omega
    rintro e g (he | rfl | rfl) (hg | rfl | rfl) n1 n2
    · rw [cM e he, cM g hg]; rw [cM e he] at n2; exact hA.nc e g he hg n1 n2
    · rw [cM e he, c0]
      have := nk e he; have := nk _ (hA.dom e he)
      rw [Bool.eq_iff_iff, undE_iff, undE_iff]; omega
    · rw [cM e he, c1]
      have := nk e he; have := nk _ (hA.dom e he)
      rw [Bool.eq_iff_iff, undE_iff, undE_iff]; omega
    · rw [c0, cM g hg]; exact small g hg
    · exact absurd rfl n1
    · rw [c0] at n2; exact absurd rfl n2
    · rw [c1, cM g hg, undE_comm, undE_comm (k + 1)]; exact small g hg
    · rw [c1] at n2; exact absurd rfl n2
    · exact absurd rfl n1
  · have own : ∀ i, und k (k + 1) i = decide (i = k + 1) := fun i => by
      rw [Bool.eq_iff_iff, und_iff, decide_eq_true_iff]; omega
    intro i j
    constructor
    · intro h
      refine ⟨?_, fun _ e he => ?_⟩
      · have := h k (Or.inr (Or.inl rfl))
        rw [c0, own, own, decide_eq_decide] at this; exact this
      · have := h e (Or.inl he); rwa [cM e he] at this
    · rintro ⟨h, h'⟩
      rintro e (he | rfl | rfl)
      · rw [cM e he]
        by_cases hi : i = k + 1
        · rw [hi, h.1 hi]
        · exact h' hi e he
      · rw [c0, own, own, decide_eq_decide]; exact h
      · rw [c1, und_comm, und_comm (k + 1), own, own, decide_eq_decide]; exact h

-- the pair at the edges k and k + 1 goes
def capM (M : Nat → Nat) (k e : Nat) : Nat := if e = M k then M (k + 1) else if e = M (k + 1) then M k else M e
theorem cap_own {D : Nat → Prop} {M : Nat → Nat} {k : Nat} (hA : Arcs D M) (h0 : D k) (hm : M k = k + 1) :
    Arcs (fun e => D e ∧ e ≠ k ∧ e ≠ k + 1) M ∧ Free D M k (k + 2) ∧
    (∀ i j, i ≠ k + 1 → j ≠ k + 1 → (Free (fun e => D e ∧ e ≠ k ∧ e ≠ k + 1) M i j ↔ Free D M i j)) ∧ ∀ i, i ≠ k + 1 → ¬ Free D M i (k + 1) := by
  have hm1 : M (k + 1) = k := by rw [← hm]; exact hA.inv k h0
  have own : ∀ i, und k (k + 1) i = decide (i = k + 1) := fun i => by
    rw [Bool.eq_iff_iff, und_iff, decide_eq_true_iff]; omega
  have mk : ∀ e, D e → e ≠ k → e ≠ k + 1 → M e ≠ k ∧ M e ≠ k + 1 := fun e he a b => by
    constructor
    · intro h; have := hA.inv e he; rw [h, hm] at this; omega
    · intro h; have := hA.inv e he; rw [h, hm1] at this; omega
  refine ⟨⟨?_, ?_, ?_, ?_⟩, ?_, ?_, ?_⟩
  · rintro e ⟨he, a, b⟩; exact ⟨hA.dom e he, mk e he a b⟩
  · rintro e ⟨he, _⟩; exact hA.inv e he
  · rintro e ⟨he, _⟩; exact hA.ne e he
  · rintro e g ⟨he, _⟩ ⟨hg, _⟩; exact hA.nc e g he hg
  · intro e he
    by_cases a : e = k
    · rw [a, hm, own, own, decide_eq_decide]; omega
    by_cases b : e = k + 1
    · rw [b, hm1, und_comm, und_comm (k + 1), own, own, decide_eq_decide]; omega
    obtain ⟨c, d⟩ := mk e he a b
    rw [show k + 2 = (k + 1) + 1 from rfl, und_step _ _ _ b d, und_step _ _ _ a c]
  · intro i j hi hj
    constructor
    · intro h e he
      by_cases a : e = k
      · rw [a, hm, own, own, decide_eq_decide]; omega
      by_cases b : e = k + 1
      · rw [b, hm1, und_comm, und_comm (k + 1), own, own, decide_eq_decide]; omega
      exact h e ⟨he, a, b⟩
    · intro h e he; exact h e he.1
  · intro i hi h
    have := h k h0
    rw [hm, own, own, decide_eq_decide] at this
    omega
theorem cap_two {D : Nat → Prop} {M : Nat → Nat} {k : Nat} (hA : Arcs D M) (h0 : D k) (h1 : D (k + 1)) (hm : M k ≠ k + 1) :
    Arcs (fun e => D e ∧ e ≠ k ∧ e ≠ k + 1) (capM M k) ∧ ¬ Free D M k (k + 2) ∧
    ∀ i j, i ≠ k + 1 → j ≠ k + 1 → (Free (fun e => D e ∧ e ≠ k ∧ e ≠ k + 1) (capM M k) i j ↔ Free D M i j ∨ (Free D M i k ∧ Free D M (k + 2) j) ∨ (Free D M i (k + 2) ∧ Free D M k j)) := by
  have hm1 : M (k + 1) ≠ k := fun h => by have := hA.inv _ h1; rw [h] at this; exact hm this
  obtain ⟨p, hp⟩ : ∃ p, M k = p := ⟨_, rfl⟩
  obtain ⟨q, hq⟩ : ∃ q, M (k + 1) = q := ⟨_, rfl⟩
  have hpk : M p = k := by rw [← hp]; exact hA.inv k h0
  have hqk : M q = k + 1 := by rw [← hq]; exact hA.inv _ h1
  have Dp : D p := hp ▸ hA.dom k h0
  have Dq : D q := hq ▸ hA.dom _ h1
  have p0 : p ≠ k := hp ▸ hA.ne k h0
  have q1 : q ≠ k + 1 := hq ▸ hA.ne _ h1
  rw [hp] at hm
  rw [hq] at hm1
  have pq : p ≠ q := fun h => by rw [h, hqk] at hpk; omega
  have ncAB : undE k p (k + 1) = undE k p q := by
    have := hA.nc k (k + 1) h0 h1 (by omega) (by rw [hp]; omega)
    rwa [hp, hq] at this
  have cp : capM M k p = q := by unfold capM; rw [hp, hq, if_pos rfl]
  have cq : capM M k q = p := by unfold capM; rw [hp, hq, if_neg (Ne.symm pq), if_pos rfl]
  have co : ∀ e, e ≠ p → e ≠ q → capM M k e = M e := fun e a b => by unfold capM; rw [hp, hq, if_neg a, if_neg b]
  have mo : ∀ e, D e → e ≠ k → e ≠ k + 1 → e ≠ p → e ≠ q → M e ≠ k ∧ M e ≠ k + 1 ∧ M e ≠ p ∧ M e ≠ q := fun e he a b c d => by
    have hi := hA.inv e he
    refine ⟨?_, ?_, ?_, ?_⟩ <;> intro h <;> rw [h] at hi <;> omega
  -- what other arcs do
  have ncp : ∀ e, D e → e ≠ k → e ≠ k + 1 → e ≠ p → e ≠ q → undE e (M e) p = undE e (M e) q := fun e he a b c d => by
    obtain ⟨m1, m2, m3, m4⟩ := mo e he a b c d
    have x1 := hA.nc e k he h0 (Ne.symm a) (Ne.symm m1)
    have x2 := hA.nc e (k + 1) he h1 (Ne.symm b) (Ne.symm m2)
    rw [hp] at x1
    rw [hq] at x2
    rw [← x1, ← x2, Bool.eq_iff_iff, undE_iff, undE_iff]
    omega
  have same : ∀ e, D e → e ≠ k → e ≠ k + 1 → e ≠ p → e ≠ q → und e (M e) k = und e (M e) (k + 1) ∧ und e (M e) (k + 1) = und e (M e) (k + 2) := fun e he a b c d => by
    obtain ⟨m1, m2, m3, m4⟩ := mo e he a b c d
    exact ⟨(und_step _ _ _ a m1).symm, (und_step _ _ _ b m2).symm⟩
  have both : ∀ i, i ≠ k + 1 → und p q i = (und k p i ^^ und (k + 1) q i) := fun i hi => by
    rw [und_chain p k q i, und_chain k (k + 1) q i, und_comm p k, show und k (k + 1) i = false by rw [← Bool.not_eq_true, und_iff]; omega]
    simp
  have A0 := und_end p k p0
  have A1 : und k p (k + 2) = und k p (k + 1) := und_step k p (k + 1) (by omega) (fun h => hm h)
  have B0 : und (k + 1) q (k + 1) = und (k + 1) q k := und_step (k + 1) q k (by omega) hm1
  have B1 := und_end q (k + 1) q1
  refine ⟨⟨?_, ?_, ?_, ?_⟩, ?_, ?_⟩
  · rintro e ⟨he, a, b⟩
    by_cases c : e = p
    · rw [c, cp]; exact ⟨Dq, hm1, q1⟩
    by_cases d : e = q
    · rw [d, cq]; exact ⟨Dp, p0, hm⟩
    obtain ⟨m1, m2, m3, m4⟩ := mo e he a b c d
    rw [co e c d]; exact ⟨hA.dom e he, m1, m2⟩
  · rintro e ⟨he, a, b⟩
    by_cases c : e = p
    · rw [c, cp, cq]
    by_cases d : e = q
    · rw [d, cq, cp]
    obtain ⟨m1, m2, m3, m4⟩ := mo e he a b c d
    rw [co e c d, co _ m3 m4]; exact hA.inv e he
  · rintro e ⟨he, a, b⟩
    by_cases c : e = p
    · rw [c, cp]; exact Ne.symm pq
    by_cases d : e = q
    · rw [d, cq]; exact pq
    rw [co e c d]; exact hA.ne e he
  · rintro e g ⟨he, a, b⟩ ⟨hg, a', b'⟩ n1 n2
    by_cases c : e = p
    · subst c
      rw [cp] at n2 ⊢
      obtain ⟨m1, m2, m3, m4⟩ := mo g hg a' b' n1 n2
      rw [co g n1 n2]
      exact cross_symm g (M g) e q (Ne.symm n1) (Ne.symm m3) (Ne.symm n2) (Ne.symm m4) (ncp g hg a' b' n1 n2)
    by_cases d : e = q
    · subst d
      rw [cq] at n2 ⊢
      obtain ⟨m1, m2, m3, m4⟩ := mo g hg a' b' n2 n1
      rw [co g n2 n1]
      exact cross_symm g (M g) e p (Ne.symm n1) (Ne.symm m4) (Ne.symm n2) (Ne.symm m3) (ncp g hg a' b' n2 n1).symm
    rw [co e c d] at n2 ⊢
    by_cases c' : g = p
    · rw [c', cp]; exact ncp e he a b c d
    by_cases d' : g = q
    · rw [d', cq]; exact (ncp e he a b c d).symm
    rw [co g c' d']; exact hA.nc e g he hg n1 n2
  · intro h
    have := h k h0
    rw [hp, A1, A0] at this
    cases hx : und k p k <;> rw [hx] at this <;> exact absurd this (by decide)
  · intro i j hi hj
    have ar : ∀ x y, (und k p x = und k p y) → (und (k + 1) q x = und (k + 1) q y) → (∀ e, D e → e ≠ k → e ≠ k + 1 → e ≠ p → e ≠ q → und e (M e) x = und e (M e) y) → Free D M x y := by
      intro x y h1' h2' h3' e he
      by_cases a : e = k
      · rw [a, hp]; exact h1'
      by_cases b : e = k + 1
      · rw [b, hq]; exact h2'
      by_cases c : e = p
      · rw [c, hpk, und_comm, und_comm p]; exact h1'
      by_cases d : e = q
      · rw [d, hqk, und_comm, und_comm q]; exact h2'
      exact h3' e he a b c d
    have ra : ∀ x y, x ≠ k + 1 → y ≠ k + 1 → (und k p x ^^ und (k + 1) q x) = (und k p y ^^ und (k + 1) q y) → (∀ e, D e → e ≠ k → e ≠ k + 1 → e ≠ p → e ≠ q → und e (M e) x = und e (M e) y) →
        Free (fun e => D e ∧ e ≠ k ∧ e ≠ k + 1) (capM M k) x y := by
      intro x y hx hy h12 h3' e he
      obtain ⟨he, a, b⟩ := he
      by_cases c : e = p
      · rw [c, cp, both x hx, both y hy]; exact h12
      by_cases d : e = q
      · rw [d, cq, und_comm, und_comm q, both x hx, both y hy]; exact h12
      rw [co e c d]; exact h3' e he a b c d
    have f1 : ∀ {x y}, Free D M x y → und k p x = und k p y := fun h => by have := h k h0; rwa [hp] at this
    have f2 : ∀ {x y}, Free D M x y → und (k + 1) q x = und (k + 1) q y := fun h => by have := h (k + 1) h1; rwa [hq] at this
    constructor
    · intro h
      have hx := h p ⟨Dp, p0, hm⟩
      rw [cp, both i hi, both j hj] at hx
      have ho : ∀ e, D e → e ≠ k → e ≠ k + 1 → e ≠ p → e ≠ q → und e (M e) i = und e (M e) j := fun e he a b c d => by
        have := h e ⟨he, a, b⟩; rwa [co e c d] at this
      by_cases hk : und k p i = und k p j
      · have hk2 : und (k + 1) q i = und (k + 1) q j := by
          rw [hk] at hx; revert hx; cases und k p j <;> cases und (k + 1) q i <;> cases und (k + 1) q j <;> decide
        exact Or.inl (ar i j hk hk2 ho)
      · right
        have hk2 : und (k + 1) q i = !und (k + 1) q j := by
          revert hx hk; cases und k p i <;> cases und k p j <;> cases und (k + 1) q i <;> cases und (k + 1) q j <;> decide
        have hk1 : und k p i = !und k p j := by
          revert hk; cases und k p i <;> cases und k p j <;> decide
        -- the fourth part is empty
        have emp : ∀ t, und k p t = und k p k → und (k + 1) q t = !und (k + 1) q k → False := fun t t1 t2 =>
          three k p (k + 1) q k (k + 1) (k + 2) t (by omega) (fun h => hm h.symm) hm1 (Ne.symm pq) ncAB (und k p k) (und (k + 1) q k) rfl rfl A0 B0 (A1.trans A0) (by rw [B1, B0]) t1 t2
        -- other arcs have i, j and k on one side
        have near : ∀ e, D e → e ≠ k → e ≠ k + 1 → e ≠ p → e ≠ q → und e (M e) i = und e (M e) k := fun e he a b c d => by
          obtain ⟨s1, s2⟩ := same e he a b c d
          obtain ⟨m1, m2, m3, m4⟩ := mo e he a b c d
          have hn := hA.nc e k he h0 (Ne.symm a) (Ne.symm m1)
          rw [hp] at hn
          cases hh : (und e (M e) i == und e (M e) k)
          · exfalso
            have hne : und e (M e) i = !und e (M e) k := by
              revert hh; cases und e (M e) i <;> cases und e (M e) k <;> decide
            have hne2 : und e (M e) j = !und e (M e) k := by rw [← ho e he a b c d]; exact hne
            by_cases hki : und k p i = und k p k
            · refine three k p e (M e) k (k + 1) j i a c m1 m3 (cross_symm e (M e) k p (Ne.symm a) (Ne.symm m1) (Ne.symm c) (Ne.symm m3) hn) (und k p k) (und e (M e) k) rfl rfl A0 s1.symm ?_ hne2 hki hne
              rw [← hki, hk1]; simp
            · have hkj : und k p j = und k p k := by
                revert hki hk1; cases und k p i <;> cases und k p j <;> cases und k p k <;> decide
              refine three k p e (M e) k (k + 1) i j a c m1 m3 (cross_symm e (M e) k p (Ne.symm a) (Ne.symm m1) (Ne.symm c) (Ne.symm m3) hn) (und k p k) (und e (M e) k) rfl rfl A0 s1.symm ?_ hne hkj hne2
              rw [hk1, hkj]
          · exact eq_of_beq hh
        have near2 : ∀ e, D e → e ≠ k → e ≠ k + 1 → e ≠ p → e ≠ q → und e (M e) i = und e (M e) (k + 2) := fun e he a b c d => by
          obtain ⟨s1, s2⟩ := same e he a b c d
          rw [near e he a b c d, s1, s2]
        by_cases hki : und k p i = und k p k
        · left
          have hqi : und (k + 1) q i = und (k + 1) q k := by
            cases hh : (und (k + 1) q i == und (k + 1) q k)
            · exfalso; refine emp i hki ?_
              revert hh; cases und (k + 1) q i <;> cases und (k + 1) q k <;> decide
            · exact eq_of_beq hh
          refine ⟨ar i k hki hqi near, ar (k + 2) j ?_ ?_ (fun e he a b c d => by rw [← near2 e he a b c d, ho e he a b c d])⟩
          · rw [A1, A0, ← hki, hk1]; simp
          · rw [B1, B0, ← hqi, hk2]; simp
        · right
          have hkj : und k p j = und k p k := by
            revert hki hk1; cases und k p i <;> cases und k p j <;> cases und k p k <;> decide
          have hqj : und (k + 1) q j = und (k + 1) q k := by
            cases hh : (und (k + 1) q j == und (k + 1) q k)
            · exfalso; refine emp j hkj ?_
              revert hh; cases und (k + 1) q j <;> cases und (k + 1) q k <;> decide
            · exact eq_of_beq hh
          refine ⟨ar i (k + 2) ?_ ?_ near2, ar k j hkj.symm hqj.symm (fun e he a b c d => by rw [← near e he a b c d, ho e he a b c d])⟩
          · rw [A1, A0, hk1, hkj]
          · rw [B1, B0, hk2, hqj]
    · rintro (h | ⟨h, h'⟩ | ⟨h, h'⟩)
      · exact ra i j hi hj (by rw [f1 h, f2 h]) (fun e he _ _ _ _ => h e he)
      · refine ra i j hi hj ?_ (fun e he a b c d => by obtain ⟨s1, s2⟩ := same e he a b c d; rw [h e he, s1, s2, h' e he])
        rw [f1 h, f2 h, ← f1 h', ← f2 h', A1, A0, B1, B0]
        cases und k p k <;> cases und (k + 1) q k <;> rfl
      · refine ra i j hi hj ?_ (fun e he a b c d => by obtain ⟨s1, s2⟩ := same e he a b c d; rw [h e he, ← s2, ← s1, h' e he])
        rw [f1 h, f2 h, ← f1 h', ← f2 h', A1, A0, B1, B0]
        cases und k p k <;> cases und (k + 1) q k <;> rfl

/-- The class of the middle cell goes on, if its two changes aren't partners. -/
theorem cap_left {D : Nat → Prop} {M : Nat → Nat} {k : Nat} (hA : Arcs D M) (h0 : D k) (hm : M k ≠ k + 1) : D (M k) ∧ M k ≠ k + 1 ∧ Free D M (M k) (k + 1) := by
  refine ⟨hA.dom k h0, hm, ?_⟩
  have hpk := hA.inv k h0
  have hne := hA.ne k h0
  generalize hp : M k = p at hm hpk hne
  have own : und k p p = und k p (k + 1) := by rw [Bool.eq_iff_iff, und_iff, und_iff]; omega
  intro e he
  by_cases a : e = k
  · rw [a, hp]; exact own
  by_cases b : e = p
  · rw [b, hpk, und_comm, und_comm p]; exact own
  have hi := hA.inv e he
  have m1 : M e ≠ k := fun h => by rw [h, hp] at hi; exact b hi.symm
  have m2 : M e ≠ p := fun h => by rw [h, hpk] at hi; exact a hi.symm
  have hn := hA.nc e k he h0 (Ne.symm a) (Ne.symm m1)
  rw [hp, und_edge _ _ _ a m1, und_edge _ _ _ b m2] at hn
  rw [und_step _ _ _ a m1, hn]

-- the change goes from one side of the middle cell to the other one
def sldM (M : Nat → Nat) (a a' e : Nat) : Nat := if e = a' then M a else if M e = a then a' else M e
def sw (k t i : Nat) : Nat := if i = k + 1 then t else i
theorem sw_mid (k t : Nat) : sw k t (k + 1) = t := by unfold sw; rw [if_pos rfl]
theorem sw_else {k t i : Nat} (h : i ≠ k + 1) : sw k t i = i := by unfold sw; rw [if_neg h]
theorem slide {D : Nat → Prop} {M : Nat → Nat} {k a a' t : Nat} (hA : Arcs D M) (hc : (a = k ∧ a' = k + 1 ∧ t = k) ∨ (a = k + 1 ∧ a' = k ∧ t = k + 2)) (h0 : D a) (h1 : ¬ D a') :
    Arcs (fun e => (D e ∧ e ≠ a) ∨ e = a') (sldM M a a') ∧ ∀ i j, Free (fun e => (D e ∧ e ≠ a) ∨ e = a') (sldM M a a') i j ↔ Free D M (sw k t i) (sw k t j) := by
  obtain ⟨p, hp⟩ : ∃ p, M a = p := ⟨_, rfl⟩
  have Dp : D p := hp ▸ hA.dom a h0
  have hpa : M p = a := by rw [← hp]; exact hA.inv a h0
  have p1 : p ≠ a := hp ▸ hA.ne a h0
  have p2 : p ≠ a' := fun h => h1 (h ▸ Dp)
  have aa : a ≠ a' := by omega
  have ca : sldM M a a' a' = p := by unfold sldM; rw [if_pos rfl, hp]
  have cp : sldM M a a' p = a' := by unfold sldM; rw [if_neg p2, if_pos hpa]
  have mo : ∀ e, D e → e ≠ a → e ≠ p → M e ≠ a ∧ M e ≠ p ∧ M e ≠ a' ∧ e ≠ a' := fun e he x y => by
    have hi := hA.inv e he
    refine ⟨?_, ?_, fun h => h1 (h ▸ hA.dom e he), fun h => h1 (h ▸ he)⟩
    · intro h; rw [h, hp] at hi; exact y hi.symm
    · intro h; rw [h, hpa] at hi; exact x hi.symm
  have co : ∀ e, D e → e ≠ a → e ≠ p → sldM M a a' e = M e := fun e he x y => by
    obtain ⟨m1, m2, m3, m4⟩ := mo e he x y
    unfold sldM; rw [if_neg m4, if_neg m1]
  have F1 : ∀ i, und a' p i = und a p (sw k t i) := fun i => by
    unfold sw; rw [Bool.eq_iff_iff, und_iff, und_iff]; split <;> omega
  have F2 : ∀ e g i, e ≠ a → e ≠ a' → g ≠ a → g ≠ a' → und e g i = und e g (sw k t i) := fun e g i _ _ _ _ => by
    unfold sw; rw [Bool.eq_iff_iff, und_iff, und_iff]; split <;> omega
  have E1 : ∀ e, e ≠ a → e ≠ a' → undE a' p e = undE a p e := fun e _ _ => by rw [Bool.eq_iff_iff, undE_iff, undE_iff]; omega
  have E2 : ∀ e g, e ≠ a → e ≠ a' → g ≠ a → g ≠ a' → undE e g a' = undE e g a := fun e g _ _ _ _ => by rw [Bool.eq_iff_iff, undE_iff, undE_iff]; omega
  have ncp : ∀ e, D e → e ≠ a → e ≠ p → undE e (M e) a' = undE e (M e) p := fun e he x y => by
    obtain ⟨m1, m2, m3, m4⟩ := mo e he x y
    rw [E2 _ _ x m4 m1 m3, hA.nc e a he h0 (Ne.symm x) (Ne.symm m1), hp]
  refine ⟨⟨?_, ?_, ?_, ?_⟩, ?_⟩
  · rintro e (⟨he, x⟩ | rfl)
    · by_cases y : e = p
      · rw [y, cp]; exact Or.inr rfl
      · obtain ⟨m1, m2, m3, m4⟩ := mo e he x y
        rw [co e he x y]; exact Or.inl ⟨hA.dom e he, m1⟩
    · rw [ca]; exact Or.inl ⟨Dp, p1⟩
  · rintro e (⟨he, x⟩ | rfl)
    · by_cases y : e = p
      · rw [y, cp, ca]
      · obtain ⟨m1, m2, m3, m4⟩ := mo e he x y
        rw [co e he x y, co _ (hA.dom e he) m1 m2]; exact hA.inv e he
    · rw [ca, cp]
  · rintro e (⟨he, x⟩ | rfl)
    · by_cases y : e = p
      · rw [y, cp]; exact Ne.symm p2
      · rw [co e he x y]; exact hA.ne e he
    · rw [ca]; exact p2
  · have other : ∀ g, D g → g ≠ a → g ≠ p → undE a' p g = undE a' p (M g) := fun g hg x y => by
      obtain ⟨m1, m2, m3, m4⟩ := mo g hg x y
      rw [E1 g x m4, E1 (M g) m1 m3]
      have := hA.nc a g h0 hg x (by rw [hp]; exact y)
      rwa [hp] at this
    rintro e g (⟨he, x⟩ | rfl) (⟨hg, x'⟩ | rfl) n1 n2
    · by_cases y : e = p
      · subst y
        rw [cp] at n2 ⊢
        rw [co g hg x' n1, undE_comm, undE_comm e]; exact other g hg x' n1
      · rw [co e he x y] at n2 ⊢
        by_cases y' : g = p
        · rw [y', cp]; exact (ncp e he x y).symm
        · rw [co g hg x' y']; exact hA.nc e g he hg n1 n2
    · by_cases y : e = p
      · rw [y, cp] at n2; exact absurd rfl n2
      · rw [co e he x y, ca]; exact ncp e he x y
    · rw [ca] at n2 ⊢
      rw [co g hg x' n2]; exact other g hg x' n2
    · exact absurd rfl n1
  · intro i j
    constructor
    · intro h e he
      by_cases x : e = a
      · rw [x, hp, ← F1, ← F1]
        have := h a' (Or.inr rfl); rwa [ca] at this
      by_cases y : e = p
      · rw [y, hpa, und_comm, und_comm p, ← F1, ← F1]
        have := h a' (Or.inr rfl); rwa [ca] at this
      obtain ⟨m1, m2, m3, m4⟩ := mo e he x y
      rw [← F2 _ _ _ x m4 m1 m3, ← F2 _ _ _ x m4 m1 m3]
      have := h e (Or.inl ⟨he, x⟩); rwa [co e he x y] at this
    · rintro h e (⟨he, x⟩ | rfl)
      · by_cases y : e = p
        · rw [y, cp, und_comm, und_comm p, F1, F1]
          have := h a h0; rwa [hp] at this
        · obtain ⟨m1, m2, m3, m4⟩ := mo e he x y
          rw [co e he x y, F2 _ _ _ x m4 m1 m3, F2 _ _ j x m4 m1 m3]; exact h e he
      · rw [ca, F1, F1]
        have := h a h0; rwa [hp] at this

-- a cell in front, and one goes behind
def shM (M : Nat → Nat) (e : Nat) : Nat := M (e - 1) + 1
theorem und_sh (a b i : Nat) : und (a + 1) (b + 1) (i + 1) = und a b i := by rw [Bool.eq_iff_iff, und_iff, und_iff]; omega
theorem undE_sh (a b i : Nat) : undE (a + 1) (b + 1) (i + 1) = undE a b i := by rw [Bool.eq_iff_iff, undE_iff, undE_iff]; omega
theorem shift {D D' : Nat → Prop} {M : Nat → Nat} (hA : Arcs D M) (hD : ∀ e, D' (e + 1) ↔ D e) (hz : ¬ D' 0) :
    Arcs D' (shM M) ∧ (∀ i j, Free D' (shM M) (i + 1) (j + 1) ↔ Free D M i j) ∧ Free D' (shM M) 0 1 := by
  have pos : ∀ e, D' e → ∃ g, e = g + 1 ∧ D g := fun e he => by
    cases e with
    | zero => exact absurd he hz
    | succ g => exact ⟨g, rfl, (hD g).1 he⟩
  have val : ∀ g, shM M (g + 1) = M g + 1 := fun g => by unfold shM; rw [Nat.add_sub_cancel]
  refine ⟨⟨?_, ?_, ?_, ?_⟩, ?_, ?_⟩
  · intro e he; obtain ⟨g, rfl, hg⟩ := pos e he; rw [val]; exact (hD _).2 (hA.dom g hg)
  · intro e he; obtain ⟨g, rfl, hg⟩ := pos e he; rw [val, val, hA.inv g hg]
  · intro e he; obtain ⟨g, rfl, hg⟩ := pos e he; rw [val]; have := hA.ne g hg; omega
  · intro e g he hg n1 n2
    obtain ⟨e, rfl, he'⟩ := pos e he
    obtain ⟨g, rfl, hg'⟩ := pos g hg
    rw [val] at n2
    rw [val, val, undE_sh, undE_sh]; exact hA.nc e g he' hg' (by omega) (by omega)
  · intro i j
    constructor
    · intro h e he; have := h (e + 1) ((hD e).2 he); rwa [val, und_sh, und_sh] at this
    · intro h e he; obtain ⟨g, rfl, hg⟩ := pos e he; rw [val, und_sh, und_sh]; exact h g hg
  · intro e he; obtain ⟨g, rfl, hg⟩ := pos e he
    rw [val, Bool.eq_iff_iff, und_iff, und_iff]; omega
end Go.Proofs.YtbdpngjakccjjaaDoor
