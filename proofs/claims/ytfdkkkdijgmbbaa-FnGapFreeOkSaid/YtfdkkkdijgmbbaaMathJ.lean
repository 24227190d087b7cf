/- Arcs that don't cross, over a row of cells: what of the cells they separate, and what becomes of it when one cell is changed. Classes of linked cells: how their number changes when a cell comes and when two are linked. The scan of the map, cell by cell: the frontier, and what is linked on it. One step of the scan: pieces less closed classes are the sum of what each cell adds. The whole scan: pieces less holes are the sum of what each cell adds. Pieces less holes, and the corners. -/
import Derived.Test.YtfdkkkdijgmbbaaMath
namespace Go.Proofs.Ytfdkkkdijgmbbaa

/-- The cell i lies under the arc from the edge a (between the cells a and a + 1) to the edge b. -/
def und (a b i : Nat) : Bool := decide ((a < i ∧ i ≤ b) ∨ (b < i ∧ i ≤ a))
/-- The edge g lies under the arc from a to b. -/
def undE (a b g : Nat) : Bool := decide ((a < g ∧ g < b) ∨ (b < g ∧ g < a))
theorem und_iff {a b i : Nat} : und a b i = true ↔ ((a < i ∧ i ≤ b) ∨ (b < i ∧ i ≤ a)) := by unfold und; simp
theorem undE_iff {a b i : Nat} : undE a b i = true ↔ ((a < i ∧ i < b) ∨ (b < i ∧ i < a)) := by unfold undE; simp
theorem und_comm (a b i : Nat) : und a b i = und b a i := by rw [Bool.eq_iff_iff, und_iff, und_iff]; omega
theorem undE_comm (a b i : Nat) : undE a b i = undE b a i := by rw [Bool.eq_iff_iff, undE_iff, undE_iff]; omega
/-- laid end to end -/
theorem und_chain (a b c i : Nat) : und a c i = (und a b i ^^ und b c i) := by
  have h1 := @und_iff a c i
  have h2 := @und_iff a b i
  have h3 := @und_iff b c i
  cases e1 : und a c i <;> cases e2 : und a b i <;> cases e3 : und b c i <;> simp [e1, e2, e3] at h1 h2 h3 ⊢ <;> omega
/-- the cell behind an edge that isn't an end -/
theorem und_step (a b k : Nat) (ha : a ≠ k) (hb : b ≠ k) : und a b (k + 1) = und a b k := by
  rw [Bool.eq_iff_iff, und_iff, und_iff]; omega
theorem und_end (b k : Nat) (hb : b ≠ k) : und k b (k + 1) = !und k b k := by
  have h1 := @und_iff k b k
  have h2 := @und_iff k b (k + 1)
  cases e1 : und k b k <;> cases e2 : und k b (k + 1) <;> simp [e1, e2] at h1 h2 ⊢ <;> omega
theorem und_edge (a b k : Nat) (ha : a ≠ k) (hb : b ≠ k) : undE a b k = und a b k := by
  rw [Bool.eq_iff_iff, und_iff, undE_iff]; omega
theorem cross_symm (a b c d : Nat) (h1 : c ≠ a) (h2 : c ≠ b) (h3 : d ≠ a) (h4 : d ≠ b) (h : undE a b c = undE a b d) : undE c d a = undE c d b := by
  rw [Bool.eq_iff_iff, undE_iff, undE_iff] at h ⊢; omega
/-- Two arcs that don't cross make three parts. -/
theorem three (a b c d x y z t : Nat) (h1 : c ≠ a) (h2 : c ≠ b) (h3 : d ≠ a) (h4 : d ≠ b) (h : undE a b c = undE a b d)
    (u v : Bool) (x1 : und a b x = u) (x2 : und c d x = v) (y1 : und a b y = !u) (y2 : und c d y = v)
    (z1 : und a b z = !u) (z2 : und c d z = !v) (t1 : und a b t = u) (t2 : und c d t = !v) : False := by
  have sw : ∀ (a b c d : Nat), a ≤ b → c ≤ d → c ≠ a → c ≠ b → d ≠ a → d ≠ b → undE a b c = undE a b d → ∀ p q r s : Nat,
      und a b p = true → und c d p = true → und a b q = false → und c d q = true → und a b r = true → und c d r = false → und a b s = false → und c d s = false → False := by
    intro a b c d hab hcd h1 h2 h3 h4 h p q r s p1 p2 q1 q2 r1 r2 s1 s2
    rw [Bool.eq_iff_iff, undE_iff, undE_iff] at h
    rw [und_iff] at p1 p2 q2 r1
    rw [← Bool.not_eq_true, und_iff] at q1 r2
    omega
  have go : ∀ p q r s : Nat,
      und a b p = true → und c d p = true → und a b q = false → und c d q = true → und a b r = true → und c d r = false → und a b s = false → und c d s = false → False := by
    intro p q r s p1 p2 q1 q2 r1 r2 s1 s2
    rcases Nat.le_total a b with hab | hab <;> rcases Nat.le_total c d with hcd | hcd
    · exact sw a b c d hab hcd h1 h2 h3 h4 h p q r s p1 p2 q1 q2 r1 r2 s1 s2
    · rw [und_comm c d] at p2 q2 r2 s2; exact sw a b d c hab hcd h3 h4 h1 h2 h.symm p q r s p1 p2 q1 q2 r1 r2 s1 s2
    · rw [und_comm a b] at p1 q1 r1 s1; rw [undE_comm a b, undE_comm a b] at h; exact sw b a c d hab hcd h2 h1 h4 h3 h p q r s p1 p2 q1 q2 r1 r2 s1 s2
    · rw [und_comm c d] at p2 q2 r2 s2; rw [und_comm a b] at p1 q1 r1 s1; rw [undE_comm a b, undE_comm a b] at h; exact sw b a d c hab hcd h4 h3 h2 h1 h.symm p q r s p1 p2 q1 q2 r1 r2 s1 s2
  cases u <;> cases v
  · exact go z t y x z1 z2 t1 t2 y1 y2 x1 x2
  · exact go y x z t y1 y2 x1 x2 z1 z2 t1 t2
  · exact go t z x y t1 t2 z1 z2 x1 x2 y1 y2
  · exact go x y t z x1 x2 y1 y2 t1 t2 z1 z2

/-- Arcs on the edges with D: each has its partner, and no two cross. -/
structure Arcs (D : Nat → Prop) (M : Nat → Nat) : Prop where
  dom : ∀ e, D e → D (M e)
  inv : ∀ e, D e → M (M e) = e
  ne : ∀ e, D e → M e ≠ e
  nc : ∀ e g, D e → D g → g ≠ e → g ≠ M e → undE e (M e) g = undE e (M e) (M g)
/-- No arc separates i from j. -/
def Free (D : Nat → Prop) (M : Nat → Nat) (i j : Nat) : Prop := ∀ e, D e → und e (M e) i = und e (M e) j
theorem Free.rfl' {D : Nat → Prop} {M : Nat → Nat} (i : Nat) : Free D M i i := fun _ _ => rfl
theorem Free.symm {D : Nat → Prop} {M : Nat → Nat} {i j : Nat} (h : Free D M i j) : Free D M j i := fun e he => (h e he).symm
theorem Free.trans {D : Nat → Prop} {M : Nat → Nat} {i j k : Nat} (h : Free D M i j) (h' : Free D M j k) : Free D M i k := fun e he => (h e he).trans (h' e he)

-- a new pair at the edges k and k + 1
def cupM (M : Nat → Nat) (k e : Nat) : Nat := if e = k then k + 1 else if e = k + 1 then k else M e
theorem cup {D : Nat → Prop} {M : Nat → Nat} {k : Nat} (hA : Arcs D M) (h0 : ¬ D k) (h1 : ¬ D (k + 1)) :
    Arcs (fun e => D e ∨ e = k ∨ e = k + 1) (cupM M k) ∧
    ∀ i j, Free (fun e => D e ∨ e = k ∨ e = k + 1) (cupM M k) i j ↔ ((i = k + 1 ↔ j = k + 1) ∧ (i ≠ k + 1 → Free D M i j)) := by
  have c0 : cupM M k k = k + 1 := by unfold cupM; rw [if_pos rfl]
  have c1 : cupM M k (k + 1) = k := by unfold cupM; rw [if_neg (by omega), if_pos rfl]
  have cM : ∀ e, D e → cupM M k e = M e := fun e he => by
    have a1 : e ≠ k := fun h => h0 (h ▸ he)
    have a2 : e ≠ k + 1 := fun h => h1 (h ▸ he)
    unfold cupM; rw [if_neg a1, if_neg a2]
  have nk : ∀ e, D e → e ≠ k ∧ e ≠ k + 1 := fun e he => ⟨fun h => h0 (h ▸ he), fun h => h1 (h ▸ he)⟩
  refine ⟨⟨?_, ?_, ?_, ?_⟩, ?_⟩
  · rintro e (he | rfl | rfl)
    · rw [cM e he]; exact Or.inl (hA.dom e he)
    · rw [c0]; exact Or.inr (Or.inr rfl)
    · rw [c1]; exact Or.inr (Or.inl rfl)
  · rintro e (he | rfl | rfl)
    · rw [cM e he, cM _ (hA.dom e he)]; exact hA.inv e he
    · rw [c0, c1]
    · rw [c1, c0]
  · rintro e (he | rfl | rfl)
    · rw [cM e he]; exact hA.ne e he
    · rw [c0]; omega
    · rw [c1]; omega
  · have small : ∀ g, D g → undE k (k + 1) g = undE k (k + 1) (M g) := fun g hg => by
      rw [Bool.eq_iff_iff, undE_iff, undE_iff]; omega
    rintro e g (he | rfl | rfl) (hg | rfl | rfl) n1 n2
    · rw [cM e he, cM g hg]; rw [cM e he] at n2; exact hA.nc e g he hg n1 n2
    · rw [cM e he, c0]
      have := nk e he; have := nk _ (hA.dom e he)
      rw [Bool.eq_iff_iff, undE_iff, undE_iff]; omega
    · rw [cM e he, c1]
      have := nk e he; have := nk _ (hA.dom e he)
      rw [Bool.eq_iff_iff, undE_iff, undE_iff]; omega
    · rw [c0, cM g hg]; exact small g hg
    · exact absurd rfl n1
    · rw [c0] at n2; exact absurd rfl n2
    · rw [c1, cM g hg, undE_comm, undE_comm (k + 1)]; exact small g hg
    · rw [c1] at n2; exact absurd rfl n2
    · exact absurd rfl n1
  · have own : ∀ i, und k (k + 1) i = decide (i = k + 1) := fun i => by
      rw [Bool.eq_iff_iff, und_iff, decide_eq_true_iff]; omega
    intro i j
    constructor
    · intro h
      refine ⟨?_, fun _ e he => ?_⟩
      · have := h k (Or.inr (Or.inl rfl))
        rw [c0, own, own, decide_eq_decide] at this; exact this
      · have := h e (Or.inl he); rwa [cM e he] at this
    · rintro ⟨h, h'⟩
      rintro e (he | rfl | rfl)
      · rw [cM e he]
        by_cases hi : i = k + 1
        · rw [hi, h.1 hi]
        · exact h' hi e he
      · rw [c0, own, own, decide_eq_decide]; exact h
      · rw [c1, und_comm, und_comm (k + 1), own, own, decide_eq_decide]; exact h

-- the pair at the edges k and k + 1 goes
def capM (M : Nat → Nat) (k e : Nat) : Nat := if e = M k then M (k + 1) else if e = M (k + 1) then M k else M e
theorem cap_own {D : Nat → Prop} {M : Nat → Nat} {k : Nat} (hA : Arcs D M) (h0 : D k) (hm : M k = k + 1) :
    Arcs (fun e => D e ∧ e ≠ k ∧ e ≠ k + 1) M ∧ Free D M k (k + 2) ∧
    (∀ i j, i ≠ k + 1 → j ≠ k + 1 → (Free (fun e => D e ∧ e ≠ k ∧ e ≠ k + 1) M i j ↔ Free D M i j)) ∧ ∀ i, i ≠ k + 1 → ¬ Free D M i (k + 1) := by
  have hm1 : M (k + 1) = k := by rw [← hm]; exact hA.inv k h0
  have own : ∀ i, und k (k + 1) i = decide (i = k + 1) := fun i => by
    rw [Bool.eq_iff_iff, und_iff, decide_eq_true_iff]; omega
  have mk : ∀ e, D e → e ≠ k → e ≠ k + 1 → M e ≠ k ∧ M e ≠ k + 1 := fun e he a b => by
    constructor
    · intro h; have := hA.inv e he; rw [h, hm] at this; omega
    · intro h; have := hA.inv e he; rw [h, hm1] at this; omega
  refine ⟨⟨?_, ?_, ?_, ?_⟩, ?_, ?_, ?_⟩
  · rintro e ⟨he, a, b⟩; exact ⟨hA.dom e he, mk e he a b⟩
  · rintro e ⟨he, _⟩; exact hA.inv e he
  · rintro e ⟨he, _⟩; exact hA.ne e he
  · rintro e g ⟨he, _⟩ ⟨hg, _⟩; exact hA.nc e g he hg
  · intro e he
    by_cases a : e = k
    · rw [a, hm, own, own, decide_eq_decide]; omega
    by_cases b : e = k + 1
    · rw [b, hm1, und_comm, und_comm (k + 1), own, own, decide_eq_decide]; omega
    obtain ⟨c, d⟩ := mk e he a b
    rw [show k + 2 = (k + 1) + 1 from rfl, und_step _ _ _ b d, und_step _ _ _ a c]
  · intro i j hi hj
    constructor
    · intro h e he
      by_cases a : e = k
      · rw [a, hm, own, own, decide_eq_decide]; omega
      by_cases b : e = k + 1
      · rw [b, hm1, und_comm, und_comm (k + 1), own, own, decide_eq_decide]; omega
      exact h e ⟨he, a, b⟩
    · intro h e he; exact h e he.1
  · intro i hi h
    have := h k h0
    rw [hm, own, own, decide_eq_decide] at this
    omega
theorem cap_two {D : Nat → Prop} {M : Nat → Nat} {k : Nat} (hA : Arcs D M) (h0 : D k) (h1 : D (k + 1)) (hm : M k ≠ k + 1) :
    Arcs (fun e => D e ∧ e ≠ k ∧ e ≠ k + 1) (capM M k) ∧ ¬ Free D M k (k + 2) ∧
    ∀ i j, i ≠ k + 1 → j ≠ k + 1 → (Free (fun e => D e ∧ e ≠ k ∧ e ≠ k + 1) (capM M k) i j ↔ Free D M i j ∨ (Free D M i k ∧ Free D M (k + 2) j) ∨ (Free D M i (k + 2) ∧ Free D M k j)) := by
  have hm1 : M (k + 1) ≠ k := fun h => by have := hA.inv _ h1; rw [h] at this; exact hm this
  obtain ⟨p, hp⟩ : ∃ p, M k = p := ⟨_, rfl⟩
  obtain ⟨q, hq⟩ : ∃ q, M (k + 1) = q := ⟨_, rfl⟩
  have hpk : M p = k := by rw [← hp]; exact hA.inv k h0
  have hqk : M q = k + 1 := by rw [← hq]; exact hA.inv _ h1
  have Dp : D p := hp ▸ hA.dom k h0
  have Dq : D q := hq ▸ hA.dom _ h1
  have p0 : p ≠ k := hp ▸ hA.ne k h0
  have q1 : q ≠ k + 1 := hq ▸ hA.ne _ h1
  rw [hp] at hm
  rw [hq] at hm1
  have pq : p ≠ q := fun h => by rw [h, hqk] at hpk; omega
  have ncAB : undE k p (k + 1) = undE k p q := by
    have := hA.nc k (k + 1) h0 h1 (by omega) (by rw [hp]; omega)
    rwa [hp, hq] at this
  have cp : capM M k p = q := by unfold capM; rw [hp, hq, if_pos rfl]
  have cq : capM M k q = p := by unfold capM; rw [hp, hq, if_neg (Ne.symm pq), if_pos rfl]
  have co : ∀ e, e ≠ p → e ≠ q → capM M k e = M e := fun e a b => by unfold capM; rw [hp, hq, if_neg a, if_neg b]
  have mo : ∀ e, D e → e ≠ k → e ≠ k + 1 → e ≠ p → e ≠ q → M e ≠ k ∧ M e ≠ k + 1 ∧ M e ≠ p ∧ M e ≠ q := fun e he a b c d => by
    have hi := hA.inv e he
    refine ⟨?_, ?_, ?_, ?_⟩ <;> intro h <;> rw [h] at hi <;> omega
  -- what other arcs do
  have ncp : ∀ e, D e → e ≠ k → e ≠ k + 1 → e ≠ p → e ≠ q → undE e (M e) p = undE e (M e) q := fun e he a b c d => by
    obtain ⟨m1, m2, m3, m4⟩ := mo e he a b c d
    have x1 := hA.nc e k he h0 (Ne.symm a) (Ne.symm m1)
    have x2 := hA.nc e (k + 1) he h1 (Ne.symm b) (Ne.symm m2)
    rw [hp] at x1
    rw [hq] at x2
    rw [← x1, ← x2, Bool.eq_iff_iff, undE_iff, undE_iff]
    omega
  have same : ∀ e, D e → e ≠ k → e ≠ k + 1 → e ≠ p → e ≠ q → und e (M e) k = und e (M e) (k + 1) ∧ und e (M e) (k + 1) = und e (M e) (k + 2) := fun e he a b c d => by
    obtain ⟨m1, m2, m3, m4⟩ := mo e he a b c d
    exact ⟨(und_step _ _ _ a m1).symm, (und_step _ _ _ b m2).symm⟩
  have both : ∀ i, i ≠ k + 1 → und p q i = (und k p i ^^ und (k + 1) q i) := fun i hi => by
    rw [und_chain p k q i, und_chain k (k + 1) q i, und_comm p k, show und k (k + 1) i = false by rw [← Bool.not_eq_true, und_iff]; omega]
    simp
  have A0 := und_end p k p0
  have A1 : und k p (k + 2) = und k p (k + 1) := und_step k p (k + 1) (by omega) (fun h => hm h)
  have B0 : und (k + 1) q (k + 1) = und (k + 1) q k := und_step (k + 1) q k (by omega) hm1
  have B1 := und_end q (k + 1) q1
  refine ⟨⟨?_, ?_, ?_, ?_⟩, ?_, ?_⟩
  · rintro e ⟨he, a, b⟩
    by_cases c : e = p
    · rw [c, cp]; exact ⟨Dq, hm1, q1⟩
    by_cases d : e = q
    · rw [d, cq]; exact ⟨Dp, p0, hm⟩
    obtain ⟨m1, m2, m3, m4⟩ := mo e he a b c d
    rw [co e c d]; exact ⟨hA.dom e he, m1, m2⟩
  · rintro e ⟨he, a, b⟩
    by_cases c : e = p
    · rw [c, cp, cq]
    by_cases d : e = q
    · rw [d, cq, cp]
    obtain ⟨m1, m2, m3, m4⟩ := mo e he a b c d
    rw [co e c d, co _ m3 m4]; exact hA.inv e he
  · rintro e ⟨he, a, b⟩
    by_cases c : e = p
    · rw [c, cp]; exact Ne.symm pq
    by_cases d : e = q
    · rw [d, cq]; exact pq
    rw [co e c d]; exact hA.ne e he
  · rintro e g ⟨he, a, b⟩ ⟨hg, a', b'⟩ n1 n2
    by_cases c : e = p
    · subst c
      rw [cp] at n2 ⊢
      obtain ⟨m1, m2, m3, m4⟩ := mo g hg a' b' n1 n2
      rw [co g n1 n2]
      exact cross_symm g (M g) e q (Ne.symm n1) (Ne.symm m3) (Ne.symm n2) (Ne.symm m4) (ncp g hg a' b' n1 n2)
    by_cases d : e = q
    · subst d
      rw [cq] at n2 ⊢
      obtain ⟨m1, m2, m3, m4⟩ := mo g hg a' b' n2 n1
      rw [co g n2 n1]
      exact cross_symm g (M g) e p (Ne.symm n1) (Ne.symm m4) (Ne.symm n2) (Ne.symm m3) (ncp g hg a' b' n2 n1).symm
    rw [co e c d] at n2 ⊢
    by_cases c' : g = p
    · rw [c', cp]; exact ncp e he a b c d
    by_cases d' : g = q
    · rw [d', cq]; exact (ncp e he a b c d).symm
    rw [co g c' d']; exact hA.nc e g he hg n1 n2
  · intro h
    have := h k h0
    rw [hp, A1, A0] at this
    cases hx : und k p k <;> rw [hx] at this <;> exact absurd this (by decide)
  · intro i j hi hj
    have ar : ∀ x y, (und k p x = und k p y) → (und (k + 1) q x = und (k + 1) q y) → (∀ e, D e → e ≠ k → e ≠ k + 1 → e ≠ p → e ≠ q → und e (M e) x = und e (M e) y) → Free D M x y := by
      intro x y h1' h2' h3' e he
      by_cases a : e = k
      · rw [a, hp]; exact h1'
      by_cases b : e = k + 1
      · rw [b, hq]; exact h2'
      by_cases c : e = p
      · rw [c, hpk, und_comm, und_comm p]; exact h1'
      by_cases d : e = q
      · rw [d, hqk, und_comm, und_comm q]; exact h2'
      exact h3' e he a b c d
    have ra : ∀ x y, x ≠ k + 1 → y ≠ k + 1 → (und k p x ^^ und (k + 1) q x) = (und k p y ^^ und (k + 1) q y) → (∀ e, D e → e ≠ k → e ≠ k + 1 → e ≠ p → e ≠ q → und e (M e) x = und e (M e) y) →
        Free (fun e => D e ∧ e ≠ k ∧ e ≠ k + 1) (capM M k) x y := by
      intro x y hx hy h12 h3' e he
      obtain ⟨he, a, b⟩ := he
      by_cases c : e = p
      · rw [c, cp, both x hx, both y hy]; exact h12
      by_cases d : e = q
      · rw [d, cq, und_comm, und_comm q, both x hx, both y hy]; exact h12
      rw [co e c d]; exact h3' e he a b c d
    have f1 : ∀ {x y}, Free D M x y → und k p x = und k p y := fun h => by have := h k h0; rwa [hp] at this
    have f2 : ∀ {x y}, Free D M x y → und (k + 1) q x = und (k + 1) q y := fun h => by have := h (k + 1) h1; rwa [hq] at this
    constructor
    · intro h
      have hx := h p ⟨Dp, p0, hm⟩
      rw [cp, both i hi, both j hj] at hx
      have ho : ∀ e, D e → e ≠ k → e ≠ k + 1 → e ≠ p → e ≠ q → und e (M e) i = und e (M e) j := fun e he a b c d => by
        have := h e ⟨he, a, b⟩; rwa [co e c d] at this
      by_cases hk : und k p i = und k p j
      · have hk2 : und (k + 1) q i = und (k + 1) q j := by
          rw [hk] at hx; revert hx; cases und k p j <;> cases und (k + 1) q i <;> cases und (k + 1) q j <;> decide
        exact Or.inl (ar i j hk hk2 ho)
      · right
        have hk2 : und (k + 1) q i = !und (k + 1) q j := by
          revert hx hk; cases und k p i <;> cases und k p j <;> cases und (k + 1) q i <;> cases und (k + 1) q j <;> decide
        have hk1 : und k p i = !und k p j := by
          revert hk; cases und k p i <;> cases und k p j <;> decide
        -- the fourth part is empty
        have emp : ∀ t, und k p t = und k p k → und (k + 1) q t = !und (k + 1) q k → False := fun t t1 t2 =>
          three k p (k + 1) q k (k + 1) (k + 2) t (by omega) (fun h => hm h.symm) hm1 (Ne.symm pq) ncAB (und k p k) (und (k + 1) q k) rfl rfl A0 B0 (A1.trans A0) (by rw [B1, B0]) t1 t2
        -- other arcs have i, j and k on one side
        have near : ∀ e, D e → e ≠ k → e ≠ k + 1 → e ≠ p → e ≠ q → und e (M e) i = und e (M e) k := fun e he a b c d => by
          obtain ⟨s1, s2⟩ := same e he a b c d
          obtain ⟨m1, m2, m3, m4⟩ := mo e he a b c d
          have hn := hA.nc e k he h0 (Ne.symm a) (Ne.symm m1)
          rw [hp] at hn
          cases hh : (und e (M e) i == und e (M e) k)
          · exfalso
            have hne : und e (M e) i = !und e (M e) k := by
              revert hh; cases und e (M e) i <;> cases und e (M e) k <;> decide
            have hne2 : und e (M e) j = !und e (M e) k := by rw [← ho e he a b c d]; exact hne
            by_cases hki : und k p i = und k p k
            · refine three k p e (M e) k (k + 1) j i a c m1 m3 (cross_symm e (M e) k p (Ne.symm a) (Ne.symm m1) (Ne.symm c) (Ne.symm m3) hn) (und k p k) (und e (M e) k) rfl rfl A0 s1.symm ?_ hne2 hki hne
              rw [← hki, hk1]; simp
            · have hkj : und k p j = und k p k := by
                revert hki hk1; cases und k p i <;> cases und k p j <;> cases und k p k <;> decide
              refine three k p e (M e) k (k + 1) i j a c m1 m3 (cross_symm e (M e) k p (Ne.symm a) (Ne.symm m1) (Ne.symm c) (Ne.symm m3) hn) (und k p k) (und e (M e) k) rfl rfl A0 s1.symm ?_ hne hkj hne2
              rw [hk1, hkj]
          · exact eq_of_beq hh
        have near2 : ∀ e, D e → e ≠ k → e ≠ k + 1 → e ≠ p → e ≠ q → und e (M e) i = und e (M e) (k + 2) := fun e he a b c d => by
          obtain ⟨s1, s2⟩ := same e he a b c d
          rw [near e he a b c d, s1, s2]
        by_cases hki : und k p i = und k p k
        · left
          have hqi : und (k + 1) q i = und (k + 1) q k := by
            cases hh : (und (k + 1) q i == und (k + 1) q k)
            · exfalso; refine emp i hki ?_
              revert hh; cases und (k + 1) q i <;> cases und (k + 1) q k <;> decide
            · exact eq_of_beq hh
          refine ⟨ar i k hki hqi near, ar (k + 2) j ?_ ?_ (fun e he a b c d => by rw [← near2 e he a b c d, ho e he a b c d])⟩
          · rw [A1, A0, ← hki, hk1]; simp
          · rw [B1, B0, ← hqi, hk2]; simp
        · right
          have hkj : und k p j = und k p k := by
            revert hki hk1; cases und k p i <;> cases und k p j <;> cases und k p k <;> decide
          have hqj : und (k + 1) q j = und (k + 1) q k := by
            cases hh : (und (k + 1) q j == und (k + 1) q k)
            · exfalso; refine emp j hkj ?_
              revert hh; cases und (k + 1) q j <;> cases und (k + 1) q k <;> decide
            · exact eq_of_beq hh
          refine ⟨ar i (k + 2) ?_ ?_ near2, ar k j hkj.symm hqj.symm (fun e he a b c d => by rw [← near e he a b c d, ho e he a b c d])⟩
          · rw [A1, A0, hk1, hkj]
          · rw [B1, B0, hk2, hqj]
    · rintro (h | ⟨h, h'⟩ | ⟨h, h'⟩)
      · exact ra i j hi hj (by rw [f1 h, f2 h]) (fun e he _ _ _ _ => h e he)
      · refine ra i j hi hj ?_ (fun e he a b c d => by obtain ⟨s1, s2⟩ := same e he a b c d; rw [h e he, s1, s2, h' e he])
        rw [f1 h, f2 h, ← f1 h', ← f2 h', A1, A0, B1, B0]
        cases und k p k <;> cases und (k + 1) q k <;> rfl
      · refine ra i j hi hj ?_ (fun e he a b c d => by obtain ⟨s1, s2⟩ := same e he a b c d; rw [h e he, ← s2, ← s1, h' e he])
        rw [f1 h, f2 h, ← f1 h', ← f2 h', A1, A0, B1, B0]
        cases und k p k <;> cases und (k + 1) q k <;> rfl

/-- The class of the middle cell goes on, if its two changes aren't partners. -/
theorem cap_left {D : Nat → Prop} {M : Nat → Nat} {k : Nat} (hA : Arcs D M) (h0 : D k) (hm : M k ≠ k + 1) : D (M k) ∧ M k ≠ k + 1 ∧ Free D M (M k) (k + 1) := by
  refine ⟨hA.dom k h0, hm, ?_⟩
  have hpk := hA.inv k h0
  have hne := hA.ne k h0
  generalize hp : M k = p at hm hpk hne
  have own : und k p p = und k p (k + 1) := by rw [Bool.eq_iff_iff, und_iff, und_iff]; omega
  intro e he
  by_cases a : e = k
  · rw [a, hp]; exact own
  by_cases b : e = p
  · rw [b, hpk, und_comm, und_comm p]; exact own
  have hi := hA.inv e he
  have m1 : M e ≠ k := fun h => by rw [h, hp] at hi; exact b hi.symm
  have m2 : M e ≠ p := fun h => by rw [h, hpk] at hi; exact a hi.symm
  have hn := hA.nc e k he h0 (Ne.symm a) (Ne.symm m1)
  rw [hp, und_edge _ _ _ a m1, und_edge _ _ _ b m2] at hn
  rw [und_step _ _ _ a m1, hn]

-- the change goes from one side of the middle cell to the other one
def sldM (M : Nat → Nat) (a a' e : Nat) : Nat := if e = a' then M a else if M e = a then a' else M e
def sw (k t i : Nat) : Nat := if i = k + 1 then t else i
theorem sw_mid (k t : Nat) : sw k t (k + 1) = t := by unfold sw; rw [if_pos rfl]
theorem sw_else {k t i : Nat} (h : i ≠ k + 1) : sw k t i = i := by unfold sw; rw [if_neg h]
theorem slide {D : Nat → Prop} {M : Nat → Nat} {k a a' t : Nat} (hA : Arcs D M) (hc : (a = k ∧ a' = k + 1 ∧ t = k) ∨ (a = k + 1 ∧ a' = k ∧ t = k + 2)) (h0 : D a) (h1 : ¬ D a') :
    Arcs (fun e => (D e ∧ e ≠ a) ∨ e = a') (sldM M a a') ∧ ∀ i j, Free (fun e => (D e ∧ e ≠ a) ∨ e = a') (sldM M a a') i j ↔ Free D M (sw k t i) (sw k t j) := by
  obtain ⟨p, hp⟩ : ∃ p, M a = p := ⟨_, rfl⟩
  have Dp : D p := hp ▸ hA.dom a h0
  have hpa : M p = a := by rw [← hp]; exact hA.inv a h0
  have p1 : p ≠ a := hp ▸ hA.ne a h0
  have p2 : p ≠ a' := fun h => h1 (h ▸ Dp)
  have aa : a ≠ a' := by omega
  have ca : sldM M a a' a' = p := by unfold sldM; rw [if_pos rfl, hp]
  have cp : sldM M a a' p = a' := by unfold sldM; rw [if_neg p2, if_pos hpa]
  have mo : ∀ e, D e → e ≠ a → e ≠ p → M e ≠ a ∧ M e ≠ p ∧ M e ≠ a' ∧ e ≠ a' := fun e he x y => by
    have hi := hA.inv e he
    refine ⟨?_, ?_, fun h => h1 (h ▸ hA.dom e he), fun h => h1 (h ▸ he)⟩
    · intro h; rw [h, hp] at hi; exact y hi.symm
    · intro h; rw [h, hpa] at hi; exact x hi.symm
  have co : ∀ e, D e → e ≠ a → e ≠ p → sldM M a a' e = M e := fun e he x y => by
    obtain ⟨m1, m2, m3, m4⟩ := mo e he x y
    unfold sldM; rw [if_neg m4, if_neg m1]
  have F1 : ∀ i, und a' p i = und a p (sw k t i) := fun i => by
    unfold sw; rw [Bool.eq_iff_iff, und_iff, und_iff]; split <;> omega
  have F2 : ∀ e g i, e ≠ a → e ≠ a' → g ≠ a → g ≠ a' → und e g i = und e g (sw k t i) := fun e g i _ _ _ _ => by
    unfold sw; rw [Bool.eq_iff_iff, und_iff, und_iff]; split <;> omega
  have E1 : ∀ e, e ≠ a → e ≠ a' → undE a' p e = undE a p e := fun e _ _ => by rw [Bool.eq_iff_iff, undE_iff, undE_iff]; omega
  have E2 : ∀ e g, e ≠ a → e ≠ a' → g ≠ a → g ≠ a' → undE e g a' = undE e g a := fun e g _ _ _ _ => by rw [Bool.eq_iff_iff, undE_iff, undE_iff]; omega
  have ncp : ∀ e, D e → e ≠ a → e ≠ p → undE e (M e) a' = undE e (M e) p := fun e he x y => by
    obtain ⟨m1, m2, m3, m4⟩ := mo e he x y
    rw [E2 _ _ x m4 m1 m3, hA.nc e a he h0 (Ne.symm x) (Ne.symm m1), hp]
  refine ⟨⟨?_, ?_, ?_, ?_⟩, ?_⟩
  · rintro e (⟨he, x⟩ | rfl)
    · by_cases y : e = p
      · rw [y, cp]; exact Or.inr rfl
      · obtain ⟨m1, m2, m3, m4⟩ := mo e he x y
        rw [co e he x y]; exact Or.inl ⟨hA.dom e he, m1⟩
    · rw [ca]; exact Or.inl ⟨Dp, p1⟩
  · rintro e (⟨he, x⟩ | rfl)
    · by_cases y : e = p
      · rw [y, cp, ca]
      · obtain ⟨m1, m2, m3, m4⟩ := mo e he x y
        rw [co e he x y, co _ (hA.dom e he) m1 m2]; exact hA.inv e he
    · rw [ca, cp]
  · rintro e (⟨he, x⟩ | rfl)
    · by_cases y : e = p
      · rw [y, cp]; exact Ne.symm p2
      · rw [co e he x y]; exact hA.ne e he
    · rw [ca]; exact p2
  · have other : ∀ g, D g → g ≠ a → g ≠ p → undE a' p g = undE a' p (M g) := fun g hg x y => by
      obtain ⟨m1, m2, m3, m4⟩ := mo g hg x y
      rw [E1 g x m4, E1 (M g) m1 m3]
      have := hA.nc a g h0 hg x (by rw [hp]; exact y)
      rwa [hp] at this
    rintro e g (⟨he, x⟩ | rfl) (⟨hg, x'⟩ | rfl) n1 n2
    · by_cases y : e = p
      · subst y
        rw [cp] at n2 ⊢
        rw [co g hg x' n1, undE_comm, undE_comm e]; exact other g hg x' n1
      · rw [co e he x y] at n2 ⊢
        by_cases y' : g = p
        · rw [y', cp]; exact (ncp e he x y).symm
        · rw [co g hg x' y']; exact hA.nc e g he hg n1 n2
    · by_cases y : e = p
      · rw [y, cp] at n2; exact absurd rfl n2
      · rw [co e he x y, ca]; exact ncp e he x y
    · rw [ca] at n2 ⊢
      rw [co g hg x' n2]; exact other g hg x' n2
    · exact absurd rfl n1
  · intro i j
    constructor
    · intro h e he
      by_cases x : e = a
      · rw [x, hp, ← F1, ← F1]
        have := h a' (Or.inr rfl); rwa [ca] at this
      by_cases y : e = p
      · rw [y, hpa, und_comm, und_comm p, ← F1, ← F1]
        have := h a' (Or.inr rfl); rwa [ca] at this
      obtain ⟨m1, m2, m3, m4⟩ := mo e he x y
      rw [← F2 _ _ _ x m4 m1 m3, ← F2 _ _ _ x m4 m1 m3]
      have := h e (Or.inl ⟨he, x⟩); rwa [co e he x y] at this
    · rintro h e (⟨he, x⟩ | rfl)
      · by_cases y : e = p
        · rw [y, cp, und_comm, und_comm p, F1, F1]
          have := h a h0; rwa [hp] at this
        · obtain ⟨m1, m2, m3, m4⟩ := mo e he x y
          rw [co e he x y, F2 _ _ _ x m4 m1 m3, F2 _ _ j x m4 m1 m3]; exact h e he
      · rw [ca, F1, F1]
        have := h a h0; rwa [hp] at this

-- a cell in front, and one goes behind
def shM (M : Nat → Nat) (e : Nat) : Nat := M (e - 1) + 1
theorem und_sh (a b i : Nat) : und (a + 1) (b + 1) (i + 1) = und a b i := by rw [Bool.eq_iff_iff, und_iff, und_iff]; omega
theorem undE_sh (a b i : Nat) : undE (a + 1) (b + 1) (i + 1) = undE a b i := by rw [Bool.eq_iff_iff, undE_iff, undE_iff]; omega
theorem shift {D D' : Nat → Prop} {M : Nat → Nat} (hA : Arcs D M) (hD : ∀ e, D' (e + 1) ↔ D e) (hz : ¬ D' 0) :
    Arcs D' (shM M) ∧ (∀ i j, Free D' (shM M) (i + 1) (j + 1) ↔ Free D M i j) ∧ Free D' (shM M) 0 1 := by
  have pos : ∀ e, D' e → ∃ g, e = g + 1 ∧ D g := fun e he => by
    cases e with
    | zero => exact absurd he hz
    | succ g => exact ⟨g, rfl, (hD g).1 he⟩
  have val : ∀ g, shM M (g + 1) = M g + 1 := fun g => by unfold shM; rw [Nat.add_sub_cancel]
  refine ⟨⟨?_, ?_, ?_, ?_⟩, ?_, ?_⟩
  · intro e he; obtain ⟨g, rfl, hg⟩ := pos e he; rw [val]; exact (hD _).2 (hA.dom g hg)
  · intro e he; obtain ⟨g, rfl, hg⟩ := pos e he; rw [val, val, hA.inv g hg]
  · intro e he; obtain ⟨g, rfl, hg⟩ := pos e he; rw [val]; have := hA.ne g hg; omega
  · intro e g he hg n1 n2
    obtain ⟨e, rfl, he'⟩ := pos e he
    obtain ⟨g, rfl, hg'⟩ := pos g hg
    rw [val] at n2
    rw [val, val, undE_sh, undE_sh]; exact hA.nc e g he' hg' (by omega) (by omega)
  · intro i j
    constructor
    · intro h e he; have := h (e + 1) ((hD e).2 he); rwa [val, und_sh, und_sh] at this
    · intro h e he; obtain ⟨g, rfl, hg⟩ := pos e he; rw [val, und_sh, und_sh]; exact h g hg
  · intro e he; obtain ⟨g, rfl, hg⟩ := pos e he
    rw [val, Bool.eq_iff_iff, und_iff, und_iff]; omega
end Go.Proofs.Ytfdkkkdijgmbbaa
namespace Go.Proofs.Ytfdkkkdijgmbbaa

structure Eqv (R : Nat → Nat → Prop) : Prop where
  refl : ∀ a, R a a
  symm : ∀ a b, R a b → R b a
  trans : ∀ a b c, R a b → R b c → R a c
/-- a and b are linked, too -/
def J (R : Nat → Nat → Prop) (a b i j : Nat) : Prop := R i j ∨ (R i a ∧ R b j) ∨ (R i b ∧ R a j)
theorem J_eqv {R : Nat → Nat → Prop} (h : Eqv R) (a b : Nat) : Eqv (J R a b) := by
  refine ⟨fun i => Or.inl (h.refl i), ?_, ?_⟩
  · rintro i j (x | ⟨x, y⟩ | ⟨x, y⟩)
    · exact Or.inl (h.symm _ _ x)
    · exact Or.inr (Or.inr ⟨h.symm _ _ y, h.symm _ _ x⟩)
    · exact Or.inr (Or.inl ⟨h.symm _ _ y, h.symm _ _ x⟩)
  · rintro i j k (x | ⟨x, y⟩ | ⟨x, y⟩) (u | ⟨u, v⟩ | ⟨u, v⟩)
    · exact Or.inl (h.trans _ _ _ x u)
    · exact Or.inr (Or.inl ⟨h.trans _ _ _ x u, v⟩)
    · exact Or.inr (Or.inr ⟨h.trans _ _ _ x u, v⟩)
    · exact Or.inr (Or.inl ⟨x, h.trans _ _ _ y u⟩)
    · exact Or.inr (Or.inl ⟨x, v⟩)
    · exact Or.inl (h.trans _ _ _ x v)
    · exact Or.inr (Or.inr ⟨x, h.trans _ _ _ y u⟩)
    · exact Or.inl (h.trans _ _ _ x v)
    · exact Or.inr (Or.inr ⟨x, v⟩)
theorem J_same {R : Nat → Nat → Prop} (h : Eqv R) {a b : Nat} (hab : R a b) (i j : Nat) : J R a b i j ↔ R i j := by
  constructor
  · rintro (x | ⟨x, y⟩ | ⟨x, y⟩)
    · exact x
    · exact h.trans _ _ _ x (h.trans _ _ _ hab y)
    · exact h.trans _ _ _ x (h.trans _ _ _ (h.symm _ _ hab) y)
  · exact Or.inl
theorem J_link {R : Nat → Nat → Prop} (h : Eqv R) (a b : Nat) : J R a b a b := Or.inr (Or.inl ⟨h.refl _, h.refl _⟩)
/-- the cell c, alone up to now, is linked to x -/
def rc (c x a : Nat) : Nat := if a = c then x else a
theorem J_new {R : Nat → Nat → Prop} (h : Eqv R) {c x : Nat} (hc : ∀ b, R c b → b = c) (i j : Nat) : J R x c i j ↔ R (rc c x i) (rc c x j) := by
  have hc' : ∀ b, R b c → b = c := fun b hb => hc b (h.symm _ _ hb)
  unfold rc J
  by_cases hi : i = c <;> by_cases hj : j = c
  · rw [if_pos hi, if_pos hj, hi, hj]; exact ⟨fun _ => h.refl _, fun _ => Or.inl (h.refl _)⟩
  · rw [if_pos hi, if_neg hj, hi]
    constructor
    · rintro (y | ⟨y, z⟩ | ⟨y, z⟩)
      · exact absurd (hc _ y) hj
      · exact absurd (hc _ z) hj
      · exact z
    · intro y; exact Or.inr (Or.inr ⟨h.refl _, y⟩)
  · rw [if_neg hi, if_pos hj, hj]
    constructor
    · rintro (y | ⟨y, z⟩ | ⟨y, z⟩)
      · exact absurd (hc' _ y) hi
      · exact y
      · exact absurd (hc' _ y) hi
    · intro y; exact Or.inr (Or.inl ⟨y, h.refl _⟩)
  · rw [if_neg hi, if_neg hj]
    constructor
    · rintro (y | ⟨y, z⟩ | ⟨y, z⟩)
      · exact y
      · exact absurd (hc _ z) hj
      · exact absurd (hc' _ y) hi
    · exact Or.inl
/-- The first cell of its class. -/
def Rep (R : Nat → Nat → Prop) (a : Nat) : Prop := ∀ b, b < a → ¬ R b a
theorem rep_ex {R : Nat → Nat → Prop} (h : Eqv R) (a : Nat) : ∃ r, r ≤ a ∧ R r a ∧ Rep R r := by
  induction a using Nat.strongRecOn with
  | ind a ih =>
    by_cases hr : Rep R a
    · exact ⟨a, Nat.le_refl _, h.refl _, hr⟩
    · have : ∃ b, b < a ∧ R b a := Classical.byContradiction fun hn => hr fun b hb hR => hn ⟨b, hb, hR⟩
      obtain ⟨b, hb, hR⟩ := this
      obtain ⟨r, h1, h2, h3⟩ := ih b hb
      exact ⟨r, by omega, h.trans _ _ _ h2 hR, h3⟩
theorem rep_one {R : Nat → Nat → Prop} {a b : Nat} (h : Eqv R) (ha : Rep R a) (hb : Rep R b) (hR : R a b) : a = b := by
  rcases Nat.lt_trichotomy a b with x | x | x
  · exact absurd hR (hb a x)
  · exact x
  · exact absurd (h.symm _ _ hR) (ha b x)
/-- one first cell is none any more -/
theorem join_rep {R : Nat → Nat → Prop} (h : Eqv R) {a b : Nat} (hab : ¬ R a b) :
    ∃ k, (k ≤ a ∨ k ≤ b) ∧ (R k a ∨ R k b) ∧ Rep R k ∧ ∀ x, Rep (J R a b) x ↔ Rep R x ∧ x ≠ k := by
  obtain ⟨p, p1, p2, p3⟩ := rep_ex h a
  obtain ⟨q, q1, q2, q3⟩ := rep_ex h b
  have less : ∀ x, Rep (J R a b) x → Rep R x := fun x hx y hy hR => hx y hy (Or.inl hR)
  rcases Nat.lt_trichotomy p q with x | x | x
  · refine ⟨q, Or.inr q1, Or.inr q2, q3, fun z => ⟨fun hz => ⟨less z hz, ?_⟩, ?_⟩⟩
    · rintro rfl; exact hz p x (Or.inr (Or.inl ⟨p2, h.symm _ _ q2⟩))
    · rintro ⟨hz, hne⟩ y hy (u | ⟨u, v⟩ | ⟨u, v⟩)
      · exact hz y hy u
      · exact hne (rep_one h q3 hz (h.trans _ _ _ q2 v)).symm
      · have e := rep_one h p3 hz (h.trans _ _ _ p2 v)
        exact q3 y (by omega) (h.trans _ _ _ u (h.symm _ _ q2))
  · exact absurd (h.trans _ _ _ (h.symm _ _ p2) (x ▸ q2)) hab
  · refine ⟨p, Or.inl p1, Or.inl p2, p3, fun z => ⟨fun hz => ⟨less z hz, ?_⟩, ?_⟩⟩
    · rintro rfl; exact hz q x (Or.inr (Or.inr ⟨q2, h.symm _ _ p2⟩))
    · rintro ⟨hz, hne⟩ y hy (u | ⟨u, v⟩ | ⟨u, v⟩)
      · exact hz y hy u
      · have e := rep_one h q3 hz (h.trans _ _ _ q2 v)
        exact p3 y (by omega) (h.trans _ _ _ u (h.symm _ _ p2))
      · exact hne (rep_one h p3 hz (h.trans _ _ _ p2 v)).symm
open Classical in
/-- How many of the first t have P. -/
noncomputable def cntP (t : Nat) (P : Nat → Prop) : Int := sumN t fun a => one (decide (P a))
theorem cntP_congr {t : Nat} {P Q : Nat → Prop} (h : ∀ a, a < t → (P a ↔ Q a)) : cntP t P = cntP t Q := by
  unfold cntP; refine sumN_congr fun a ha => ?_
  rw [decide_eq_decide.2 (h a ha)]
open Classical in
theorem cntP_yes {t : Nat} {P : Nat → Prop} (h : P t) : cntP (t + 1) P = cntP t P + 1 := by
  unfold cntP; simp only [sumN]; rw [decide_eq_true h]; rfl
open Classical in
theorem cntP_no {t : Nat} {P : Nat → Prop} (h : ¬ P t) : cntP (t + 1) P = cntP t P := by
  unfold cntP; simp only [sumN]; rw [decide_eq_false h]; simp [one]
theorem cntP_drop {t k : Nat} {P Q : Nat → Prop} (hk : k < t) (hP : P k) (h : ∀ a, a < t → (Q a ↔ P a ∧ a ≠ k)) : cntP t Q = cntP t P - 1 := by
  induction t with
  | zero => omega
  | succ t ih =>
    by_cases e : k = t
    · subst e
      rw [cntP_yes hP, cntP_no (fun hq => ((h k (by omega)).1 hq).2 rfl), cntP_congr (Q := P) (fun a ha => ⟨fun hq => ((h a (by omega)).1 hq).1, fun hp => (h a (by omega)).2 ⟨hp, by omega⟩⟩)]
      omega
    · have := ih (by omega) (fun a ha => h a (by omega))
      have ht := h t (by omega)
      by_cases hp : P t
      · rw [cntP_yes hp, cntP_yes (ht.2 ⟨hp, fun x => e x.symm⟩), this]; omega
      · rw [cntP_no hp, cntP_no (fun hq => hp (ht.1 hq).1), this]
/-- two classes of the kind Q become one -/
theorem cnt_join {R : Nat → Nat → Prop} {Q : Nat → Prop} {t a b : Nat} (h : Eqv R) (hab : ¬ R a b) (ha : a < t) (hb : b < t) (hQ : ∀ x y, R x y → (Q x ↔ Q y)) (hq : Q a ↔ Q b) :
    (Q a → cntP t (fun x => Q x ∧ Rep (J R a b) x) = cntP t (fun x => Q x ∧ Rep R x) - 1) ∧
    (¬ Q a → cntP t (fun x => Q x ∧ Rep (J R a b) x) = cntP t (fun x => Q x ∧ Rep R x)) := by
  obtain ⟨k, k1, k2, k3, k4⟩ := join_rep h hab
  have hQk : Q k ↔ Q a := by
    rcases k2 with x | x
    · exact hQ _ _ x
    · exact (hQ _ _ x).trans hq.symm
  constructor
  · intro hqa
    refine cntP_drop (k := k) (by omega) ⟨hQk.2 hqa, k3⟩ fun x _ => ?_
    rw [k4]; exact ⟨fun ⟨u, v, w⟩ => ⟨⟨u, v⟩, w⟩, fun ⟨⟨u, v⟩, w⟩ => ⟨u, v, w⟩⟩
  · intro hqa
    refine cntP_congr fun x _ => ?_
    rw [k4]
    refine ⟨fun ⟨u, v, _⟩ => ⟨u, v⟩, fun ⟨u, v⟩ => ⟨u, v, ?_⟩⟩
    rintro rfl; exact hqa (hQk.1 u)
/-- a cell comes, and is linked to a cell before it -/
theorem rep_new {R : Nat → Nat → Prop} (h : Eqv R) {c x : Nat} (hc : ∀ b, R c b → b = c) (hx : x < c) :
    (∀ a, a < c → (Rep (J R x c) a ↔ Rep R a)) ∧ ¬ Rep (J R x c) c := by
  constructor
  · intro a ha
    unfold Rep
    constructor
    · intro hr b hb hR; exact hr b hb (Or.inl hR)
    · intro hr b hb hR
      rw [J_new h hc] at hR
      unfold rc at hR
      rw [if_neg (by omega), if_neg (by omega)] at hR
      exact hr b hb hR
  · intro hr; exact hr x hx (J_link h x c)
end Go.Proofs.Ytfdkkkdijgmbbaa
namespace Go.Proofs.Ytfdkkkdijgmbbaa

/-- The cell at the frontier's place j when all cells up to 22 y + x have come. -/
def fr (y x j : Nat) : Nat := if j ≤ x then 22 * y + j else 22 * y + j - 23
theorem fr_next (y x : Nat) : fr y (x + 1) (x + 1) = 22 * y + x + 1 := by unfold fr; rw [if_pos (by omega)]; omega
theorem fr_same {y x j : Nat} (h : j ≠ x + 1) : fr y (x + 1) j = fr y x j := by unfold fr; split <;> split <;> omega
theorem fr_le {y x j : Nat} (hj : j ≤ 22) : fr y x j ≤ 22 * y + x := by unfold fr; split <;> omega
theorem fr_w (y x : Nat) : fr y x x = 22 * y + x := by unfold fr; rw [if_pos (Nat.le_refl _)]
theorem fr_nw (y x : Nat) : fr y x (x + 1) = 22 * y + x - 22 := by unfold fr; rw [if_neg (by omega)]; omega
theorem fr_n (y x : Nat) : fr y x (x + 2) = 22 * y + x - 21 := by unfold fr; rw [if_neg (by omega)]; omega
/-- a change of colour between the places e and e + 1 -/
def Dg (G : Nat → Bool) (y x e : Nat) : Prop := e < 22 ∧ G (fr y x e) ≠ G (fr y x (e + 1))
/-- a's class has left the frontier -/
def Cl (y x : Nat) (R : Nat → Nat → Prop) (a : Nat) : Prop := ∀ i, i ≤ 22 → ¬ R (fr y x i) a
/-- The frontier's changes behind a flip. -/
theorem Dg_next (G : Nat → Bool) (y x e : Nat) (h0 : e ≠ x) (h1 : e ≠ x + 1) : Dg G y (x + 1) e ↔ Dg G y x e := by
  unfold Dg; rw [fr_same (by omega), fr_same (by omega)]
theorem Dg_w (G : Nat → Bool) (y x : Nat) (hx : x ≤ 20) : Dg G y x x ↔ G (22 * y + x) ≠ G (22 * y + x - 22) := by
  unfold Dg; rw [fr_w, fr_nw]; exact ⟨fun h => h.2, fun h => ⟨by omega, h⟩⟩
theorem Dg_n (G : Nat → Bool) (y x : Nat) (hx : x ≤ 20) : Dg G y x (x + 1) ↔ G (22 * y + x - 22) ≠ G (22 * y + x - 21) := by
  unfold Dg; rw [fr_n, fr_nw]; exact ⟨fun h => h.2, fun h => ⟨by omega, h⟩⟩
theorem Dg_w' (G : Nat → Bool) (y x : Nat) (hx : x ≤ 20) : Dg G y (x + 1) x ↔ G (22 * y + x) ≠ G (22 * y + x + 1) := by
  unfold Dg; rw [fr_same (by omega), fr_w, fr_next]; exact ⟨fun h => h.2, fun h => ⟨by omega, h⟩⟩
theorem Dg_n' (G : Nat → Bool) (y x : Nat) (hx : x ≤ 20) : Dg G y (x + 1) (x + 1) ↔ G (22 * y + x + 1) ≠ G (22 * y + x - 21) := by
  unfold Dg; rw [fr_next, fr_same (by omega), fr_n]; exact ⟨fun h => h.2, fun h => ⟨by omega, h⟩⟩
/-- no change between two neighbours: nothing separates them -/
theorem free_next {D : Nat → Prop} {M : Nat → Nat} {k : Nat} (hA : Arcs D M) (h : ¬ D k) : Free D M k (k + 1) := fun e he =>
  (und_step e (M e) k (fun x => h (x ▸ he)) (fun x => h (x ▸ hA.dom e he))).symm

/-- What holds when all cells up to 22 y + x have come. -/
structure Lk (G : Nat → Bool) (y x : Nat) (R : Nat → Nat → Prop) : Prop where
  eqv : Eqv R
  col : ∀ a b, R a b → G a = G b
  alone : ∀ a b, 22 * y + x < a → R a b → b = a
/-- the cell that comes is linked to the place s -/
theorem Lk.tie {G : Nat → Bool} {y x : Nat} {R : Nat → Nat → Prop} (h : Lk G y x R) {s : Nat} (hs : s ≤ 22) (hG : G (fr y x s) = G (22 * y + x + 1)) :
    Lk G y (x + 1) (J R (fr y x s) (22 * y + x + 1)) ∧
    (∀ i j, i ≤ 22 → j ≤ 22 → (J R (fr y x s) (22 * y + x + 1) (fr y (x + 1) i) (fr y (x + 1) j) ↔ R (fr y x (sw x s i)) (fr y x (sw x s j)))) ∧
    (∀ i a, i ≤ 22 → a < 22 * y + x + 1 → (J R (fr y x s) (22 * y + x + 1) (fr y (x + 1) i) a ↔ R (fr y x (sw x s i)) a)) := by
  have hc : ∀ b, R (22 * y + x + 1) b → b = 22 * y + x + 1 := fun b hb => h.alone _ b (by omega) hb
  have hX := fr_le (y := y) (x := x) hs
  have pl : ∀ i, i ≤ 22 → rc (22 * y + x + 1) (fr y x s) (fr y (x + 1) i) = fr y x (sw x s i) := fun i hi => by
    by_cases e : i = x + 1
    · rw [e, fr_next, sw_mid]; unfold rc; rw [if_pos rfl]
    · have := fr_le (y := y) (x := x) hi
      rw [fr_same e, sw_else e]; unfold rc; rw [if_neg (by omega)]
  refine ⟨⟨J_eqv h.eqv _ _, ?_, ?_⟩, ?_, ?_⟩
  · rintro a b (r | ⟨r, u⟩ | ⟨r, u⟩)
    · exact h.col _ _ r
    · rw [h.col _ _ r, hG, h.col _ _ u]
    · rw [h.col _ _ r, ← hG, h.col _ _ u]
  · intro a b ha hr
    rw [J_new h.eqv hc] at hr
    have ea : rc (22 * y + x + 1) (fr y x s) a = a := by unfold rc; rw [if_neg (by omega)]
    rw [ea] at hr
    have := h.alone a _ (by omega) hr
    unfold rc at this
    split at this <;> omega
  · intro i j hi hj
    rw [J_new h.eqv hc, pl i hi, pl j hj]
  · intro i a hi ha
    rw [J_new h.eqv hc, pl i hi]
    have ea : rc (22 * y + x + 1) (fr y x s) a = a := by unfold rc; rw [if_neg (by omega)]
    rw [ea]
/-- the cell that comes is linked to none -/
theorem Lk.new {G : Nat → Bool} {y x : Nat} {R : Nat → Nat → Prop} (h : Lk G y x R) :
    Lk G y (x + 1) R ∧
    (∀ i j, i ≤ 22 → j ≤ 22 → (R (fr y (x + 1) i) (fr y (x + 1) j) ↔ ((i = x + 1 ↔ j = x + 1) ∧ (i ≠ x + 1 → R (fr y x i) (fr y x j))))) ∧
    (∀ i a, i ≤ 22 → a < 22 * y + x + 1 → (R (fr y (x + 1) i) a ↔ i ≠ x + 1 ∧ R (fr y x i) a)) := by
  have hc : ∀ b, R (22 * y + x + 1) b → b = 22 * y + x + 1 := fun b hb => h.alone _ b (by omega) hb
  refine ⟨⟨h.eqv, h.col, fun a b ha => h.alone a b (by omega)⟩, ?_, ?_⟩
  · intro i j hi hj
    have li := fr_le (y := y) (x := x) hi
    have lj := fr_le (y := y) (x := x) hj
    by_cases ei : i = x + 1 <;> by_cases ej : j = x + 1
    · rw [ei, ej]; exact ⟨fun _ => ⟨Iff.rfl, fun hn => absurd rfl hn⟩, fun _ => h.eqv.refl _⟩
    · rw [ei, fr_next, fr_same ej]
      exact ⟨fun hr => by have := hc _ hr; omega, fun hr => absurd (hr.1.1 rfl) ej⟩
    · rw [ej, fr_next, fr_same ei]
      exact ⟨fun hr => by have := hc _ (h.eqv.symm _ _ hr); omega, fun hr => absurd (hr.1.2 rfl) ei⟩
    · rw [fr_same ei, fr_same ej]
      exact ⟨fun hr => ⟨⟨fun e => absurd e ei, fun e => absurd e ej⟩, fun _ => hr⟩, fun hr => hr.2 ei⟩
  · intro i a hi ha
    by_cases ei : i = x + 1
    · rw [ei, fr_next]
      exact ⟨fun hr => by have := hc _ hr; omega, fun hr => absurd rfl hr.1⟩
    · rw [fr_same ei]; exact ⟨fun hr => ⟨ei, hr⟩, fun hr => hr.2⟩
/-- two places are linked -/
theorem Lk.join {G : Nat → Bool} {y x : Nat} {R : Nat → Nat → Prop} (h : Lk G y x R) {s t : Nat} (hs : s ≤ 22) (ht : t ≤ 22) (hG : G (fr y x s) = G (fr y x t)) :
    Lk G y x (J R (fr y x s) (fr y x t)) ∧ ∀ a, Cl y x (J R (fr y x s) (fr y x t)) a ↔ Cl y x R a := by
  have ls := fr_le (y := y) (x := x) hs
  have lt := fr_le (y := y) (x := x) ht
  refine ⟨⟨J_eqv h.eqv _ _, ?_, ?_⟩, fun a => ⟨fun hc i hi hr => hc i hi (Or.inl hr), ?_⟩⟩
  · rintro a b (r | ⟨r, u⟩ | ⟨r, u⟩)
    · exact h.col _ _ r
    · rw [h.col _ _ r, hG, h.col _ _ u]
    · rw [h.col _ _ r, ← hG, h.col _ _ u]
  · rintro a b ha (r | ⟨r, u⟩ | ⟨r, u⟩)
    · exact h.alone a b ha r
    · have := h.alone a _ ha r; omega
    · have := h.alone a _ ha r; omega
  · rintro hc i hi (r | ⟨_, u⟩ | ⟨_, u⟩)
    · exact hc i hi r
    · exact hc t ht u
    · exact hc s hs u
/-- nothing is closed while the place of the cell that comes is linked to a further one -/
theorem Cl_tie {G : Nat → Bool} {y x : Nat} {R : Nat → Nat → Prop} (h : Lk G y x R) {s : Nat} (hs : s ≤ 22) (hG : G (fr y x s) = G (22 * y + x + 1))
    (p : Nat) (hp : p ≤ 22) (hpx : sw x s p = p) (hR : R (fr y x p) (fr y x (x + 1))) (a : Nat) (ha : a < 22 * y + x + 1) :
    Cl y (x + 1) (J R (fr y x s) (22 * y + x + 1)) a ↔ Cl y x R a := by
  obtain ⟨_, _, h3⟩ := h.tie hs hG
  constructor
  · intro hc i hi hr
    by_cases e : i = x + 1
    · refine hc p hp ((h3 p a hp ha).2 ?_)
      rw [hpx]; exact h.eqv.trans _ _ _ hR (e ▸ hr)
    · exact hc i hi ((h3 i a hi ha).2 (by rw [sw_else e]; exact hr))
  · intro hc i hi hr
    rw [h3 i a hi ha] at hr
    refine hc _ ?_ hr
    unfold sw; split
    · exact hs
    · exact hi
theorem Cl_new {G : Nat → Bool} {y x : Nat} {R : Nat → Nat → Prop} (h : Lk G y x R) (a : Nat) (ha : a < 22 * y + x + 1)
    (hR : R (fr y x (x + 1)) a → ∃ p, p ≤ 22 ∧ p ≠ x + 1 ∧ R (fr y x p) (fr y x (x + 1))) :
    Cl y (x + 1) R a ↔ Cl y x R a := by
  obtain ⟨_, _, h3⟩ := h.new
  constructor
  · intro hc i hi hr
    by_cases e : i = x + 1
    · obtain ⟨p, p1, p2, p3⟩ := hR (e ▸ hr)
      exact hc p p1 ((h3 p a p1 ha).2 ⟨p2, h.eqv.trans _ _ _ p3 (e ▸ hr)⟩)
    · exact hc i hi ((h3 i a hi ha).2 ⟨e, hr⟩)
  · intro hc i hi hr
    exact hc i hi ((h3 i a hi ha).1 hr).2
/-- the cell that has come is on the frontier -/
theorem Cl_own {y x : Nat} {R : Nat → Nat → Prop} (h : Eqv R) (hx : x ≤ 20) : ¬ Cl y (x + 1) R (22 * y + x + 1) := fun hc =>
  hc (x + 1) (by omega) (by rw [fr_next]; exact h.refl _)

-- counts
noncomputable def pcs (G : Nat → Bool) (R : Nat → Nat → Prop) (t : Nat) : Int := cntP t fun a => G a = true ∧ Rep R a
noncomputable def cls (G : Nat → Bool) (y x : Nat) (R : Nat → Nat → Prop) (t : Nat) : Int := cntP t fun a => (G a = false ∧ Cl y x R a) ∧ Rep R a
theorem Lk.hc {G : Nat → Bool} {y x : Nat} {R : Nat → Nat → Prop} (h : Lk G y x R) : ∀ b, R (22 * y + x + 1) b → b = 22 * y + x + 1 := fun b hb => h.alone _ b (by omega) hb
theorem pcs_tie {G : Nat → Bool} {y x : Nat} {R : Nat → Nat → Prop} (h : Lk G y x R) {s : Nat} (hs : s ≤ 22) :
    pcs G (J R (fr y x s) (22 * y + x + 1)) (22 * y + x + 1 + 1) = pcs G R (22 * y + x + 1) := by
  have hX := fr_le (y := y) (x := x) hs
  obtain ⟨r1, r2⟩ := rep_new h.eqv h.hc (x := fr y x s) (by omega)
  unfold pcs
  rw [cntP_no (fun hq => r2 hq.2)]
  exact cntP_congr fun a ha => by rw [r1 a ha]
theorem cls_tie {G : Nat → Bool} {y x : Nat} {R : Nat → Nat → Prop} (h : Lk G y x R) {s : Nat} (hs : s ≤ 22) (hG : G (fr y x s) = G (22 * y + x + 1))
    (p : Nat) (hp : p ≤ 22) (hpx : sw x s p = p) (hR : R (fr y x p) (fr y x (x + 1))) :
    cls G y (x + 1) (J R (fr y x s) (22 * y + x + 1)) (22 * y + x + 1 + 1) = cls G y x R (22 * y + x + 1) := by
  have hX := fr_le (y := y) (x := x) hs
  obtain ⟨r1, r2⟩ := rep_new h.eqv h.hc (x := fr y x s) (by omega)
  unfold cls
  rw [cntP_no (fun hq => r2 hq.2)]
  exact cntP_congr fun a ha => by rw [r1 a ha, Cl_tie h hs hG p hp hpx hR a ha]
/-- the class of the place is closed -/
theorem cls_shut {G : Nat → Bool} {y x : Nat} {R : Nat → Nat → Prop} (h : Lk G y x R) (hx : x ≤ 20) {s : Nat} (hs : s ≤ 22) (hsx : s ≠ x + 1) (hG : G (fr y x s) = G (22 * y + x + 1))
    (hR : ∀ p, p ≤ 22 → p ≠ x + 1 → ¬ R (fr y x p) (fr y x (x + 1))) :
    cls G y (x + 1) (J R (fr y x s) (22 * y + x + 1)) (22 * y + x + 1 + 1) = cls G y x R (22 * y + x + 1) + (if G (fr y x (x + 1)) = false then 1 else 0) := by
  have hX := fr_le (y := y) (x := x) hs
  have hN := fr_le (y := y) (x := x) (j := x + 1) (by omega)
  obtain ⟨r1, r2⟩ := rep_new h.eqv h.hc (x := fr y x s) (by omega)
  obtain ⟨_, _, h3⟩ := h.tie hs hG
  have hC : ∀ a, a < 22 * y + x + 1 → (Cl y (x + 1) (J R (fr y x s) (22 * y + x + 1)) a ↔ Cl y x R a ∨ R (fr y x (x + 1)) a) := by
    intro a ha
    constructor
    · intro hc
      by_cases hr : R (fr y x (x + 1)) a
      · exact Or.inr hr
      · refine Or.inl fun i hi hri => ?_
        by_cases e : i = x + 1
        · exact hr (e ▸ hri)
        · exact hc i hi ((h3 i a hi ha).2 (by rw [sw_else e]; exact hri))
    · intro hc i hi hri
      rw [h3 i a hi ha] at hri
      have hq : sw x s i ≤ 22 ∧ sw x s i ≠ x + 1 := by unfold sw; split <;> omega
      rcases hc with hc | hc
      · exact hc _ hq.1 hri
      · exact hR _ hq.1 hq.2 (h.eqv.trans _ _ _ hri (h.eqv.symm _ _ hc))
  unfold cls
  rw [cntP_no (fun hq => r2 hq.2)]
  by_cases hw : G (fr y x (x + 1)) = false
  · rw [if_pos hw]
    obtain ⟨k, k1, k2, k3⟩ := rep_ex h.eqv (fr y x (x + 1))
    have := cntP_drop (t := 22 * y + x + 1) (k := k) (P := fun a => (G a = false ∧ Cl y (x + 1) (J R (fr y x s) (22 * y + x + 1)) a) ∧ Rep (J R (fr y x s) (22 * y + x + 1)) a)
      (Q := fun a => (G a = false ∧ Cl y x R a) ∧ Rep R a) (by omega)
      ⟨⟨by rw [h.col _ _ k2]; exact hw, (hC k (by omega)).2 (Or.inr (h.eqv.symm _ _ k2))⟩, (r1 k (by omega)).2 k3⟩ (fun a ha => by
        rw [r1 a ha, hC a ha]
        constructor
        · rintro ⟨⟨u, v⟩, z⟩
          refine ⟨⟨⟨u, Or.inl v⟩, z⟩, ?_⟩
          rintro rfl; exact v (x + 1) (by omega) (h.eqv.symm _ _ k2)
        · rintro ⟨⟨⟨u, v⟩, z⟩, ne⟩
          refine ⟨⟨u, ?_⟩, z⟩
          rcases v with v | v
          · exact v
          · exact absurd (rep_one h.eqv z k3 (h.eqv.trans _ _ _ (h.eqv.symm _ _ v) (h.eqv.symm _ _ k2))) ne)
    omega
  · rw [if_neg hw, Int.add_zero]
    refine cntP_congr fun a ha => ?_
    rw [r1 a ha, hC a ha]
    constructor
    · rintro ⟨⟨u, v⟩, z⟩
      refine ⟨⟨u, ?_⟩, z⟩
      rcases v with v | v
      · exact v
      · exact absurd ((h.col _ _ v).trans u) hw
    · rintro ⟨⟨u, v⟩, z⟩; exact ⟨⟨u, Or.inl v⟩, z⟩
theorem pcs_new {G : Nat → Bool} {y x : Nat} {R : Nat → Nat → Prop} (h : Lk G y x R) : pcs G R (22 * y + x + 1 + 1) = pcs G R (22 * y + x + 1) + one (G (22 * y + x + 1)) := by
  have hr : Rep R (22 * y + x + 1) := fun b hb hR => by have := h.hc b (h.eqv.symm _ _ hR); omega
  unfold pcs
  by_cases hg : G (22 * y + x + 1) = true
  · rw [cntP_yes ⟨hg, hr⟩, hg]; rfl
  · rw [cntP_no (fun hq => hg hq.1), show G (22 * y + x + 1) = false by simpa using hg]; simp [one]
theorem cls_new {G : Nat → Bool} {y x : Nat} {R : Nat → Nat → Prop} (h : Lk G y x R) (hx : x ≤ 20)
    (hR : G (fr y x (x + 1)) = false → ∃ p, p ≤ 22 ∧ p ≠ x + 1 ∧ R (fr y x p) (fr y x (x + 1))) :
    cls G y (x + 1) R (22 * y + x + 1 + 1) = cls G y x R (22 * y + x + 1) := by
  unfold cls
  rw [cntP_no (fun hq => Cl_own h.eqv hx hq.1.2)]
  refine cntP_congr fun a ha => ?_
  constructor
  · rintro ⟨⟨u, v⟩, z⟩; exact ⟨⟨u, (Cl_new h a ha (fun r => hR ((h.col _ _ r).trans u))).1 v⟩, z⟩
  · rintro ⟨⟨u, v⟩, z⟩; exact ⟨⟨u, (Cl_new h a ha (fun r => hR ((h.col _ _ r).trans u))).2 v⟩, z⟩
/-- two places that weren't linked are linked -/
theorem cnt_link {G : Nat → Bool} {y x : Nat} {R : Nat → Nat → Prop} (h : Lk G y x R) {s t : Nat} (hs : s ≤ 22) (ht : t ≤ 22) (hG : G (fr y x s) = G (fr y x t)) (hR : ¬ R (fr y x s) (fr y x t)) :
    pcs G (J R (fr y x s) (fr y x t)) (22 * y + x + 1) = pcs G R (22 * y + x + 1) - one (G (fr y x s)) ∧
    cls G y x (J R (fr y x s) (fr y x t)) (22 * y + x + 1) = cls G y x R (22 * y + x + 1) := by
  have ls := fr_le (y := y) (x := x) hs
  have lt := fr_le (y := y) (x := x) ht
  constructor
  · have := cnt_join (Q := fun a => G a = true) (t := 22 * y + x + 1) h.eqv hR (by omega) (by omega) (fun a b r => by rw [h.col _ _ r]) (by rw [hG])
    unfold pcs
    by_cases hg : G (fr y x s) = true
    · rw [this.1 hg, hg]; rfl
    · rw [this.2 hg, show G (fr y x s) = false by simpa using hg]; simp [one]
  · obtain ⟨_, hj⟩ := h.join hs ht hG
    have own : ∀ i, i ≤ 22 → ¬ (G (fr y x i) = false ∧ Cl y x R (fr y x i)) := fun i hi hq => hq.2 i hi (h.eqv.refl _)
    have := cnt_join (Q := fun a => G a = false ∧ Cl y x R a) (t := 22 * y + x + 1) h.eqv hR (by omega) (by omega) (fun a b r => by
      rw [h.col _ _ r]
      refine and_congr_right fun _ => ⟨fun hc i hi hr => hc i hi (h.eqv.trans _ _ _ hr (h.eqv.symm _ _ r)), fun hc i hi hr => hc i hi (h.eqv.trans _ _ _ hr r)⟩)
      ⟨fun hq => absurd hq (own s hs), fun hq => absurd hq (own t ht)⟩
    unfold cls
    rw [← this.2 (own s hs)]
    exact cntP_congr fun a _ => by rw [hj a]
end Go.Proofs.Ytfdkkkdijgmbbaa
namespace Go.Proofs.Ytfdkkkdijgmbbaa

/-- What the cell c adds: cells less pairs of neighbours and blocks of four. -/
def dchi (G : Nat → Bool) (c : Nat) : Int := one (G c) * (1 - one (G (c - 1)) - one (G (c - 22)) + one (G (c - 1)) * one (G (c - 22)) * one (G (c - 23)))
def chi (G : Nat → Bool) (t : Nat) : Int := sumN t (dchi G)
theorem chi_next (G : Nat → Bool) (y x : Nat) : chi G (22 * y + x + 1 + 1) = chi G (22 * y + x + 1) + one (G (22 * y + x + 1)) * (1 - one (G (fr y x x)) - one (G (fr y x (x + 2))) + one (G (fr y x x)) * one (G (fr y x (x + 2))) * one (G (fr y x (x + 1)))) := by
  rw [fr_w, fr_n, fr_nw]
  unfold chi
  simp only [sumN]
  unfold dchi
  rw [show 22 * y + x + 1 - 1 = 22 * y + x by omega, show 22 * y + x + 1 - 22 = 22 * y + x - 21 by omega, show 22 * y + x + 1 - 23 = 22 * y + x - 22 by omega]
structure St (G : Nat → Bool) (y x : Nat) (R : Nat → Nat → Prop) (M : Nat → Nat) : Prop where
  lk : Lk G y x R
  arcs : Arcs (Dg G y x) M
  inv : ∀ i j, i ≤ 22 → j ≤ 22 → (R (fr y x i) (fr y x j) ↔ Free (Dg G y x) M i j)
  cnt : pcs G R (22 * y + x + 1) - cls G y x R (22 * y + x + 1) = chi G (22 * y + x + 1)
/-- The links of the cell that comes are in L. -/
structure Ties (G : Nat → Bool) (y x : Nat) (L : Nat → Nat → Prop) : Prop where
  w : G (fr y x x) = G (22 * y + x + 1) → L (fr y x x) (22 * y + x + 1)
  n : G (fr y x (x + 2)) = G (22 * y + x + 1) → L (fr y x (x + 2)) (22 * y + x + 1)
  nw : G (fr y x (x + 1)) = false → G (22 * y + x + 1) = false → L (fr y x (x + 1)) (22 * y + x + 1)
  wn : G (fr y x x) = false → G (fr y x (x + 2)) = false → L (fr y x x) (fr y x (x + 2))
def Next (G : Nat → Bool) (y x : Nat) (R : Nat → Nat → Prop) : Prop :=
  ∃ R' M', St G y (x + 1) R' M' ∧ (∀ a b, R a b → R' a b) ∧ Ties G y x R' ∧
    ∀ L, Eqv L → Ties G y x L → (∀ a b, R a b → L a b) → ∀ a b, R' a b → L a b
theorem J_in {R L : Nat → Nat → Prop} (hL : Eqv L) (h : ∀ a b, R a b → L a b) {a b : Nat} (hab : L a b) : ∀ i j, J R a b i j → L i j := by
  rintro i j (r | ⟨r, u⟩ | ⟨r, u⟩)
  · exact h _ _ r
  · exact hL.trans _ _ _ (h _ _ r) (hL.trans _ _ _ hab (h _ _ u))
  · exact hL.trans _ _ _ (h _ _ r) (hL.trans _ _ _ (hL.symm _ _ hab) (h _ _ u))
theorem free_sw {D : Nat → Prop} {M : Nat → Nat} {k t : Nat} (h : Free D M t (k + 1)) (i j : Nat) : Free D M (sw k t i) (sw k t j) ↔ Free D M i j := by
  have e : ∀ i, Free D M (sw k t i) i := fun i => by
    unfold sw; split
    · next hi => rw [hi]; exact h
    · exact Free.rfl' _
  exact ⟨fun h' => (e i).symm.trans (h'.trans (e j)), fun h' => (e i).trans (h'.trans (e j).symm)⟩
theorem Dg_eq {G : Nat → Bool} {y x : Nat} (hx : x ≤ 20) (P : Nat → Prop) (h : ∀ e, e ≠ x → e ≠ x + 1 → (P e ↔ Dg G y x e)) (h0 : P x ↔ G (fr y x x) ≠ G (22 * y + x + 1)) (h1 : P (x + 1) ↔ G (22 * y + x + 1) ≠ G (fr y x (x + 2))) :
    Dg G y (x + 1) = P := by
  funext e
  refine propext ?_
  by_cases a : e = x
  · subst a; rw [h0]; unfold Dg; rw [fr_same (by omega), fr_next]; exact ⟨fun z => z.2, fun z => ⟨by omega, z⟩⟩
  by_cases b : e = x + 1
  · subst b; rw [h1]; unfold Dg; rw [fr_next, fr_same (by omega)]; exact ⟨fun z => z.2, fun z => ⟨by omega, z⟩⟩
  rw [h e a b, Dg_next _ _ _ _ a b]
theorem Dg_x {G : Nat → Bool} {y x : Nat} (hx : x ≤ 20) : Dg G y x x ↔ G (fr y x x) ≠ G (fr y x (x + 1)) := ⟨fun z => z.2, fun z => ⟨by omega, z⟩⟩
theorem Dg_x1 {G : Nat → Bool} {y x : Nat} (hx : x ≤ 20) : Dg G y x (x + 1) ↔ G (fr y x (x + 1)) ≠ G (fr y x (x + 2)) := ⟨fun z => z.2, fun z => ⟨by omega, z⟩⟩
theorem sw_le {k t i : Nat} (ht : t ≤ 22) (hi : i ≤ 22) : sw k t i ≤ 22 := by unfold sw; split <;> omega

/-- The cell is linked to the place s, and nothing else is new. -/
theorem next_tie {G : Nat → Bool} {y x : Nat} {R : Nat → Nat → Prop} {M M' : Nat → Nat} (S : St G y x R M) {s p : Nat} (hs : s ≤ 22)
    (hG : G (fr y x s) = G (22 * y + x + 1)) (hp : p ≤ 22) (hpx : sw x s p = p) (hR : R (fr y x p) (fr y x (x + 1)))
    (hA : Arcs (Dg G y (x + 1)) M') (hF : ∀ i j, Free (Dg G y (x + 1)) M' i j ↔ Free (Dg G y x) M (sw x s i) (sw x s j))
    (hchi : one (G (22 * y + x + 1)) * (1 - one (G (fr y x x)) - one (G (fr y x (x + 2))) + one (G (fr y x x)) * one (G (fr y x (x + 2))) * one (G (fr y x (x + 1)))) = 0)
    (hT : Ties G y x (J R (fr y x s) (22 * y + x + 1)))
    (hL : ∀ L, Eqv L → Ties G y x L → L (fr y x s) (22 * y + x + 1)) : Next G y x R := by
  obtain ⟨t1, t2, t3⟩ := S.lk.tie hs hG
  refine ⟨_, M', ⟨t1, hA, ?_, ?_⟩, fun a b r => Or.inl r, hT, fun L h1 h2 h3 => J_in h1 h3 (hL L h1 h2)⟩
  · intro i j hi hj
    rw [t2 i j hi hj, S.inv _ _ (sw_le hs hi) (sw_le hs hj), hF]
  · show pcs G _ (22 * y + x + 1 + 1) - cls G y (x + 1) _ (22 * y + x + 1 + 1) = chi G (22 * y + x + 1 + 1)
    rw [pcs_tie S.lk hs, cls_tie S.lk hs hG p hp hpx hR, S.cnt, chi_next, hchi, Int.add_zero]
/-- West and north differ. -/
theorem next_side {G : Nat → Bool} {y x : Nat} {R : Nat → Nat → Prop} {M : Nat → Nat} (S : St G y x R M) (hx : x ≤ 20) (h : G (fr y x x) ≠ G (fr y x (x + 2))) : Next G y x R := by
  have dx := Dg_x (G := G) (y := y) hx
  have dx1 := Dg_x1 (G := G) (y := y) hx
  have hchi : one (G (22 * y + x + 1)) * (1 - one (G (fr y x x)) - one (G (fr y x (x + 2))) + one (G (fr y x x)) * one (G (fr y x (x + 2))) * one (G (fr y x (x + 1)))) = 0 := by
    revert h; cases G (fr y x x) <;> cases G (fr y x (x + 2)) <;> cases G (fr y x (x + 1)) <;> cases G (22 * y + x + 1) <;> decide
  have e := S.lk.eqv
  have lkw : G (fr y x x) = G (fr y x (x + 1)) → R (fr y x x) (fr y x (x + 1)) := fun hg => (S.inv _ _ (by omega) (by omega)).2 (free_next S.arcs (by rw [dx]; exact fun z => z hg))
  have lkn : G (fr y x (x + 1)) = G (fr y x (x + 2)) → R (fr y x (x + 2)) (fr y x (x + 1)) := fun hg => e.symm _ _ ((S.inv _ _ (by omega) (by omega)).2 (free_next S.arcs (by rw [dx1]; exact fun z => z hg)))
  have bool3 : ∀ a b c : Bool, a ≠ b → c ≠ a → c = b := by decide
  by_cases hv : G (fr y x x) = G (22 * y + x + 1)
  · have hvn : G (fr y x (x + 2)) ≠ G (22 * y + x + 1) := fun z => h (hv.trans z.symm)
    have hT : Ties G y x (J R (fr y x x) (22 * y + x + 1)) := by
      have hl := J_link e (fr y x x) (22 * y + x + 1)
      refine ⟨fun _ => hl, fun z => absurd z hvn, fun a b => ?_, fun a b => absurd (a.trans b.symm) h⟩
      exact (J_eqv e _ _).trans _ _ _ (Or.inl (e.symm _ _ (lkw (by rw [a, hv, b])))) hl
    by_cases hn : G (fr y x x) = G (fr y x (x + 1))
    · have hD : Dg G y (x + 1) = Dg G y x := Dg_eq hx _ (fun _ _ _ => Iff.rfl) (by rw [dx, hn, ← hv, hn]) (by rw [dx1, ← hn, hv])
      refine next_tie S (s := x) (p := x) (by omega) hv (by omega) (sw_else (by omega)) (lkw hn) (M' := M) (hD ▸ S.arcs) (fun i j => ?_) hchi hT (fun L _ h2 => h2.w hv)
      rw [hD]; exact (free_sw (free_next S.arcs (by rw [dx]; exact fun z => z hn)) i j).symm
    · have hn2 : G (fr y x (x + 1)) = G (fr y x (x + 2)) := bool3 _ _ _ h (Ne.symm hn)
      obtain ⟨s1, s2⟩ := slide (a := x) (a' := x + 1) (t := x) S.arcs (Or.inl ⟨rfl, rfl, rfl⟩) (dx.2 hn) (by rw [dx1]; exact fun z => z hn2)
      have hD : Dg G y (x + 1) = (fun e => (Dg G y x e ∧ e ≠ x) ∨ e = x + 1) := Dg_eq hx _ (fun e a b => ⟨fun z => z.elim (fun u => u.1) (fun u => absurd u b), fun z => Or.inl ⟨z, a⟩⟩)
        ⟨fun z => z.elim (fun u => absurd rfl u.2) (fun u => by omega), fun z => absurd hv z⟩ ⟨fun _ => Ne.symm hvn, fun _ => Or.inr rfl⟩
      exact next_tie S (s := x) (p := x + 2) (by omega) hv (by omega) (sw_else (by omega)) (lkn hn2) (hD ▸ s1) (fun i j => by rw [hD]; exact s2 i j) hchi hT (fun L _ h2 => h2.w hv)
  · have hvn : G (fr y x (x + 2)) = G (22 * y + x + 1) := (bool3 _ _ _ h (Ne.symm hv)).symm
    have hT : Ties G y x (J R (fr y x (x + 2)) (22 * y + x + 1)) := by
      have hl := J_link e (fr y x (x + 2)) (22 * y + x + 1)
      refine ⟨fun z => absurd z hv, fun _ => hl, fun a b => ?_, fun a b => absurd (a.trans b.symm) h⟩
      exact (J_eqv e _ _).trans _ _ _ (Or.inl (e.symm _ _ (lkn (by rw [a, hvn, b])))) hl
    by_cases hn : G (fr y x (x + 1)) = G (fr y x (x + 2))
    · have hD : Dg G y (x + 1) = Dg G y x := Dg_eq hx _ (fun _ _ _ => Iff.rfl) (by rw [dx, hn, hvn]) (by rw [dx1, hn, hvn])
      refine next_tie S (s := x + 2) (p := x + 2) (by omega) hvn (by omega) (sw_else (by omega)) (lkn hn) (M' := M) (hD ▸ S.arcs) (fun i j => ?_) hchi hT (fun L _ h2 => h2.n hvn)
      rw [hD]; exact (free_sw (free_next S.arcs (by rw [dx1]; exact fun z => z hn)).symm i j).symm
    · have hn2 : G (fr y x x) = G (fr y x (x + 1)) := (bool3 _ _ _ (Ne.symm h) hn).symm
      obtain ⟨s1, s2⟩ := slide (a := x + 1) (a' := x) (t := x + 2) S.arcs (Or.inr ⟨rfl, rfl, rfl⟩) (dx1.2 hn) (by rw [dx]; exact fun z => z hn2)
      have hD : Dg G y (x + 1) = (fun e => (Dg G y x e ∧ e ≠ x + 1) ∨ e = x) := Dg_eq hx _ (fun e a b => ⟨fun z => z.elim (fun u => u.1) (fun u => absurd u a), fun z => Or.inl ⟨z, b⟩⟩)
        ⟨fun _ => hv, fun _ => Or.inr rfl⟩ ⟨fun z => z.elim (fun u => absurd rfl u.2) (fun u => by omega), fun z => absurd hvn.symm z⟩
      exact next_tie S (s := x + 2) (p := x) (by omega) hvn (by omega) (sw_else (by omega)) (lkw hn2) (hD ▸ s1) (fun i j => by rw [hD]; exact s2 i j) hchi hT (fun L _ h2 => h2.n hvn)

theorem lk_w {G : Nat → Bool} {y x : Nat} {R : Nat → Nat → Prop} {M : Nat → Nat} (S : St G y x R M) (hx : x ≤ 20) (hg : G (fr y x x) = G (fr y x (x + 1))) : R (fr y x x) (fr y x (x + 1)) :=
  (S.inv _ _ (by omega) (by omega)).2 (free_next S.arcs (by rw [Dg_x hx]; exact fun z => z hg))
theorem lk_n {G : Nat → Bool} {y x : Nat} {R : Nat → Nat → Prop} {M : Nat → Nat} (S : St G y x R M) (hx : x ≤ 20) (hg : G (fr y x (x + 1)) = G (fr y x (x + 2))) : R (fr y x (x + 1)) (fr y x (x + 2)) :=
  (S.inv _ _ (by omega) (by omega)).2 (free_next S.arcs (by rw [Dg_x1 hx]; exact fun z => z hg))
/-- All of one colour, or the corner's link alone. -/
theorem next_flat {G : Nat → Bool} {y x : Nat} {R : Nat → Nat → Prop} {M : Nat → Nat} (S : St G y x R M) (hx : x ≤ 20) (h : G (fr y x x) = G (fr y x (x + 2))) (hn : G (fr y x x) = G (fr y x (x + 1)))
    (hv : G (fr y x x) = G (22 * y + x + 1)) : Next G y x R := by
  have e := S.lk.eqv
  have dx := Dg_x (G := G) (y := y) hx
  have dx1 := Dg_x1 (G := G) (y := y) hx
  have l1 := lk_w S hx hn
  have l2 := lk_n S hx (hn.symm.trans h)
  have hchi : one (G (22 * y + x + 1)) * (1 - one (G (fr y x x)) - one (G (fr y x (x + 2))) + one (G (fr y x x)) * one (G (fr y x (x + 2))) * one (G (fr y x (x + 1)))) = 0 := by
    rw [← h, ← hn, ← hv]; cases G (fr y x x) <;> decide
  have hT : Ties G y x (J R (fr y x x) (22 * y + x + 1)) := by
    have hl := J_link e (fr y x x) (22 * y + x + 1)
    have eJ := J_eqv e (fr y x x) (22 * y + x + 1)
    exact ⟨fun _ => hl, fun _ => eJ.trans _ _ _ (Or.inl (e.symm _ _ (e.trans _ _ _ l1 l2))) hl, fun _ _ => eJ.trans _ _ _ (Or.inl (e.symm _ _ l1)) hl, fun _ _ => Or.inl (e.trans _ _ _ l1 l2)⟩
  have hD : Dg G y (x + 1) = Dg G y x := Dg_eq hx _ (fun _ _ _ => Iff.rfl) (by rw [dx, ← hn, ← hv]) (by rw [dx1, ← hn, ← hv])
  refine next_tie S (s := x) (p := x) (by omega) hv (by omega) (sw_else (by omega)) l1 (M' := M) (hD ▸ S.arcs) (fun i j => ?_) hchi hT (fun L _ h2 => h2.w hv)
  rw [hD]; exact (free_sw (free_next S.arcs (by rw [dx]; exact fun z => z hn)) i j).symm
theorem next_corner {G : Nat → Bool} {y x : Nat} {R : Nat → Nat → Prop} {M : Nat → Nat} (S : St G y x R M) (hx : x ≤ 20) (h : G (fr y x x) = true) (h2 : G (fr y x (x + 2)) = true) (hn : G (fr y x (x + 1)) = false)
    (hv : G (22 * y + x + 1) = false) : Next G y x R := by
  have e := S.lk.eqv
  have dx := Dg_x (G := G) (y := y) hx
  have dx1 := Dg_x1 (G := G) (y := y) hx
  have hT : Ties G y x (J R (fr y x (x + 1)) (22 * y + x + 1)) :=
    ⟨fun z => by rw [h, hv] at z; exact absurd z (by decide), fun z => by rw [h2, hv] at z; exact absurd z (by decide), fun _ _ => J_link e _ _, fun z => by rw [h] at z; exact absurd z (by decide)⟩
  have hD : Dg G y (x + 1) = Dg G y x := Dg_eq hx _ (fun _ _ _ => Iff.rfl) (by rw [dx, hn, hv]) (by rw [dx1, hn, hv])
  have sid : ∀ i, sw x (x + 1) i = i := fun i => by unfold sw; split <;> omega
  refine next_tie S (s := x + 1) (p := x + 1) (by omega) (hn.trans hv.symm) (by omega) (sid _) (e.refl _) (M' := M) (hD ▸ S.arcs) (fun i j => ?_) (by rw [hv]; simp [one]) hT (fun L _ h2 => h2.nw hn hv)
  rw [hD, sid, sid]
/-- A new class begins. -/
theorem next_new {G : Nat → Bool} {y x : Nat} {R : Nat → Nat → Prop} {M : Nat → Nat} (S : St G y x R M) (hx : x ≤ 20) (h : G (fr y x x) = G (fr y x (x + 2))) (hn : G (fr y x x) = G (fr y x (x + 1)))
    (hv : G (fr y x x) ≠ G (22 * y + x + 1)) : Next G y x R := by
  have e := S.lk.eqv
  have dx := Dg_x (G := G) (y := y) hx
  have dx1 := Dg_x1 (G := G) (y := y) hx
  have l1 := lk_w S hx hn
  have l2 := lk_n S hx (hn.symm.trans h)
  obtain ⟨t1, t2, _⟩ := S.lk.new
  obtain ⟨c1, c2⟩ := cup (k := x) S.arcs (by rw [dx]; exact fun z => z hn) (by rw [dx1]; exact fun z => z (hn.symm.trans h))
  have hD : Dg G y (x + 1) = (fun e => Dg G y x e ∨ e = x ∨ e = x + 1) := Dg_eq hx _ (fun e a b => ⟨fun z => z.elim id (fun u => u.elim (fun u => absurd u a) (fun u => absurd u b)), Or.inl⟩)
    ⟨fun _ => hv, fun _ => Or.inr (Or.inl rfl)⟩ ⟨fun _ z => hv (h.trans z.symm), fun _ => Or.inr (Or.inr rfl)⟩
  refine ⟨R, cupM M x, ⟨t1, hD ▸ c1, fun i j hi hj => ?_, ?_⟩, fun _ _ r => r, ⟨fun z => absurd z hv, fun z => absurd (h.trans z) hv, fun a b => absurd (hn.trans (a.trans b.symm)) hv, fun _ _ => e.trans _ _ _ l1 l2⟩, fun L _ _ h3 => h3⟩
  · rw [t2 i j hi hj, hD, c2, S.inv i j hi hj]
  · show pcs G _ (22 * y + x + 1 + 1) - cls G y (x + 1) _ (22 * y + x + 1 + 1) = chi G (22 * y + x + 1 + 1)
    rw [pcs_new S.lk, cls_new S.lk hx (fun _ => ⟨x, by omega, by omega, l1⟩), chi_next, ← S.cnt]
    have : one (G (22 * y + x + 1)) * (1 - one (G (fr y x x)) - one (G (fr y x (x + 2))) + one (G (fr y x x)) * one (G (fr y x (x + 2))) * one (G (fr y x (x + 1)))) = one (G (22 * y + x + 1)) := by
      rw [← h, ← hn]; revert hv; cases G (fr y x x) <;> cases G (22 * y + x + 1) <;> decide
    rw [this]; omega
/-- The corner is closed off. -/
theorem next_shut {G : Nat → Bool} {y x : Nat} {R : Nat → Nat → Prop} {M : Nat → Nat} (S : St G y x R M) (hx : x ≤ 20) (h : G (fr y x x) = G (fr y x (x + 2))) (hn : G (fr y x x) ≠ G (fr y x (x + 1)))
    (hv : G (fr y x x) = G (22 * y + x + 1)) : Next G y x R := by
  have e := S.lk.eqv
  have dx := (Dg_x (G := G) (y := y) hx).2 hn
  have dx1 := (Dg_x1 (G := G) (y := y) hx).2 (fun z => hn (h.trans z.symm))
  obtain ⟨t1, t2, t3⟩ := S.lk.tie (s := x) (by omega) hv
  have hD : Dg G y (x + 1) = (fun e => Dg G y x e ∧ e ≠ x ∧ e ≠ x + 1) := Dg_eq hx _ (fun e a b => ⟨fun z => z.1, fun z => ⟨z, a, b⟩⟩)
    ⟨fun z => absurd rfl z.2.1, fun z => absurd hv z⟩ ⟨fun z => absurd rfl z.2.2, fun z => absurd (hv.symm.trans h) z⟩
  have sne : ∀ i, sw x x i ≠ x + 1 := fun i => by unfold sw; split <;> omega
  have hl := J_link e (fr y x x) (22 * y + x + 1)
  have eJ := J_eqv e (fr y x x) (22 * y + x + 1)
  have col : ∀ a b c : Bool, a ≠ b → a = c → b = false → c = false → False := by decide
  by_cases hm : M x = x + 1
  · obtain ⟨c1, c2, c3, c4⟩ := cap_own S.arcs dx hm
    have lwn : R (fr y x x) (fr y x (x + 2)) := (S.inv _ _ (by omega) (by omega)).2 c2
    refine ⟨_, M, ⟨t1, hD ▸ c1, fun i j hi hj => ?_, ?_⟩, fun _ _ r => Or.inl r,
      ⟨fun _ => hl, fun _ => eJ.trans _ _ _ (Or.inl (e.symm _ _ lwn)) hl, fun a b => (col _ _ _ hn hv a b).elim, fun _ _ => Or.inl lwn⟩, fun L h1 h2 h3 => J_in h1 h3 (h2.w hv)⟩
    · rw [t2 i j hi hj, S.inv _ _ (sw_le (by omega) hi) (sw_le (by omega) hj), ← c3 _ _ (sne i) (sne j), hD]
      exact free_sw (free_next c1 (fun z => z.2.1 rfl)) i j
    · show pcs G _ (22 * y + x + 1 + 1) - cls G y (x + 1) _ (22 * y + x + 1 + 1) = chi G (22 * y + x + 1 + 1)
      rw [pcs_tie S.lk (by omega), cls_shut S.lk hx (s := x) (by omega) (by omega) hv (fun p hp hpx hr => c4 p hpx ((S.inv _ _ hp (by omega)).1 hr)), chi_next, ← S.cnt, ← h, ← hv]
      revert hn; cases G (fr y x x) <;> cases G (fr y x (x + 1)) <;> simp [one] <;> omega
  · obtain ⟨c1, c2, c3⟩ := cap_two S.arcs dx dx1 hm
    obtain ⟨l1, l2, l3⟩ := cap_left S.arcs dx hm
    have f0 : fr y (x + 1) x = fr y x x := fr_same (by omega)
    have f2 : fr y (x + 1) (x + 2) = fr y x (x + 2) := fr_same (by omega)
    have hG2 : G (fr y (x + 1) x) = G (fr y (x + 1) (x + 2)) := by rw [f0, f2]; exact h
    have s0 : sw x x x = x := sw_else (by omega)
    have s2 : sw x x (x + 2) = x + 2 := sw_else (by omega)
    obtain ⟨j1, _⟩ := t1.join (s := x) (t := x + 2) (by omega) (by omega) hG2
    have hTn : ¬ J R (fr y x x) (22 * y + x + 1) (fr y (x + 1) x) (fr y (x + 1) (x + 2)) := by
      rw [t2 _ _ (by omega) (by omega), s0, s2, S.inv _ _ (by omega) (by omega)]; exact c2
    obtain ⟨k1, k2⟩ := cnt_link t1 (s := x) (t := x + 2) (by omega) (by omega) hG2 hTn
    have eJ2 := J_eqv eJ (fr y (x + 1) x) (fr y (x + 1) (x + 2))
    have hl2 := J_link eJ (fr y (x + 1) x) (fr y (x + 1) (x + 2))
    have up := fun a b (r : J R (fr y x x) (22 * y + x + 1) a b) => (Or.inl r : J (J R (fr y x x) (22 * y + x + 1)) (fr y (x + 1) x) (fr y (x + 1) (x + 2)) a b)
    refine ⟨_, capM M x, ⟨j1, hD ▸ c1, fun i j hi hj => ?_, ?_⟩, fun _ _ r => Or.inl (Or.inl r),
      ⟨fun _ => up _ _ hl, fun _ => eJ2.trans _ _ _ (by rw [f0, f2] at hl2 ⊢; exact (f0 ▸ f2 ▸ eJ2).symm _ _ hl2) (up _ _ hl), fun a b => (col _ _ _ hn hv a b).elim, fun _ _ => by rw [f0, f2] at hl2 ⊢; exact hl2⟩,
      fun L h1 h2 h3 => J_in h1 (J_in h1 h3 (h2.w hv)) ?_⟩
    · unfold J
      show (J R (fr y x x) (22 * y + x + 1) _ _ ∨ (J R (fr y x x) (22 * y + x + 1) _ _ ∧ J R (fr y x x) (22 * y + x + 1) _ _) ∨ (J R (fr y x x) (22 * y + x + 1) _ _ ∧ J R (fr y x x) (22 * y + x + 1) _ _)) ↔ _
      rw [t2 i j hi hj, t2 i x hi (by omega), t2 (x + 2) j (by omega) hj, t2 i (x + 2) hi (by omega), t2 x j (by omega) hj, s0, s2]
      have li := sw_le (k := x) (t := x) (by omega) hi
      have lj := sw_le (k := x) (t := x) (by omega) hj
      rw [S.inv _ _ li lj, S.inv _ _ li (by omega), S.inv _ _ (by omega) lj, S.inv _ _ li (by omega), S.inv _ _ (by omega) lj, ← c3 _ _ (sne i) (sne j), hD]
      exact free_sw (free_next c1 (fun z => z.2.1 rfl)) i j
    · show pcs G _ (22 * y + (x + 1) + 1) - cls G y (x + 1) _ (22 * y + (x + 1) + 1) = chi G (22 * y + x + 1 + 1)
      have hp : M x ≤ 22 := by have := l1.1; omega
      rw [k1, k2]
      show pcs G _ (22 * y + x + 1 + 1) - one (G (fr y (x + 1) x)) - cls G y (x + 1) _ (22 * y + x + 1 + 1) = chi G (22 * y + x + 1 + 1)
      rw [pcs_tie S.lk (by omega), cls_tie S.lk (s := x) (by omega) hv (M x) hp (sw_else l2) ((S.inv _ _ hp (by omega)).2 l3), chi_next, ← S.cnt, ← h, ← hv, f0]
      revert hn; cases G (fr y x x) <;> cases G (fr y x (x + 1)) <;> simp [one] <;> omega
    · rw [f0, f2]
      cases hc : G (fr y x x)
      · exact h2.wn hc (h ▸ hc)
      · exact h1.trans _ _ _ (h2.w hv) (h1.symm _ _ (h2.n (h.symm.trans hv)))

/-- The corner is closed off, and a new class begins. -/
theorem next_turn {G : Nat → Bool} {y x : Nat} {R : Nat → Nat → Prop} {M : Nat → Nat} (S : St G y x R M) (hx : x ≤ 20) (h : G (fr y x x) = false) (h2 : G (fr y x (x + 2)) = false) (hn : G (fr y x (x + 1)) = true)
    (hv : G (22 * y + x + 1) = true) : Next G y x R := by
  have e := S.lk.eqv
  have dx := (Dg_x (G := G) (y := y) hx).2 (by rw [h, hn]; decide)
  have dx1 := (Dg_x1 (G := G) (y := y) hx).2 (by rw [h2, hn]; decide)
  obtain ⟨t1, t2, _⟩ := S.lk.new
  have hD2 : ∀ D2 : Nat → Prop, (∀ e, D2 e ↔ Dg G y x e ∧ e ≠ x ∧ e ≠ x + 1) → Dg G y (x + 1) = (fun e => D2 e ∨ e = x ∨ e = x + 1) := fun D2 hd => Dg_eq hx _
    (fun e a b => ⟨fun z => z.elim (fun u => ((hd e).1 u).1) (fun u => u.elim (fun u => absurd u a) (fun u => absurd u b)), fun z => Or.inl ((hd e).2 ⟨z, a, b⟩)⟩)
    ⟨fun _ => by rw [h, hv]; decide, fun _ => Or.inr (Or.inl rfl)⟩ ⟨fun _ => by rw [h2, hv]; decide, fun _ => Or.inr (Or.inr rfl)⟩
  have hD := hD2 (fun e => Dg G y x e ∧ e ≠ x ∧ e ≠ x + 1) (fun _ => Iff.rfl)
  have n0 : ¬ (fun e => Dg G y x e ∧ e ≠ x ∧ e ≠ x + 1) x := fun z => z.2.1 rfl
  have n1 : ¬ (fun e => Dg G y x e ∧ e ≠ x ∧ e ≠ x + 1) (x + 1) := fun z => z.2.2 rfl
  have ties : ∀ L : Nat → Nat → Prop, L (fr y x x) (fr y x (x + 2)) → Ties G y x L := fun L hl =>
    ⟨fun z => by rw [h, hv] at z; exact absurd z (by decide), fun z => by rw [h2, hv] at z; exact absurd z (by decide), fun z => by rw [hn] at z; exact absurd z (by decide), fun _ _ => hl⟩
  have hchi : one (G (22 * y + x + 1)) * (1 - one (G (fr y x x)) - one (G (fr y x (x + 2))) + one (G (fr y x x)) * one (G (fr y x (x + 2))) * one (G (fr y x (x + 1)))) = 1 := by
    rw [h, h2, hn, hv]; decide
  have hcl := cls_new S.lk hx (fun z => by rw [hn] at z; exact absurd z (by decide))
  have hpc := pcs_new (G := G) S.lk
  rw [hv, show one true = 1 from rfl] at hpc
  by_cases hm : M x = x + 1
  · obtain ⟨c1, c2, c3, c4⟩ := cap_own S.arcs dx hm
    obtain ⟨d1, d2⟩ := cup c1 n0 n1
    have lwn : R (fr y x x) (fr y x (x + 2)) := (S.inv _ _ (by omega) (by omega)).2 c2
    refine ⟨R, cupM M x, ⟨t1, hD ▸ d1, fun i j hi hj => ?_, ?_⟩, fun _ _ r => r, ties R lwn, fun L _ _ h3 => h3⟩
    · rw [t2 i j hi hj, hD, d2]
      refine and_congr_right fun hij => ?_
      constructor
      · intro hr hi'; exact (c3 i j hi' (fun z => hi' (hij.2 z))).2 ((S.inv i j hi hj).1 (hr hi'))
      · intro hr hi'; exact (S.inv i j hi hj).2 ((c3 i j hi' (fun z => hi' (hij.2 z))).1 (hr hi'))
    · show pcs G _ (22 * y + x + 1 + 1) - cls G y (x + 1) _ (22 * y + x + 1 + 1) = chi G (22 * y + x + 1 + 1)
      rw [hpc, hcl, chi_next, ← S.cnt, hchi]; omega
  · obtain ⟨c1, c2, c3⟩ := cap_two S.arcs dx dx1 hm
    obtain ⟨d1, d2⟩ := cup c1 n0 n1
    have f0 : fr y (x + 1) x = fr y x x := fr_same (by omega)
    have f2 : fr y (x + 1) (x + 2) = fr y x (x + 2) := fr_same (by omega)
    have hG2 : G (fr y (x + 1) x) = G (fr y (x + 1) (x + 2)) := by rw [f0, f2, h, h2]
    obtain ⟨j1, _⟩ := t1.join (s := x) (t := x + 2) (by omega) (by omega) hG2
    have hTn : ¬ R (fr y (x + 1) x) (fr y (x + 1) (x + 2)) := by
      rw [f0, f2, S.inv _ _ (by omega) (by omega)]; exact c2
    obtain ⟨k1, k2⟩ := cnt_link t1 (s := x) (t := x + 2) (by omega) (by omega) hG2 hTn
    have hl2 := J_link e (fr y (x + 1) x) (fr y (x + 1) (x + 2))
    refine ⟨_, cupM (capM M x) x, ⟨j1, hD ▸ d1, fun i j hi hj => ?_, ?_⟩, fun _ _ r => Or.inl r, ties _ (by rw [f0, f2] at hl2 ⊢; exact hl2),
      fun L h1 h3 h4 => J_in h1 h4 (by rw [f0, f2]; exact h3.wn h h2)⟩
    · unfold J
      rw [t2 i j hi hj, t2 i x hi (by omega), t2 (x + 2) j (by omega) hj, t2 i (x + 2) hi (by omega), t2 x j (by omega) hj, hD, d2]
      rw [S.inv i j hi hj, S.inv i x hi (by omega), S.inv (x + 2) j (by omega) hj, S.inv i (x + 2) hi (by omega), S.inv x j (by omega) hj]
      by_cases hi' : i = x + 1 <;> by_cases hj' : j = x + 1
      · simp [hi', hj']
      · simp [hi', hj']
      · simp [hi', hj']
      · rw [c3 i j hi' hj']
        simp [hi', hj']
    · show pcs G _ (22 * y + (x + 1) + 1) - cls G y (x + 1) _ (22 * y + (x + 1) + 1) = chi G (22 * y + x + 1 + 1)
      rw [k1, k2, f0, h]
      show pcs G _ (22 * y + x + 1 + 1) - one false - cls G y (x + 1) _ (22 * y + x + 1 + 1) = chi G (22 * y + x + 1 + 1)
      rw [hpc, hcl, chi_next, ← S.cnt, hchi]; simp [one]; omega
/-- One step of the scan. -/
theorem next_all {G : Nat → Bool} {y x : Nat} {R : Nat → Nat → Prop} {M : Nat → Nat} (S : St G y x R M) (hx : x ≤ 20) : Next G y x R := by
  have b1 : ∀ a b : Bool, a ≠ b → a = false → b = true := by decide
  have b2 : ∀ a b : Bool, a ≠ b → a = true → b = false := by decide
  by_cases h : G (fr y x x) = G (fr y x (x + 2))
  · by_cases hn : G (fr y x x) = G (fr y x (x + 1)) <;> by_cases hv : G (fr y x x) = G (22 * y + x + 1)
    · exact next_flat S hx h hn hv
    · exact next_new S hx h hn hv
    · exact next_shut S hx h hn hv
    · cases hw : G (fr y x x)
      · exact next_turn S hx hw (h ▸ hw) (b1 _ _ hn hw) (b1 _ _ hv hw)
      · exact next_corner S hx hw (h ▸ hw) (b2 _ _ hn hw) (b2 _ _ hv hw)
  · exact next_side S hx h
end Go.Proofs.Ytfdkkkdijgmbbaa
namespace Go.Proofs.Ytfdkkkdijgmbbaa

/-- The map's border is empty. -/
structure Bare (G : Nat → Bool) : Prop where
  first : ∀ a, a < 22 → G a = false
  left : ∀ y, y < 22 → G (22 * y) = false
  right : ∀ y, y < 22 → G (22 * y + 21) = false
  last : ∀ a, 462 ≤ a → a < 484 → G a = false
/-- The links that are laid when the cell c comes. -/
def At (G : Nat → Bool) (c a b : Nat) : Prop :=
  (b = c ∧ (a + 1 = c ∨ a + 22 = c) ∧ G a = G b) ∨ (b = c ∧ a + 23 = c ∧ G a = false ∧ G b = false) ∨ (a + 22 = c ∧ b + 1 = c ∧ G a = false ∧ G b = false)
def Run (G : Nat → Bool) (y x : Nat) : Prop := ∃ R M, St G y x R M ∧ (∀ c a b, c ≤ 22 * y + x → At G c a b → R a b) ∧
  ∀ L, Eqv L → (∀ c a b, c < 484 → At G c a b → L a b) → ∀ a b, R a b → L a b
theorem run_start {G : Nat → Bool} (h : Bare G) : Run G 1 0 := by
  have g0 : ∀ a, a ≤ 22 → G a = false := fun a ha => by
    by_cases e : a = 22
    · rw [e]; exact h.left 1 (by omega)
    · exact h.first a (by omega)
  have le : ∀ i, i ≤ 22 → fr 1 0 i ≤ 22 := fun i hi => fr_le hi
  have noD : ∀ e, ¬ Dg G 1 0 e := fun e he => he.2 (by rw [g0 _ (le e (by have := he.1; omega)), g0 _ (le (e + 1) (by have := he.1; omega))])
  have eqv : Eqv (fun a b => a = b ∨ (a ≤ 22 ∧ b ≤ 22)) := ⟨fun a => Or.inl rfl, fun a b r => by omega, fun a b c r s => by omega⟩
  refine ⟨fun a b => a = b ∨ (a ≤ 22 ∧ b ≤ 22), fun e => e, ⟨⟨eqv, ?_, ?_⟩, ?_, ?_, ?_⟩, ?_, ?_⟩
  · rintro a b (r | r)
    · rw [r]
    · rw [g0 a r.1, g0 b r.2]
  · rintro a b ha (r | r) <;> omega
  · exact ⟨fun e he => absurd he (noD e), fun e he => absurd he (noD e), fun e he => absurd he (noD e), fun e g he => absurd he (noD e)⟩
  · intro i j hi hj
    exact ⟨fun _ e he => absurd he (noD e), fun _ => Or.inr ⟨le i hi, le j hj⟩⟩
  · unfold pcs cls chi
    have z : ∀ P : Nat → Prop, (∀ a, a < 22 * 1 + 0 + 1 → ¬ P a) → cntP (22 * 1 + 0 + 1) P = 0 := fun P hP => by
      rw [cntP_congr (Q := fun _ => False) (fun a ha => ⟨hP a ha, False.elim⟩)]
      unfold cntP
      rw [sumN_congr (g := fun _ => 0) (fun i _ => by simp [one])]; exact sumN_zero _
    rw [z _ (fun a ha hq => by have := hq.1; rw [g0 a (by omega)] at this; exact absurd this (by decide)),
      z _ (fun a ha hq => hq.1.2 0 (by omega) (Or.inr ⟨le 0 (by omega), by omega⟩)),
      sumN_congr (g := fun _ => 0) (fun i hi => by unfold dchi; rw [g0 i (by omega)]; simp [one]), sumN_zero]
    rfl
  · rintro c a b hc (⟨r, s, _⟩ | ⟨r, s, _⟩ | ⟨r, s, _⟩)
    · exact Or.inr (by omega)
    · exact Or.inr (by omega)
    · exact Or.inr (by omega)
  · intro L hL hall
    have ch : ∀ a, a ≤ 22 → L 0 a := fun a => by
      induction a with
      | zero => intro _; exact hL.refl _
      | succ a ih => intro ha; exact hL.trans _ _ _ (ih (by omega)) (hall (a + 1) a (a + 1) (by omega) (Or.inl ⟨rfl, Or.inl rfl, by rw [g0 a (by omega), g0 _ ha]⟩))
    rintro a b (r | r)
    · rw [r]; exact hL.refl _
    · exact hL.trans _ _ _ (hL.symm _ _ (ch a r.1)) (ch b r.2)
theorem run_next {G : Nat → Bool} {y x : Nat} (h : Run G y x) (hy : 1 ≤ y) (hy2 : y ≤ 21) (hx : x ≤ 20) : Run G y (x + 1) := by
  obtain ⟨R, M, S, hE, hM⟩ := h
  obtain ⟨R', M', S', up, ties, mn⟩ := next_all S hx
  have e' := S'.lk.eqv
  refine ⟨R', M', S', ?_, fun L hL hall => mn L hL ?_ (hM L hL hall)⟩
  · intro c a b hc hat
    by_cases e : c ≤ 22 * y + x
    · exact up _ _ (hE c a b e hat)
    · have ec : c = 22 * y + x + 1 := by omega
      rcases hat with ⟨r, s | s, g⟩ | ⟨r, s, g1, g2⟩ | ⟨r, s, g1, g2⟩
      · have ea : a = fr y x x := by rw [fr_w]; omega
        have eb : b = 22 * y + x + 1 := by omega
        subst ea eb; exact ties.w g
      · have ea : a = fr y x (x + 2) := by rw [fr_n]; omega
        have eb : b = 22 * y + x + 1 := by omega
        subst ea eb; exact ties.n g
      · have ea : a = fr y x (x + 1) := by rw [fr_nw]; omega
        have eb : b = 22 * y + x + 1 := by omega
        subst ea eb; exact ties.nw g1 g2
      · have ea : a = fr y x (x + 2) := by rw [fr_n]; omega
        have eb : b = fr y x x := by rw [fr_w]; omega
        subst ea eb; exact e'.symm _ _ (ties.wn g2 g1)
  · have hw : fr y x x + 1 = 22 * y + x + 1 := by rw [fr_w]
    have hn : fr y x (x + 2) + 22 = 22 * y + x + 1 := by rw [fr_n]; omega
    have hnw : fr y x (x + 1) + 23 = 22 * y + x + 1 := by rw [fr_nw]; omega
    have hc : 22 * y + x + 1 < 484 := by omega
    exact ⟨fun g => hall _ _ _ hc (Or.inl ⟨rfl, Or.inl hw, g⟩), fun g => hall _ _ _ hc (Or.inl ⟨rfl, Or.inr hn, g⟩), fun g1 g2 => hall _ _ _ hc (Or.inr (Or.inl ⟨rfl, hnw, g1, g2⟩)),
      fun g1 g2 => hL.symm _ _ (hall _ _ _ hc (Or.inr (Or.inr ⟨hn, hw, g2, g1⟩)))⟩
theorem fr_row (y j : Nat) : fr (y + 1) 0 (j + 1) = 22 * y + j := by unfold fr; rw [if_neg (by omega)]; omega
theorem fr_end (y j : Nat) (h : j ≤ 21) : fr y 21 j = 22 * y + j := by unfold fr; rw [if_pos h]
theorem run_row {G : Nat → Bool} (hB : Bare G) {y : Nat} (h : Run G y 21) (hy : 1 ≤ y) (hy2 : y ≤ 20) : Run G (y + 1) 0 := by
  obtain ⟨R, M, S, hE, hM⟩ := h
  have e := S.lk.eqv
  have g0 := hB.left y (by omega)
  have g1 := hB.left (y + 1) (by omega)
  have g2 := hB.right y (by omega)
  have g3 := hB.right (y - 1) (by omega)
  have f22 : fr y 21 22 = 22 * (y - 1) + 21 := by unfold fr; rw [if_neg (by omega)]; omega
  have n21 : ¬ Dg G y 21 21 := fun z => z.2 (by rw [fr_end _ _ (by omega), f22, g2, g3])
  have hD : ∀ e, Dg G (y + 1) 0 (e + 1) ↔ Dg G y 21 e := fun e => by
    by_cases h21 : e = 21
    · rw [h21]; exact ⟨fun z => by have := z.1; omega, fun z => absurd z n21⟩
    · unfold Dg
      rw [fr_row, fr_row]
      constructor
      · rintro ⟨u, v⟩; exact ⟨by omega, by rw [fr_end _ _ (by omega), fr_end _ _ (by omega)]; exact v⟩
      · rintro ⟨u, v⟩; exact ⟨by omega, by rw [fr_end _ _ (by omega), fr_end _ _ (by omega)] at v; exact v⟩
  have fz : fr (y + 1) 0 0 = 22 * (y + 1) := by unfold fr; rw [if_pos (by omega)]; omega
  have hz : ¬ Dg G (y + 1) 0 0 := fun z => z.2 (by rw [fz, fr_row, g1, Nat.add_zero, g0])
  obtain ⟨a1, a2, a3⟩ := shift S.arcs hD hz
  have hc : ∀ b, R (22 * (y + 1)) b → b = 22 * (y + 1) := fun b hb => S.lk.alone _ b (by omega) hb
  have eJ := J_eqv e (22 * y) (22 * (y + 1))
  have hl := J_link e (22 * y) (22 * (y + 1))
  -- the places, told in the frontier before
  have pl : ∀ i, i ≤ 22 → rc (22 * (y + 1)) (22 * y) (fr (y + 1) 0 i) = fr y 21 (i - 1) := fun i hi => by
    cases i with
    | zero => rw [fz, fr_end _ _ (by omega)]; unfold rc; rw [if_pos rfl]; rfl
    | succ i => rw [fr_row, Nat.add_sub_cancel, fr_end _ _ (by omega)]; unfold rc; rw [if_neg (by omega)]
  have lnk : ∀ i j, i ≤ 22 → j ≤ 22 → Free (Dg G y 21) M i j → R (fr y 21 i) (fr y 21 j) := fun i j hi hj hf => (S.inv i j hi hj).2 hf
  have free0 : ∀ j, 21 ≤ j → Free (Dg G y 21) M 0 j := fun j hj e he => by
    have u := he.1
    have v := (S.arcs.dom e he).1
    have u2 : e ≠ 21 := fun z => n21 (z ▸ he)
    have v2 : M e ≠ 21 := fun z => n21 (z ▸ S.arcs.dom e he)
    rw [Bool.eq_iff_iff, und_iff, und_iff]; omega
  have r21 : R (22 * y) (22 * y + 21) := by have := lnk 0 21 (by omega) (by omega) (free0 21 (by omega)); rwa [fr_end _ _ (by omega), fr_end _ _ (by omega)] at this
  have r22 : R (22 * y) (22 * (y - 1) + 21) := by have := lnk 0 22 (by omega) (by omega) (free0 22 (by omega)); rwa [fr_end _ _ (by omega), f22] at this
  obtain ⟨r1, r2⟩ := rep_new e hc (x := 22 * y) (by omega)
  have up : ∀ a b, R a b → J R (22 * y) (22 * (y + 1)) a b := fun a b r => Or.inl r
  refine ⟨J R (22 * y) (22 * (y + 1)), shM M, ⟨⟨eJ, ?_, ?_⟩, a1, ?_, ?_⟩, ?_, fun L hL hall => J_in hL (hM L hL hall) (hall (22 * (y + 1)) _ _ (by omega) (Or.inl ⟨rfl, Or.inr (by omega), by rw [g0, g1]⟩))⟩
  · rintro a b (r | ⟨r, s⟩ | ⟨r, s⟩)
    · exact S.lk.col _ _ r
    · rw [S.lk.col _ _ r, g0, ← g1, S.lk.col _ _ s]
    · rw [S.lk.col _ _ r, g1, ← g0, S.lk.col _ _ s]
  · rintro a b ha (r | ⟨r, s⟩ | ⟨r, s⟩)
    · exact S.lk.alone a b (by omega) r
    · have := S.lk.alone a _ (by omega) r; omega
    · have := S.lk.alone a _ (by omega) r; omega
  · intro i j hi hj
    rw [J_new e hc, pl i hi, pl j hj, S.inv _ _ (by omega) (by omega), ← a2]
    have st : ∀ i, Free (Dg G (y + 1) 0) (shM M) (i - 1 + 1) i := fun i => by
      cases i with
      | zero => exact a3.symm
      | succ i => rw [Nat.add_sub_cancel]; exact Free.rfl' _
    exact ⟨fun hf => (st i).symm.trans (hf.trans (st j)), fun hf => (st i).trans (hf.trans (st j).symm)⟩
  · have cl : ∀ a, a < 22 * (y + 1) → (Cl (y + 1) 0 (J R (22 * y) (22 * (y + 1))) a ↔ Cl y 21 R a) := fun a ha => by
      have ra : rc (22 * (y + 1)) (22 * y) a = a := by unfold rc; rw [if_neg (by omega)]
      constructor
      · intro hcl i hi hr
        by_cases h22 : i = 22
        · refine hcl 1 (by omega) ?_
          rw [J_new e hc, pl 1 (by omega), ra]
          show R (fr y 21 0) a
          rw [fr_end _ _ (by omega)]
          rw [h22, f22] at hr
          exact e.trans _ _ _ r22 hr
        · refine hcl (i + 1) (by omega) ?_
          rw [J_new e hc, pl _ (by omega), ra]; exact hr
      · intro hcl i hi hr
        rw [J_new e hc, pl i hi, ra] at hr
        exact hcl _ (by omega) hr
    have own : ¬ Cl (y + 1) 0 (J R (22 * y) (22 * (y + 1))) (22 * (y + 1)) := fun hcl => hcl 0 (by omega) (by rw [fz]; exact eJ.refl _)
    show pcs G _ (22 * (y + 1) + 1) - cls G (y + 1) 0 _ (22 * (y + 1) + 1) = chi G (22 * (y + 1) + 1)
    have p1 : pcs G (J R (22 * y) (22 * (y + 1))) (22 * (y + 1) + 1) = pcs G R (22 * (y + 1)) := by
      unfold pcs; rw [cntP_no (fun hq => r2 hq.2)]; exact cntP_congr fun a ha => by rw [r1 a ha]
    have p2 : cls G (y + 1) 0 (J R (22 * y) (22 * (y + 1))) (22 * (y + 1) + 1) = cls G y 21 R (22 * (y + 1)) := by
      unfold cls; rw [cntP_no (fun hq => r2 hq.2)]; exact cntP_congr fun a ha => by rw [r1 a ha, cl a ha]
    have p3 : chi G (22 * (y + 1) + 1) = chi G (22 * (y + 1)) := by
      unfold chi; simp only [sumN]; unfold dchi; rw [g1]; simp [one]
    have := S.cnt
    rw [show 22 * y + 21 + 1 = 22 * (y + 1) by omega] at this
    rw [p1, p2, p3]; exact this
  · intro c a b hcc hat
    by_cases ec : c ≤ 22 * y + 21
    · exact up _ _ (hE c a b ec hat)
    · have ec : c = 22 * (y + 1) := by omega
      have toC : ∀ a, R (22 * y) a → J R (22 * y) (22 * (y + 1)) a (22 * (y + 1)) := fun a r => eJ.trans _ _ _ (up _ _ (e.symm _ _ r)) hl
      rcases hat with ⟨r, s | s, g⟩ | ⟨r, s, g1, g2⟩ | ⟨r, s, g1, g2⟩
      · rw [show b = 22 * (y + 1) by omega, show a = 22 * y + 21 by omega]; exact toC _ r21
      · rw [show b = 22 * (y + 1) by omega, show a = 22 * y by omega]; exact hl
      · rw [show b = 22 * (y + 1) by omega, show a = 22 * (y - 1) + 21 by omega]; exact toC _ r22
      · rw [show b = 22 * y + 21 by omega, show a = 22 * y by omega]; exact up _ _ r21
end Go.Proofs.Ytfdkkkdijgmbbaa
namespace Go.Proofs.Ytfdkkkdijgmbbaa

theorem run_all {G : Nat → Bool} (hB : Bare G) : Run G 21 21 := by
  have row : ∀ y, 1 ≤ y → y ≤ 21 → Run G y 0 → ∀ x, x ≤ 21 → Run G y x := fun y h1 h2 h0 x => by
    induction x with
    | zero => intro _; exact h0
    | succ x ih => intro hx; exact run_next (ih (by omega)) h1 h2 (by omega)
  have start : ∀ y, y ≤ 20 → Run G (y + 1) 0 := fun y => by
    induction y with
    | zero => intro _; exact run_start hB
    | succ y ih => intro hy; exact run_row hB (row (y + 1) (by omega) (by omega) (ih (by omega)) 21 (by omega)) (by omega) (by omega)
  exact row 21 (by omega) (by omega) (start 20 (by omega)) 21 (by omega)
/-- Neighbours of one colour: by a side, and if they are empty by a corner too. -/
def Nbr (G : Nat → Bool) (a b : Nat) : Prop :=
  ((b = a + 1 ∨ b = a + 22) ∧ G a = G b) ∨ ((b = a + 21 ∨ b = a + 23) ∧ G a = false ∧ G b = false)
/-- Empty classes. -/
noncomputable def whs (G : Nat → Bool) (R : Nat → Nat → Prop) (t : Nat) : Int := cntP t fun a => G a = false ∧ Rep R a
/-- Pieces, less the holes, are what the cells add up to. -/
theorem euler {G : Nat → Bool} (hB : Bare G) : ∃ R, Eqv R ∧ (∀ a b, R a b → G a = G b) ∧ (∀ a b, b < 484 → Nbr G a b → R a b) ∧
    (∀ L, Eqv L → (∀ a b, b < 484 → Nbr G a b → L a b) → ∀ a b, R a b → L a b) ∧ (∀ a, a < 22 → R 0 a) ∧ pcs G R 484 - (whs G R 484 - 1) = chi G 484 := by
  obtain ⟨R, M, S, hE, hM⟩ := run_all hB
  have e := S.lk.eqv
  have gf : ∀ i, i ≤ 22 → G (fr 21 21 i) = false := fun i hi => by
    by_cases h : i = 22
    · rw [h]; exact hB.right 20 (by omega)
    · rw [fr_end _ _ (by omega)]; exact hB.last _ (by omega) (by omega)
  have noD : ∀ e, ¬ Dg G 21 21 e := fun e he => he.2 (by rw [gf _ (by have := he.1; omega), gf _ (by have := he.1; omega)])
  have all : ∀ i j, i ≤ 22 → j ≤ 22 → R (fr 21 21 i) (fr 21 21 j) := fun i j hi hj => (S.inv i j hi hj).2 fun e he => absurd he (noD e)
  have hN : ∀ a b, b < 484 → Nbr G a b → R a b := by
    rintro a b hb (⟨h | h, g⟩ | ⟨h | h, g, g'⟩)
    · exact hE b a b (by omega) (Or.inl ⟨rfl, Or.inl (by omega), g⟩)
    · exact hE b a b (by omega) (Or.inl ⟨rfl, Or.inr (by omega), g⟩)
    · by_cases h483 : b = 483
      · have := all 0 21 (by omega) (by omega)
        rw [fr_end _ _ (by omega), fr_end _ _ (by omega)] at this
        rw [show a = 22 * 21 + 0 by omega, show b = 22 * 21 + 21 by omega]; exact this
      · exact hE (b + 1) a b (by omega) (Or.inr (Or.inr ⟨by omega, rfl, g, g'⟩))
    · exact hE b a b (by omega) (Or.inr (Or.inl ⟨rfl, by omega, g, g'⟩))
  refine ⟨R, e, S.lk.col, hN, ?_, ?_, ?_⟩
  · intro L hL hl
    refine hM L hL fun c a b hc hat => ?_
    rcases hat with ⟨r, s | s, g⟩ | ⟨r, s, g1, g2⟩ | ⟨r, s, g1, g2⟩
    · exact hl a b (by omega) (Or.inl ⟨Or.inl (by omega), g⟩)
    · exact hl a b (by omega) (Or.inl ⟨Or.inr (by omega), g⟩)
    · exact hl a b (by omega) (Or.inr ⟨Or.inr (by omega), g1, g2⟩)
    · exact hl a b (by omega) (Or.inr ⟨Or.inl (by omega), g1, g2⟩)
  · intro a ha
    induction a with
    | zero => exact e.refl _
    | succ a ih => exact e.trans _ _ _ (ih (by omega)) (hN a (a + 1) (by omega) (Or.inl ⟨Or.inl rfl, by rw [hB.first a (by omega), hB.first _ ha]⟩))
  · obtain ⟨k, k1, k2, k3⟩ := rep_ex e (fr 21 21 0)
    have hle := fr_le (y := 21) (x := 21) (j := 0) (by omega)
    have hc := S.cnt
    have hd := cntP_drop (t := 484) (k := k) (P := fun a => G a = false ∧ Rep R a) (Q := fun a => (G a = false ∧ Cl 21 21 R a) ∧ Rep R a) (by omega)
      ⟨(S.lk.col _ _ k2).trans (gf 0 (by omega)), k3⟩ (fun a _ => by
        constructor
        · rintro ⟨⟨u, v⟩, z⟩
          refine ⟨⟨u, z⟩, ?_⟩
          rintro rfl; exact v 0 (by omega) (e.symm _ _ k2)
        · rintro ⟨⟨u, z⟩, ne⟩
          refine ⟨⟨u, fun i hi hr => ?_⟩, z⟩
          exact ne (rep_one e k3 z (e.trans _ _ _ k2 (e.trans _ _ _ (all 0 i (by omega) hi) hr))).symm)
    have h1 : cls G 21 21 R 484 = whs G R 484 - 1 := hd
    rw [← h1]; exact hc

-- sums over the map
theorem sum_none {n : Nat} {f : Nat → Int} (h : ∀ i, i < n → f i = 0) : sumN n f = 0 := by
  rw [sumN_congr (g := fun _ => 0) h, sumN_zero]
theorem sum_moved {f : Nat → Int} (d : Nat) (hd : d ≤ 23) (h0 : ∀ a, a < 23 → f a = 0) (h1 : ∀ a, 461 ≤ a → f a = 0) : sumN 461 (fun a => f (a + d)) = sumN 484 f := by
  have e : sumN 484 f = sumN d f + sumN (484 - d) (fun i => f (d + i)) := by rw [← sumN_split, show d + (484 - d) = 484 by omega]
  have e2 : sumN (484 - d) (fun i => f (d + i)) = sumN 461 (fun i => f (d + i)) + sumN (23 - d) (fun i => f (d + (461 + i))) := by
    rw [← sumN_split, show 461 + (23 - d) = 484 - d by omega]
  rw [e, e2, sum_none (fun i hi => h0 i (by omega)), sum_none (f := fun i => f (d + (461 + i))) (fun i hi => h1 _ (by omega)),
    sumN_congr (f := fun i => f (d + i)) (g := fun a => f (a + d)) (fun i _ => by rw [Nat.add_comm])]
  omega
theorem sum_back {f g : Nat → Int} (d : Nat) (hd : d ≤ 23) (hg : ∀ a, g (a + d) = f a) (h0 : ∀ a, a < d → g a = 0) (h1 : ∀ a, 461 ≤ a → f a = 0) : sumN 484 g = sumN 484 f := by
  have e : sumN 484 g = sumN d g + sumN (484 - d) (fun i => g (d + i)) := by rw [← sumN_split, show d + (484 - d) = 484 by omega]
  have e2 : sumN 484 f = sumN (484 - d) f + sumN d (fun i => f (484 - d + i)) := by rw [← sumN_split, show 484 - d + d = 484 by omega]
  rw [e, e2, sum_none h0, sum_none (f := fun i => f (484 - d + i)) (fun i hi => h1 _ (by omega)),
    sumN_congr (f := fun i => g (d + i)) (g := f) (fun i _ => by rw [Nat.add_comm, hg])]
  omega
/-- What the corner where four cells meet tells: outwards less inwards. -/
def cor (p q r s : Bool) : Int :=
  let n := one p + one q + one r + one s
  if n = 1 then 1 else if n = 3 then -1 else if n = 2 ∧ p = s then 2 else 0
theorem cor_eq (p q r s : Bool) : cor p q r s = one p + one q + one r + one s - 2 * (one p * one q + one r * one s + one p * one r + one q * one s) + 4 * (one p * one q * one r * one s) := by
  cases p <;> cases q <;> cases r <;> cases s <;> decide
def corAt (G : Nat → Bool) (a : Nat) : Int := cor (G a) (G (a + 1)) (G (a + 22)) (G (a + 23))
theorem cor_sum {G : Nat → Bool} (hB : Bare G) (ho : ∀ a, 484 ≤ a → G a = false) : sumN 461 (corAt G) = 4 * chi G 484 := by
  have z0 : ∀ a, a < 23 → one (G a) = 0 := fun a ha => by
    by_cases e : a = 22
    · rw [e, hB.left 1 (by omega)]; rfl
    · rw [hB.first a (by omega)]; rfl
  have z1 : ∀ a, 461 ≤ a → one (G a) = 0 := fun a ha => by
    by_cases e : a = 461
    · rw [e, hB.right 20 (by omega)]; rfl
    by_cases e2 : a < 484
    · rw [hB.last a (by omega) e2]; rfl
    · rw [ho a (by omega)]; rfl
  have vv : ∀ d, d ≤ 23 → sumN 461 (fun a => one (G (a + d))) = sumN 484 (fun a => one (G a)) := fun d hd => sum_moved (f := fun a => one (G a)) d hd z0 z1
  have hh : ∀ d, d ≤ 23 → sumN 461 (fun a => one (G (a + d)) * one (G (a + d + 1))) = sumN 484 (fun a => one (G a) * one (G (a + 1))) := fun d hd =>
    sum_moved (f := fun a => one (G a) * one (G (a + 1))) d hd (fun a ha => by rw [z0 a ha, Int.zero_mul]) (fun a ha => by rw [z1 a ha, Int.zero_mul])
  have uu : ∀ d, d ≤ 23 → sumN 461 (fun a => one (G (a + d)) * one (G (a + d + 22))) = sumN 484 (fun a => one (G a) * one (G (a + 22))) := fun d hd =>
    sum_moved (f := fun a => one (G a) * one (G (a + 22))) d hd (fun a ha => by rw [z0 a ha, Int.zero_mul]) (fun a ha => by rw [z1 a ha, Int.zero_mul])
  have ff : sumN 461 (fun a => one (G a) * one (G (a + 1)) * one (G (a + 22)) * one (G (a + 23))) = sumN 484 (fun a => one (G a) * one (G (a + 1)) * one (G (a + 22)) * one (G (a + 23))) :=
    sum_moved (f := fun a => one (G a) * one (G (a + 1)) * one (G (a + 22)) * one (G (a + 23))) 0 (by omega) (fun a ha => by rw [z0 a ha]; simp) (fun a ha => by rw [z1 a ha]; simp)
  have c1 : sumN 484 (fun c => one (G c) * one (G (c - 1))) = sumN 484 (fun a => one (G a) * one (G (a + 1))) :=
    sum_back 1 (by omega) (fun a => by rw [Nat.add_sub_cancel, Int.mul_comm]) (fun a ha => by rw [z0 a (by omega), Int.zero_mul]) (fun a ha => by rw [z1 a ha, Int.zero_mul])
  have c2 : sumN 484 (fun c => one (G c) * one (G (c - 22))) = sumN 484 (fun a => one (G a) * one (G (a + 22))) :=
    sum_back 22 (by omega) (fun a => by rw [Nat.add_sub_cancel, Int.mul_comm]) (fun a ha => by rw [z0 a (by omega), Int.zero_mul]) (fun a ha => by rw [z1 a ha, Int.zero_mul])
  have c3 : sumN 484 (fun c => one (G c) * (one (G (c - 1)) * one (G (c - 22)) * one (G (c - 23)))) = sumN 484 (fun a => one (G a) * one (G (a + 1)) * one (G (a + 22)) * one (G (a + 23))) :=
    sum_back 23 (by omega) (fun a => by
      rw [show a + 23 - 1 = a + 22 by omega, show a + 23 - 22 = a + 1 by omega, Nat.add_sub_cancel]
      cases G a <;> cases G (a + 1) <;> cases G (a + 22) <;> cases G (a + 23) <;> decide) (fun a ha => by rw [z0 a (by omega), Int.zero_mul]) (fun a ha => by rw [z1 a ha]; simp)
  have l : sumN 461 (corAt G) = sumN 461 (fun a => one (G (a + 0))) + sumN 461 (fun a => one (G (a + 1))) + sumN 461 (fun a => one (G (a + 22))) + sumN 461 (fun a => one (G (a + 23)))
      - 2 * (sumN 461 (fun a => one (G (a + 0)) * one (G (a + 0 + 1))) + sumN 461 (fun a => one (G (a + 22)) * one (G (a + 22 + 1))) + sumN 461 (fun a => one (G (a + 0)) * one (G (a + 0 + 22))) + sumN 461 (fun a => one (G (a + 1)) * one (G (a + 1 + 22))))
      + 4 * sumN 461 (fun a => one (G a) * one (G (a + 1)) * one (G (a + 22)) * one (G (a + 23))) := by
    rw [← sumN_mul, ← sumN_add, ← sumN_add, ← sumN_add, ← sumN_add, ← sumN_add, ← sumN_add, ← sumN_mul, ← sumN_sub, ← sumN_add]
    refine sumN_congr fun a _ => ?_
    unfold corAt
    rw [cor_eq]
    rfl
  have r : chi G 484 = sumN 484 (fun a => one (G a)) - sumN 484 (fun c => one (G c) * one (G (c - 1))) - sumN 484 (fun c => one (G c) * one (G (c - 22))) + sumN 484 (fun c => one (G c) * (one (G (c - 1)) * one (G (c - 22)) * one (G (c - 23)))) := by
    unfold chi
    rw [← sumN_sub, ← sumN_sub, ← sumN_add]
    refine sumN_congr fun c _ => ?_
    unfold dchi
    cases G c <;> cases G (c - 1) <;> cases G (c - 22) <;> cases G (c - 23) <;> decide
  rw [l, r, vv 0 (by omega), vv 1 (by omega), vv 22 (by omega), vv 23 (by omega), hh 0 (by omega), hh 22 (by omega), uu 0 (by omega), uu 1 (by omega), ff, c1, c2, c3]
  omega
end Go.Proofs.Ytfdkkkdijgmbbaa
