
/- Classes of linked cells: how their number changes when a cell comes and when two are linked. -/
import Derived.Test.YtbdpngjakccjjaaDoorMath
namespace Go.Proofs.YtbdpngjakccjjaaDoor

structure Eqv (R : Nat → Nat → Prop) : Prop where
  refl : ∀ a, R a a
  symm : ∀ a b, R a b → R b a
  trans : ∀ a b c, R a b → R b c → R a c
/-- a and b are linked, too -/
def J (R : Nat → Nat → Prop) (a b i j : Nat) : Prop := R i j ∨ (R i a ∧ R b j) ∨ (R i b ∧ R a j)
theorem J_eqv {R : Nat → Nat → Prop} (h : Eqv R) (a b : Nat) : Eqv (J R a b) := by
  refine ⟨fun i => Or.inl (h.refl i), ?_, ?_⟩
  · rintro i j (x | ⟨x, y⟩ | ⟨x, y⟩)
    · exact Or.inl (h.symm _ _ x)
    · exact Or.inr (Or.inr ⟨h.symm _ _ y, h.symm _ _ x⟩)
    · exact Or.inr (Or.inl ⟨h.symm _ _ y, h.symm _ _ x⟩)
  · rintro i j k (x | ⟨x, y⟩ | ⟨x, y⟩) (u | ⟨u, v⟩ | ⟨u, v⟩)
    · exact Or.inl (h.trans _ _ _ x u)
    · exact Or.inr (Or.inl ⟨h.trans _ _ _ x u, v⟩)
    · exact Or.inr (Or.inr ⟨h.trans _ _ _ x u, v⟩)
    · exact Or.inr (Or.inl ⟨x, h.trans _ _ _ y u⟩)
    · exact Or.inr (Or.inl ⟨x, v⟩)
    · exact Or.inl (h.trans _ _ _ x v)
    · exact Or.inr (Or.inr ⟨x, h.trans _ _ _ y u⟩)
    · exact Or.inl (h.trans _ _ _ x v)
    · exact Or.inr (Or.inr ⟨x, v⟩)
theorem J_same {R : Nat → Nat → Prop} (h : Eqv R) {a b : Nat} (hab : R a b) (i j : Nat) : J R a b i j ↔ R i j := by
  constructor
  · rintro (x | ⟨x, y⟩ | ⟨x, y⟩)
    · exact x
    · exact h.trans _ _ _ x (h.trans _ _ _ hab y)
    · exact h.trans _ _ _ x (h.trans _ _ _ (h.symm _ _ hab) y)
  · exact Or.inl
theorem J_link {R : Nat → Nat → Prop} (h : Eqv R) (a b : Nat) : J R a b a b := Or.inr (Or.inl ⟨h.refl _, h.refl _⟩)
/-- the cell c, alone up to now, is linked to x -/
def rc (c x a : Nat) : Nat := if a = c then x else a
theorem J_new {R : Nat → Nat → Prop} (h : Eqv R) {c x : Nat} (hc : ∀ b, R c b → b = c) (i j : Nat) : J R x c i j ↔ R (rc c x i) (rc c x j) := by
  have hc' : ∀ b, R b c → b = c := fun b hb => hc b (h.symm _ _ hb)
  unfold rc J
  by_cases hi : i = c <;> by_cases hj : j = c
  · rw [if_pos hi, if_pos hj, hi, hj]; exact ⟨fun _ => h.refl _, fun _ => Or.inl (h.refl _)⟩
  · rw [if_pos hi, if_neg hj, hi]
    constructor
    · rintro (y | ⟨y, z⟩ | ⟨y, z⟩)
      · exact absurd (hc _ y) hj
      · exact absurd (hc _ z) hj
      · exact z
    · intro y; exact Or.inr (Or.inr ⟨h.refl _, y⟩)
  · rw [if_neg hi, if_pos hj, hj]
    constructor
    · rintro (y | ⟨y, z⟩ | ⟨y, z⟩)
      · exact absurd (hc' _ y) hi
      · exact y
      · exact absurd (hc' _ y) hi
    · intro y; exact Or.inr (Or.inl ⟨y, h.refl _⟩)
  · rw [if_neg hi, if_neg hj]
    constructor
    · rintro (y | ⟨y, z⟩ | ⟨y, z⟩)
      · exact y
      · exact absurd (hc _ z) hj
      · exact absurd (hc' _ y) hi
    · exact Or.inl
/-- The first cell of its class. -/
def Rep (R : Nat → Nat → Prop) (a : Nat) : Prop := ∀ b, b < a → ¬ R b a
theorem rep_ex {R : Nat → Nat → Prop} (h : Eqv R) (a : Nat) : ∃ r, r ≤ a ∧ R r a ∧ Rep R r := by
  induction a using Nat.strongRecOn with
  | ind a ih =>
    by_cases hr : Rep R a
    · exact ⟨a, Nat.le_refl _, h.refl _, hr⟩
    · have : ∃ b, b < a ∧ R b a := Classical.byContradiction fun hn => hr fun b hb hR => hn ⟨b, hb, hR⟩
      obtain ⟨b, hb, hR⟩ := this
      obtain ⟨r, h1, h2, h3⟩ := ih b hb
      exact ⟨r, by omega, h.trans _ _ _ h2 hR, h3⟩
theorem rep_one {R : Nat → Nat → Prop} {a b : Nat} (h : Eqv R) (ha : Rep R a) (hb : Rep R b) (hR : R a b) : a = b := by
  rcases Nat.lt_trichotomy a b with x | x | x
  · exact absurd hR (hb a x)
  · exact x
  · exact absurd (h.symm _ _ hR) (ha b x)
/-- one first cell is none any more -/
theorem join_rep {R : Nat → Nat → Prop} (h : Eqv R) {a b : Nat} (hab : ¬ R a b) :
    ∃ k, (k ≤ a ∨ k ≤ b) ∧ (R k a ∨ R k b) ∧ Rep R k ∧ ∀ x, Rep (J R a b) x ↔ Rep R x ∧ x ≠ k := by
  obtain ⟨p, p1, p2, p3⟩ := rep_ex h a
  obtain ⟨q, q1, q2, q3⟩ := rep_ex h b
  have less : ∀ x, Rep (J R a b) x → Rep R x := fun x hx y hy hR => hx y hy (Or.inl hR)
  rcases Nat.lt_trichotomy p q with x | x | x
  · refine ⟨q, Or.inr q1, Or.inr q2, q3, fun z => ⟨fun hz => ⟨less z hz, ?_⟩, ?_⟩⟩
    · rintro rfl; exact hz p x (Or.inr (Or.inl ⟨p2, h.symm _ _ q2⟩))
    · rintro ⟨hz, hne⟩ y hy (u | ⟨u, v⟩ | ⟨u, v⟩)
      · exact hz y hy u
      · exact hne (rep_one h q3 hz (h.trans _ _ _ q2 v)).symm
      · have e := rep_one h p3 hz (h.trans _ _ _ p2 v)
        exact q3 y (by omega) (h.trans _ _ _ u (h.symm _ _ q2))
  · exact absurd (h.trans _ _ _ (h.symm _ _ p2) (x ▸ q2)) hab
  · refine ⟨p, Or.inl p1, Or.inl p2, p3, fun z => ⟨fun hz => ⟨less z hz, ?_⟩, ?_⟩⟩
    · rintro rfl; exact hz q x (Or.inr (Or.inr ⟨q2, h.symm _ _ p2⟩))
    · rintro ⟨hz, hne⟩ y hy (u | ⟨u, v⟩ | ⟨u, v⟩)
      · exact hz y hy u
      · have e := rep_one h q3 hz (h.trans _ _ _ q2 v)
        exact p3 y (by omega) (h.trans _ _ _ u (h.symm _ _ p2))
      · exact hne (rep_one h p3 hz (h.trans _ _ _ p2 v)).symm
open Classical in
/-- How many of the first t have P. -/
noncomputable def cntP (t : Nat) (P : Nat → Prop) : Int := sumN t fun a => one (decide (P a))
theorem cntP_congr {t : Nat} {P Q : Nat → Prop} (h : ∀ a, a < t → (P a ↔ Q a)) : cntP t P = cntP t Q := by
  unfold cntP; refine sumN_congr fun a ha => ?_
  rw [decide_eq_decide.2 (h a ha)]
open Classical in
theorem cntP_yes {t : Nat} {P : Nat → Prop} (h : P t) : cntP (t + 1) P = cntP t P + 1 := by
  unfold cntP; simp only [sumN]; rw [decide_eq_true h]; rfl
open Classical in
theorem cntP_no {t : Nat} {P : Nat → Prop} (h : ¬ P t) : cntP (t + 1) P = cntP t P := by
  unfold cntP; simp only [sumN]; rw [decide_eq_false h]; simp [one]
theorem cntP_drop {t k : Nat} {P Q : Nat → Prop} (hk : k < t) (hP : P k) (h : ∀ a, a < t → (Q a ↔ P a ∧ a ≠ k)) : cntP t Q = cntP t P - 1 := by
  induction t with
  | zero => omega
  | succ t ih =>
    by_cases e : k = t
    · subst e
      rw [cntP_yes hP, cntP_no (fun hq => ((h k (by omega)).1 hq).2 rfl), cntP_congr (Q := P) (fun a ha => ⟨fun hq => ((h a (by omega)).1 hq).1, fun hp => (h a (by omega)).2 ⟨hp, by omega⟩⟩)]
      omega
    · have := ih (by omega) (fun a ha => h a (by omega))
      have ht := h t (by omega)
      by_cases hp : P t
      · rw [cntP_yes hp, cntP_yes (ht.2 ⟨hp, fun x => e x.symm⟩), this]; omega
      · rw [cntP_no hp, cntP_no (fun hq => hp (ht.1 hq).1), this]
/-- two classes of the kind Q become one -/
theorem cnt_join {R : Nat → Nat → Prop} {Q : Nat → Prop} {t a b : Nat} (h : Eqv R) (hab : ¬ R a b) (ha : a < t) (hb : b < t) (hQ : ∀ x y, R x y → (Q x ↔ Q y)) (hq : Q a ↔ Q b) :
    (Q a → cntP t (fun x => Q x ∧ Rep (J R a b) x) = cntP t (fun x => Q x ∧ Rep R x) - 1) ∧
    (¬ Q a → cntP t (fun x => Q x ∧ Rep (J R a b) x) = cntP t (fun x => Q x ∧ Rep R x)) := by
  obtain ⟨k, k1, k2, k3, k4⟩ := join_rep h hab
  have hQk : Q k ↔ Q a := by
    rcases k2 with x | x
    · exact hQ _ _ x
    · exact (hQ _ _ x).trans hq.symm
  constructor
  · intro hqa
    refine cntP_drop (k := k) (by omega) ⟨hQk.2 hqa, k3⟩ fun x _ => ?_
    rw [k4]; exact ⟨fun ⟨u, v, w⟩ => ⟨⟨u, v⟩, w⟩, fun ⟨⟨u, v⟩, w⟩ => ⟨u, v, w⟩⟩
  · intro hqa
    refine cntP_congr fun x _ => ?_
    rw [k4]
    refine ⟨fun ⟨u, v, _⟩ => ⟨u, v⟩, fun ⟨u, v⟩ => ⟨u, v, ?_⟩⟩
    rintro rfl; exact hqa (hQk.1 u)
/-- a cell comes, and is linked to a cell before it -/
theorem rep_new {R : Nat → Nat → Prop} (h : Eqv R) {c x : Nat} (hc : ∀ b, R c b → b = c) (hx : x < c) :
    (∀ a, a < c → (Rep (J R x c) a ↔ Rep R a)) ∧ ¬ Rep (J R x c) c := by
  constructor
  · intro a ha
    unfold Rep
    constructor
    · intro hr b hb hR; exact hr b hb (Or.inl hR)
    · intro hr b hb hR
      rw [J_new h hc] at hR
      unfold rc at hR
      rw [if_neg (by omega), if_neg (by omega)] at hR
      exact hr b hb hR
  · intro hr; exact hr x hx (J_link h x c)
end Go.Proofs.YtbdpngjakccjjaaDoor
