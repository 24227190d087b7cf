
/- Floods: what a search from one cell reaches; and classes counted by floods. -/
import Derived.Test.YtbdpngjakccjjaaMathN
namespace Go.Proofs.Ytbdpngjakccjjaa
set_option linter.unusedVariables false

/-- Linked by edges: the least equivalence that has them. -/
def Rch (E : Nat → Nat → Prop) (a b : Nat) : Prop := ∀ L : Nat → Nat → Prop, Eqv L → (∀ a b, E a b → L a b) → L a b
theorem Rch.eqv (E : Nat → Nat → Prop) : Eqv (Rch E) :=
  ⟨fun a L hL _ => hL.refl a, fun a b h L hL hE => hL.symm _ _ (h L hL hE), fun a b c h k L hL hE => hL.trans _ _ _ (h L hL hE) (k L hL hE)⟩
theorem Rch.edge {E : Nat → Nat → Prop} {a b : Nat} (h : E a b) : Rch E a b := fun _ _ hE => hE _ _ h
theorem Rch.least {E : Nat → Nat → Prop} {L : Nat → Nat → Prop} (hL : Eqv L) (h : ∀ a b, E a b → L a b) {a b : Nat} (r : Rch E a b) : L a b := r L hL h
/-- a set that no edge leaves -/
theorem Rch.shut {E : Nat → Nat → Prop} {S : Nat → Prop} (hS : ∀ a b, E a b → (S a ↔ S b)) {a b : Nat} (r : Rch E a b) : S a ↔ S b :=
  r.least (L := fun a b => S a ↔ S b) ⟨fun _ => Iff.rfl, fun _ _ h => h.symm, fun _ _ _ h k => h.trans k⟩ hS

/-- A search from the cell c: S is what was seen before, seen what is seen now, In what is still to do, Rem the edges still to look at. -/
structure Flood (E : Nat → Nat → Prop) (S : Nat → Bool) (c : Nat) (seen : Nat → Bool) (In : Nat → Prop) (Rem : Nat → Nat → Prop) : Prop where
  base : ∀ a, S a = true → seen a = true
  own : seen c = true
  sound : ∀ a, seen a = true → S a = true ∨ Rch E c a
  todo : ∀ a, In a → seen a = true ∧ Rch E c a
  done : ∀ a b, seen a = true → E a b → S a = true ∨ In a ∨ seen b = true ∨ Rem a b
/-- One cell more is seen. -/
def putB (s : Nat → Bool) (k : Nat) : Nat → Bool := fun a => if a = k then true else s a
theorem putB_same (s : Nat → Bool) (k : Nat) : putB s k k = true := if_pos rfl
theorem putB_other (s : Nat → Bool) {k a : Nat} (h : a ≠ k) : putB s k a = s a := if_neg h
theorem putB_up {s : Nat → Bool} {k a : Nat} (h : s a = true) : putB s k a = true := by unfold putB; split <;> first | rfl | exact h
theorem putB_iff {s : Nat → Bool} {k a : Nat} : putB s k a = true ↔ a = k ∨ s a = true := by
  unfold putB; split
  · rename_i h; exact ⟨fun _ => Or.inl h, fun _ => rfl⟩
  · rename_i h; exact ⟨Or.inr, fun x => x.elim (fun e => absurd e h) id⟩
section
variable {E : Nat → Nat → Prop} {S seen : Nat → Bool} {c : Nat} {In : Nat → Prop} {Rem : Nat → Nat → Prop}
theorem Flood.start (E : Nat → Nat → Prop) (S : Nat → Bool) (c : Nat) : Flood E S c (putB S c) (fun a => a = c) (fun _ _ => False) := by
  refine ⟨fun a h => putB_up h, putB_same _ _, fun a h => ?_, fun a h => ?_, fun a b h _ => ?_⟩
  · rcases putB_iff.1 h with e | h
    · exact Or.inr (e ▸ (Rch.eqv E).refl c)
    · exact Or.inl h
  · exact ⟨h ▸ putB_same _ _, h ▸ (Rch.eqv E).refl c⟩
  · rcases putB_iff.1 h with e | h
    · exact Or.inr (Or.inl e)
    · exact Or.inl h
/-- a cell is taken: its edges are to be looked at -/
theorem Flood.pop (h : Flood E S c seen In (fun _ _ => False)) {k : Nat} {In' : Nat → Prop} (hk : ∀ a, In a → a = k ∨ In' a) (hi : ∀ a, In' a → In a) :
    Flood E S c seen In' (fun a _ => a = k) := by
  refine ⟨h.base, h.own, h.sound, fun a ha => h.todo a (hi a ha), fun a b ha he => ?_⟩
  rcases h.done a b ha he with x | x | x | x
  · exact Or.inl x
  · rcases hk a x with e | x
    · exact Or.inr (Or.inr (Or.inr e))
    · exact Or.inr (Or.inl x)
  · exact Or.inr (Or.inr (Or.inl x))
  · exact x.elim
/-- an edge leads to a new cell -/
theorem Flood.push (h : Flood E S c seen In Rem) {k j : Nat} (hk : Rch E c k) (he : E k j) {In' : Nat → Prop} {Rem' : Nat → Nat → Prop} (hi : ∀ a, In' a ↔ In a ∨ a = j) (hr : ∀ a b, E a b → Rem a b → Rem' a b ∨ b = j) :
    Flood E S c (putB seen j) In' Rem' := by
  have hj : Rch E c j := (Rch.eqv E).trans _ _ _ hk (Rch.edge he)
  refine ⟨fun a ha => putB_up (h.base a ha), putB_up h.own, fun a ha => ?_, fun a ha => ?_, fun a b ha he => ?_⟩
  · rcases putB_iff.1 ha with e | ha
    · exact Or.inr (e ▸ hj)
    · exact h.sound a ha
  · rcases (hi a).1 ha with x | e
    · exact ⟨putB_up (h.todo a x).1, (h.todo a x).2⟩
    · exact ⟨e ▸ putB_same _ _, e ▸ hj⟩
  · rcases putB_iff.1 ha with e | ha
    · exact Or.inr (Or.inl ((hi a).2 (Or.inr e)))
    · rcases h.done a b ha he with x | x | x | x
      · exact Or.inl x
      · exact Or.inr (Or.inl ((hi a).2 (Or.inl x)))
      · exact Or.inr (Or.inr (Or.inl (putB_up x)))
      · rcases hr a b he x with y | y
        · exact Or.inr (Or.inr (Or.inr y))
        · exact Or.inr (Or.inr (Or.inl (putB_iff.2 (Or.inl y))))
/-- an edge leads nowhere new -/
theorem Flood.skip (h : Flood E S c seen In Rem) {Rem' : Nat → Nat → Prop} (hr : ∀ a b, seen a = true → E a b → Rem a b → Rem' a b ∨ seen b = true) : Flood E S c seen In Rem' := by
  refine ⟨h.base, h.own, h.sound, h.todo, fun a b ha he => ?_⟩
  rcases h.done a b ha he with x | x | x | x
  · exact Or.inl x
  · exact Or.inr (Or.inl x)
  · exact Or.inr (Or.inr (Or.inl x))
  · rcases hr a b ha he x with y | y
    · exact Or.inr (Or.inr (Or.inr y))
    · exact Or.inr (Or.inr (Or.inl y))
theorem Flood.in_congr (h : Flood E S c seen In Rem) {In' : Nat → Prop} (hi : ∀ a, In' a ↔ In a) : Flood E S c seen In' Rem :=
  ⟨h.base, h.own, h.sound, fun a ha => h.todo a ((hi a).1 ha), fun a b ha he => (h.done a b ha he).imp id (Or.imp (hi a).2 id)⟩
/-- nothing is left: the cell's class is seen -/
theorem Flood.ended (h : Flood E S c seen In Rem) (hi : ∀ a, ¬ In a) (hr : ∀ a b, ¬ Rem a b) (hs : ∀ a b, E a b → E b a) (hS : ∀ a b, E a b → S a = true → S b = true) (a : Nat) :
    seen a = true ↔ S a = true ∨ Rch E c a := by
  have step : ∀ a b, E a b → seen a = true → seen b = true := fun a b he ha => by
    rcases h.done a b ha he with x | x | x | x
    · exact h.base _ (hS _ _ he x)
    · exact absurd x (hi a)
    · exact x
    · exact absurd x (hr a b)
  refine ⟨h.sound a, fun hh => hh.elim (h.base a) fun r => ?_⟩
  exact (Rch.shut (S := fun a => seen a = true) (fun a b he => ⟨step a b he, step b a (hs a b he)⟩) r).1 h.own
end
/-- How many of the first n are not seen. -/
def restB : Nat → (Nat → Bool) → Nat
  | 0, _ => 0
  | n + 1, s => restB n s + (if s n then 0 else 1)
theorem restB_le (n : Nat) (s : Nat → Bool) : restB n s ≤ n := by
  induction n with
  | zero => exact Nat.le_refl _
  | succ n ih => simp only [restB]; split <;> omega
theorem restB_put {n k : Nat} {s : Nat → Bool} (hk : k < n) (h : s k = false) : restB n (putB s k) + 1 = restB n s := by
  have same : ∀ m, m ≤ k → restB m (putB s k) = restB m s := fun m => by
    induction m with
    | zero => intro _; rfl
    | succ m ih => intro hm; simp only [restB]; rw [ih (by omega), putB_other s (show m ≠ k by omega)]
  induction n with
  | zero => omega
  | succ n ih =>
    simp only [restB]
    by_cases e : n = k
    · subst e; rw [same n (Nat.le_refl _), putB_same, h]; simp
    · rw [putB_other s e]
      have := ih (by omega)
      omega

-- classes counted: cell by cell, each first one begins a search
/-- Behind the first t cells: all classes of the kind Q that begin below t are seen. -/
structure Count (E : Nat → Nat → Prop) (Q : Nat → Prop) (t : Nat) (seen : Nat → Bool) (n : Int) : Prop where
  seen : ∀ a, seen a = true ↔ Q a ∧ ∃ r, r < t ∧ Rch E r a
  num : n = cntP t fun a => Q a ∧ Rep (Rch E) a
theorem Count.start (E : Nat → Nat → Prop) (Q : Nat → Prop) : Count E Q 0 (fun _ => false) 0 :=
  ⟨fun a => ⟨fun h => absurd h (by decide), fun ⟨_, r, hr, _⟩ => by omega⟩, rfl⟩
theorem Count.skip {E : Nat → Nat → Prop} {Q : Nat → Prop} {t : Nat} {seen : Nat → Bool} {n : Int} (h : Count E Q t seen n) (hc : ∀ a b, Rch E a b → (Q a ↔ Q b)) (ht : ¬ Q t ∨ seen t = true) : Count E Q (t + 1) seen n := by
  have e := Rch.eqv E
  refine ⟨fun a => ?_, ?_⟩
  · rw [h.seen a]
    refine and_congr_right fun hq => ⟨fun ⟨r, hr, x⟩ => ⟨r, by omega, x⟩, fun ⟨r, hr, x⟩ => ?_⟩
    by_cases he : r = t
    · subst he
      rcases ht with ht | ht
      · exact absurd ((hc _ _ x).2 hq) ht
      · obtain ⟨_, r', hr', x'⟩ := (h.seen r).1 ht
        exact ⟨r', hr', e.trans _ _ _ x' x⟩
    · exact ⟨r, by omega, x⟩
  · rw [h.num, cntP_no]
    rintro ⟨hq, hr⟩
    rcases ht with ht | ht
    · exact ht hq
    · obtain ⟨_, r', hr', x'⟩ := (h.seen t).1 ht
      exact hr r' hr' x'
theorem Count.flood {E : Nat → Nat → Prop} {Q : Nat → Prop} {t : Nat} {seen seen' : Nat → Bool} {n : Int} (h : Count E Q t seen n) (hc : ∀ a b, Rch E a b → (Q a ↔ Q b)) (hq : Q t) (ht : seen t = false)
    (hs : ∀ a, seen' a = true ↔ seen a = true ∨ Rch E t a) : Count E Q (t + 1) seen' (n + 1) := by
  have e := Rch.eqv E
  refine ⟨fun a => ?_, ?_⟩
  · rw [hs a, h.seen a]
    constructor
    · rintro (⟨q, r, hr, x⟩ | x)
      · exact ⟨q, r, by omega, x⟩
      · exact ⟨(hc _ _ x).1 hq, t, by omega, x⟩
    · rintro ⟨q, r, hr, x⟩
      by_cases he : r = t
      · exact Or.inr (he ▸ x)
      · exact Or.inl ⟨q, r, by omega, x⟩
  · rw [h.num, cntP_yes]
    refine ⟨hq, fun b hb x => ?_⟩
    have := (h.seen t).2 ⟨hq, b, hb, x⟩
    rw [ht] at this; cases this
/-- what is seen is closed under edges -/
theorem Count.shut {E : Nat → Nat → Prop} {Q : Nat → Prop} {t : Nat} {seen : Nat → Bool} {n : Int} (h : Count E Q t seen n) (hc : ∀ a b, Rch E a b → (Q a ↔ Q b)) (a b : Nat) (he : E a b) (hs : seen a = true) : seen b = true := by
  obtain ⟨q, r, hr, x⟩ := (h.seen a).1 hs
  exact (h.seen b).2 ⟨(hc _ _ (Rch.edge he)).1 q, r, hr, (Rch.eqv E).trans _ _ _ x (Rch.edge he)⟩

-- the map's two kinds of edges
/-- In the grid of 22 by 22, beside each other. -/
def Side (a b : Nat) : Prop := a < 484 ∧ b < 484 ∧ ((b = a + 1 ∧ a % 22 ≠ 21) ∨ (a = b + 1 ∧ b % 22 ≠ 21) ∨ b = a + 22 ∨ a = b + 22)
/-- beside each other, or at a corner -/
def Side8 (a b : Nat) : Prop := Side a b ∨ (a < 484 ∧ b < 484 ∧ ((b = a + 23 ∧ a % 22 ≠ 21) ∨ (a = b + 23 ∧ b % 22 ≠ 21) ∨ (b = a + 21 ∧ a % 22 ≠ 0) ∨ (a = b + 21 ∧ b % 22 ≠ 0)))
def Ed4 (G : Nat → Bool) (a b : Nat) : Prop := Side a b ∧ G a = true ∧ G b = true
def Ed8 (G : Nat → Bool) (a b : Nat) : Prop := Side8 a b ∧ G a = false ∧ G b = false
theorem Side.lt1 {a b : Nat} (h : Side a b) : a < 484 := h.1
theorem Side.lt2 {a b : Nat} (h : Side a b) : b < 484 := h.2.1
theorem Side8.lt1 {a b : Nat} (h : Side8 a b) : a < 484 := h.elim Side.lt1 fun h => h.1
theorem Side8.lt2 {a b : Nat} (h : Side8 a b) : b < 484 := h.elim Side.lt2 fun h => h.2.1
theorem Side.symm {a b : Nat} (h : Side a b) : Side b a := by unfold Side at *; omega
theorem Side8.symm {a b : Nat} (h : Side8 a b) : Side8 b a := by unfold Side8 Side at *; omega
theorem Ed4.symm {G : Nat → Bool} {a b : Nat} (h : Ed4 G a b) : Ed4 G b a := ⟨h.1.symm, h.2.2, h.2.1⟩
theorem Ed8.symm {G : Nat → Bool} {a b : Nat} (h : Ed8 G a b) : Ed8 G b a := ⟨h.1.symm, h.2.2, h.2.1⟩
theorem rch4_col {G : Nat → Bool} {a b : Nat} (r : Rch (Ed4 G) a b) : G a = true ↔ G b = true :=
  Rch.shut (S := fun a => G a = true) (fun a b h => ⟨fun _ => h.2.2, fun _ => h.2.1⟩) r
theorem rch8_col {G : Nat → Bool} {a b : Nat} (r : Rch (Ed8 G) a b) : G a = false ↔ G b = false :=
  Rch.shut (S := fun a => G a = false) (fun a b h => ⟨fun _ => h.2.2, fun _ => h.2.1⟩) r
theorem Lst.side {G : Nat → Bool} {R : Nat → Nat → Prop} (h : Lst G R) {a b : Nat} (hs : Side a b) (hg : G a = G b) : R a b := by
  obtain ⟨ha, hb, x | x | x | x⟩ := hs
  · exact h.near _ _ hb (Or.inl ⟨Or.inl x.1, hg⟩)
  · exact h.eqv.symm _ _ (h.near _ _ ha (Or.inl ⟨Or.inl x.1, hg.symm⟩))
  · exact h.near _ _ hb (Or.inl ⟨Or.inr x, hg⟩)
  · exact h.eqv.symm _ _ (h.near _ _ ha (Or.inl ⟨Or.inr x, hg.symm⟩))
theorem Lst.side8 {G : Nat → Bool} {R : Nat → Nat → Prop} (h : Lst G R) {a b : Nat} (hs : Side8 a b) (ga : G a = false) (gb : G b = false) : R a b := by
  rcases hs with hs | ⟨ha, hb, x | x | x | x⟩
  · exact h.side hs (ga.trans gb.symm)
  · exact h.near _ _ hb (Or.inr ⟨Or.inr x.1, ga, gb⟩)
  · exact h.eqv.symm _ _ (h.near _ _ ha (Or.inr ⟨Or.inr x.1, gb, ga⟩))
  · exact h.near _ _ hb (Or.inr ⟨Or.inl x.1, ga, gb⟩)
  · exact h.eqv.symm _ _ (h.near _ _ ha (Or.inr ⟨Or.inl x.1, gb, ga⟩))
/-- On the union both equivalences are one. -/
theorem lst_rch4 {G : Nat → Bool} {R : Nat → Nat → Prop} (hM : Map G) (h : Lst G R) {a b : Nat} (ga : G a = true) : R a b ↔ Rch (Ed4 G) a b := by
  constructor
  · intro r
    have e := Rch.eqv (Ed4 G)
    have := h.least (fun a b => G a = G b ∧ (G a = true → Rch (Ed4 G) a b))
      ⟨fun a => ⟨rfl, fun _ => e.refl _⟩, fun a b h => ⟨h.1.symm, fun g => e.symm _ _ (h.2 (h.1.trans g))⟩, fun a b c h k => ⟨h.1.trans k.1, fun g => e.trans _ _ _ (h.2 g) (k.2 (h.1.symm.trans g))⟩⟩
      (fun a b hb hn => by
        rcases hn with ⟨x, g⟩ | ⟨x, g, g'⟩
        · refine ⟨g, fun ga => Rch.edge ⟨?_, ga, g ▸ ga⟩⟩
          have h21 : a % 22 ≠ 21 := fun hm => by
            have := hM.right (a / 22) (by omega)
            rw [show 22 * (a / 22) + 21 = a by omega, ga] at this; cases this
          unfold Side; omega
        · exact ⟨g.trans g'.symm, fun ga => by rw [g] at ga; cases ga⟩) a b r
    exact this.2 ga
  · intro r
    exact r.least h.eqv fun a b he => h.side he.1 (he.2.1.trans he.2.2.symm)
theorem ray_row8 {G : Nat → Bool} {a : Nat} (k : Nat) (hk : a + k < 484) (hr : a % 22 + k ≤ 21) (h : ∀ i, i ≤ k → G (a + i) = false) : Rch (Ed8 G) a (a + k) := by
  induction k with
  | zero => exact (Rch.eqv _).refl _
  | succ k ih =>
    refine (Rch.eqv _).trans _ _ _ (ih (by omega) (by omega) (fun i hi => h i (by omega))) (Rch.edge ⟨Or.inl ?_, h k (by omega), h (k + 1) (by omega)⟩)
    unfold Side; omega
theorem ray_col8 {G : Nat → Bool} {a : Nat} (k : Nat) (hk : a + 22 * k < 484) (h : ∀ i, i ≤ k → G (a + 22 * i) = false) : Rch (Ed8 G) a (a + 22 * k) := by
  induction k with
  | zero => exact (Rch.eqv _).refl _
  | succ k ih =>
    refine (Rch.eqv _).trans _ _ _ (ih (by omega) (fun i hi => h i (by omega))) (Rch.edge ⟨Or.inl ?_, h k (by omega), h (k + 1) (by omega)⟩)
    unfold Side; omega
/-- the border is one class -/
theorem border8 {G : Nat → Bool} (hB : Bare G) : (∀ y, y < 22 → Rch (Ed8 G) 0 (22 * y)) ∧ ∀ y, y < 22 → Rch (Ed8 G) 0 (22 * y + 21) := by
  have e := Rch.eqv (Ed8 G)
  have a2 : ∀ y, y < 22 → Rch (Ed8 G) 0 (22 * y) := fun y hy => by
    have := ray_col8 (G := G) (a := 0) y (by omega) (fun i hi => by rw [Nat.zero_add]; exact hB.left i (by omega)); rwa [Nat.zero_add] at this
  refine ⟨a2, fun y hy => ?_⟩
  have h1 := ray_row8 (G := G) (a := 0) 21 (by omega) (by omega) (fun i hi => by rw [Nat.zero_add]; exact hB.first _ (by omega))
  rw [Nat.zero_add] at h1
  have := ray_col8 (G := G) (a := 21) y (by omega) (fun i hi => by rw [Nat.add_comm]; exact hB.right i (by omega))
  rw [Nat.add_comm] at this
  exact e.trans _ _ _ h1 this
/-- Beside the union, too. -/
theorem lst_rch8 {G : Nat → Bool} {R : Nat → Nat → Prop} (hM : Map G) (h : Lst G R) {a b : Nat} (ga : G a = false) : R a b ↔ Rch (Ed8 G) a b := by
  have e := Rch.eqv (Ed8 G)
  obtain ⟨b2, b3⟩ := border8 hM.toBare
  have wrap : ∀ y, y < 21 → Rch (Ed8 G) (22 * y + 21) (22 * (y + 1)) := fun y hy => e.trans _ _ _ (e.symm _ _ (b3 y (by omega))) (b2 (y + 1) (by omega))
  constructor
  · intro r
    have := h.least (fun a b => G a = G b ∧ (G a = false → Rch (Ed8 G) a b))
      ⟨fun a => ⟨rfl, fun _ => e.refl _⟩, fun a b h => ⟨h.1.symm, fun g => e.symm _ _ (h.2 (h.1.trans g))⟩, fun a b c h k => ⟨h.1.trans k.1, fun g => e.trans _ _ _ (h.2 g) (k.2 (h.1.symm.trans g))⟩⟩
      (fun a b hb hn => by
        rcases hn with ⟨x | x, g⟩ | ⟨x | x, g, g'⟩
        · refine ⟨g, fun ga => ?_⟩
          by_cases hm : a % 22 = 21
          · have w := wrap (a / 22) (by omega)
            rw [show 22 * (a / 22) + 21 = a by omega, show 22 * (a / 22 + 1) = b by omega] at w
            exact w
          · exact Rch.edge ⟨Or.inl (by unfold Side; omega), ga, g ▸ ga⟩
        · exact ⟨g, fun ga => Rch.edge ⟨Or.inl (by unfold Side; omega), ga, g ▸ ga⟩⟩
        · refine ⟨g.trans g'.symm, fun _ => ?_⟩
          by_cases hm : a % 22 = 0
          · -- from a row's first cell to its own last one
            have w := e.trans _ _ _ (e.symm _ _ (b2 (a / 22) (by omega))) (b3 (a / 22) (by omega))
            rw [show 22 * (a / 22) = a by omega, show a + 21 = b by omega] at w
            exact w
          · exact Rch.edge ⟨Or.inr ⟨by omega, hb, by omega⟩, g, g'⟩
        · refine ⟨g.trans g'.symm, fun _ => ?_⟩
          by_cases hm : a % 22 = 21
          · -- over a row's end, to the row after next
            have w1 := e.trans _ _ _ (e.symm _ _ (b3 (a / 22) (by omega))) (b2 (a / 22 + 2) (by omega))
            rw [show 22 * (a / 22) + 21 = a by omega, show 22 * (a / 22 + 2) = b by omega] at w1
            exact w1
          · exact Rch.edge ⟨Or.inr ⟨by omega, hb, by omega⟩, g, g'⟩) a b r
    exact this.2 ga
  · intro r
    exact r.least h.eqv fun a b he => h.side8 he.1 he.2.1 he.2.2
/-- Pieces and holes, as they are counted. -/
theorem pcs_rch {G : Nat → Bool} {R : Nat → Nat → Prop} (hM : Map G) (h : Lst G R) : pcs G R 484 = cntP 484 fun a => G a = true ∧ Rep (Rch (Ed4 G)) a := by
  unfold pcs
  refine cntP_congr fun a _ => and_congr_right fun ga => ?_
  unfold Rep
  refine forall_congr' fun b => forall_congr' fun _ => not_congr ?_
  exact ⟨fun r => (Rch.eqv _).symm _ _ ((lst_rch4 hM h ga).1 (h.eqv.symm _ _ r)), fun r => h.eqv.symm _ _ ((lst_rch4 hM h ga).2 ((Rch.eqv _).symm _ _ r))⟩
theorem whs_rch {G : Nat → Bool} {R : Nat → Nat → Prop} (hM : Map G) (h : Lst G R) : whs G R 484 = cntP 484 fun a => G a = false ∧ Rep (Rch (Ed8 G)) a := by
  unfold whs
  refine cntP_congr fun a _ => and_congr_right fun ga => ?_
  unfold Rep
  refine forall_congr' fun b => forall_congr' fun _ => not_congr ?_
  exact ⟨fun r => (Rch.eqv _).symm _ _ ((lst_rch8 hM h ga).1 (h.eqv.symm _ _ r)), fun r => h.eqv.symm _ _ ((lst_rch8 hM h ga).2 ((Rch.eqv _).symm _ _ r))⟩
end Go.Proofs.Ytbdpngjakccjjaa
