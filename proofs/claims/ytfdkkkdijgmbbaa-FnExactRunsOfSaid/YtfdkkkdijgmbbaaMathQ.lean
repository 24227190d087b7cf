/- Floods in the grid of 22 by 22: a cell's neighbours, one after another. -/
import Derived.Test.YtfdkkkdijgmbbaaMathO
namespace Go.Proofs.Ytfdkkkdijgmbbaa
set_option linter.unusedVariables false

/-- Neighbours of the colour c: by sides, or by sides and corners. -/
def EdE (e8 c : Bool) (G : Nat → Bool) (a b : Nat) : Prop := (if e8 = true then Side8 a b else Side a b) ∧ G a = c ∧ G b = c
theorem EdE.symm {e8 c : Bool} {G : Nat → Bool} {a b : Nat} (h : EdE e8 c G a b) : EdE e8 c G b a := by
  obtain ⟨h, h1, h2⟩ := h
  refine ⟨?_, h2, h1⟩
  cases e8
  · exact Side.symm h
  · exact Side8.symm h
theorem EdE_four (G : Nat → Bool) : EdE false true G = Ed4 G := by
  funext a b; unfold EdE Ed4; simp
theorem EdE_eight (G : Nat → Bool) : EdE true false G = Ed8 G := by
  funext a b; unfold EdE Ed8; simp
theorem EdE.lt {e8 c : Bool} {G : Nat → Bool} {a b : Nat} (h : EdE e8 c G a b) : a < 484 ∧ b < 484 := by
  obtain ⟨h, _⟩ := h
  cases e8
  · exact ⟨Side.lt1 h, Side.lt2 h⟩
  · exact ⟨Side8.lt1 h, Side8.lt2 h⟩
theorem rchE_col {e8 c : Bool} {G : Nat → Bool} {a b : Nat} (r : Rch (EdE e8 c G) a b) : G a = c ↔ G b = c :=
  Rch.shut (S := fun a => G a = c) (fun a b h => ⟨fun _ => h.2.2, fun _ => h.2.1⟩) r
/-- The neighbour's place among the nine. -/
def idx (k b : Nat) : Int := 3 * (((b / 22 : Nat) : Int) - ((k / 22 : Nat) : Int) + 1) + (((b % 22 : Nat) : Int) - ((k % 22 : Nat) : Int) + 1)
structure Near9 (k b : Nat) : Prop where
  lt : b < 484
  y1 : -1 ≤ ((b / 22 : Nat) : Int) - ((k / 22 : Nat) : Int)
  y2 : ((b / 22 : Nat) : Int) - ((k / 22 : Nat) : Int) ≤ 1
  x1 : -1 ≤ ((b % 22 : Nat) : Int) - ((k % 22 : Nat) : Int)
  x2 : ((b % 22 : Nat) : Int) - ((k % 22 : Nat) : Int) ≤ 1
theorem side8_near {k b : Nat} (h : Side8 k b) : Near9 k b := by
  unfold Side8 Side at h
  refine ⟨by omega, by omega, by omega, by omega, by omega⟩
theorem side_near {k b : Nat} (h : Side k b) : Near9 k b := side8_near (Or.inl h)
theorem side_cross {k b : Nat} (h : Side k b) : b / 22 = k / 22 ∨ b % 22 = k % 22 := by
  unfold Side at h; omega
theorem edE_near {e8 c : Bool} {G : Nat → Bool} {k b : Nat} (h : EdE e8 c G k b) : Near9 k b := by
  obtain ⟨h, _⟩ := h
  cases e8
  · exact side_near h
  · exact side8_near h
theorem idx_bd {k b : Nat} (h : Near9 k b) : 0 ≤ idx k b ∧ idx k b ≤ 8 := by
  obtain ⟨_, y1, y2, x1, x2⟩ := h
  unfold idx; omega
/-- The place tells the neighbour. -/
theorem idx_tells {k b : Nat} (h : Near9 k b) {X Y : Int} (hX : -1 ≤ X ∧ X ≤ 1) (hY : -1 ≤ Y ∧ Y ≤ 1) (e : idx k b = 3 * (Y + 1) + (X + 1)) : ((b / 22 : Nat) : Int) = ((k / 22 : Nat) : Int) + Y ∧ ((b % 22 : Nat) : Int) = ((k % 22 : Nat) : Int) + X := by
  obtain ⟨_, y1, y2, x1, x2⟩ := h
  unfold idx at e; omega
theorem idx_one {k b j : Nat} (h : Near9 k b) {X Y : Int} (hX : -1 ≤ X ∧ X ≤ 1) (hY : -1 ≤ Y ∧ Y ≤ 1) (e : idx k b = 3 * (Y + 1) + (X + 1)) (hj : (k : Int) + Y * 22 + X = j) : b = j := by
  obtain ⟨e1, e2⟩ := idx_tells h hX hY e
  omega
theorem idx_out {k b : Nat} (h : Near9 k b) {X Y : Int} (hX : -1 ≤ X ∧ X ≤ 1) (hY : -1 ≤ Y ∧ Y ≤ 1) (e : idx k b = 3 * (Y + 1) + (X + 1)) : (0 ≤ (k : Int) % 22 + X ∧ (k : Int) % 22 + X ≤ 21) ∧ 0 ≤ (k : Int) / 22 + Y ∧ (k : Int) / 22 + Y ≤ 21 := by
  obtain ⟨e1, e2⟩ := idx_tells h hX hY e
  have := h.lt
  omega
/-- The cell at the place. -/
theorem place_j {k : Nat} (hk : k < 484) {X Y : Int} (hX : -1 ≤ X ∧ X ≤ 1) (hY : -1 ≤ Y ∧ Y ≤ 1) (h1 : 0 ≤ (k : Int) % 22 + X ∧ (k : Int) % 22 + X ≤ 21) (h2 : 0 ≤ (k : Int) / 22 + Y ∧ (k : Int) / 22 + Y ≤ 21) :
    ∃ j : Nat, (k : Int) + Y * 22 + X = j ∧ j < 484 ∧ ((j / 22 : Nat) : Int) = ((k / 22 : Nat) : Int) + Y ∧ ((j % 22 : Nat) : Int) = ((k % 22 : Nat) : Int) + X :=
  ⟨((k : Int) + Y * 22 + X).toNat, by omega, by omega, by omega, by omega⟩
theorem place_side8 {k j : Nat} (hk : k < 484) (hj : j < 484) {X Y : Int} (hX : -1 ≤ X ∧ X ≤ 1) (hY : -1 ≤ Y ∧ Y ≤ 1) (e1 : ((j / 22 : Nat) : Int) = ((k / 22 : Nat) : Int) + Y) (e2 : ((j % 22 : Nat) : Int) = ((k % 22 : Nat) : Int) + X) (hne : j ≠ k) : Side8 k j := by
  unfold Side8 Side
  omega
theorem place_side {k j : Nat} (hk : k < 484) (hj : j < 484) {X Y : Int} (hX : -1 ≤ X ∧ X ≤ 1) (hY : -1 ≤ Y ∧ Y ≤ 1) (e1 : ((j / 22 : Nat) : Int) = ((k / 22 : Nat) : Int) + Y) (e2 : ((j % 22 : Nat) : Int) = ((k % 22 : Nat) : Int) + X) (hne : j ≠ k) (h0 : X = 0 ∨ Y = 0) : Side k j := by
  unfold Side
  omega
theorem mul_zero_or {X Y : Int} (h : X * Y = 0) : X = 0 ∨ Y = 0 := Int.mul_eq_zero.1 h
theorem mul_bd {X Y : Int} (hX : -1 ≤ X ∧ X ≤ 1) (hY : -1 ≤ Y ∧ Y ≤ 1) : -1 ≤ X * Y ∧ X * Y ≤ 1 := by
  have : X = -1 ∨ X = 0 ∨ X = 1 := by omega
  rcases this with h | h | h <;> subst h <;> omega
/-- The cells of k's places from t on are still to look at. -/
def Rm (k : Nat) (t : Int) (a b : Nat) : Prop := a = k ∧ t ≤ idx k b
section
variable {e8 c : Bool} {G S s : Nat → Bool} {o k j : Nat} {t : Int} {In : Nat → Prop}
theorem Flood.begin (h : Flood (EdE e8 c G) S o s In (fun _ _ => False)) {In' : Nat → Prop} (hk : ∀ a, In a → a = k ∨ In' a) (hi : ∀ a, In' a → In a) : Flood (EdE e8 c G) S o s In' (Rm k 0) :=
  (h.pop hk hi).skip fun a b _ he hr => Or.inl ⟨hr, by subst hr; exact (idx_bd (edE_near he)).1⟩
theorem Flood.finish (h : Flood (EdE e8 c G) S o s In (Rm k 9)) : Flood (EdE e8 c G) S o s In (fun _ _ => False) :=
  h.skip fun a b _ he hr => by
    obtain ⟨rfl, hr⟩ := hr
    have := (idx_bd (edE_near he)).2
    omega
theorem Flood.pass (h : Flood (EdE e8 c G) S o s In (Rm k t)) (hs : ∀ b, EdE e8 c G k b → idx k b = t → s b = true) : Flood (EdE e8 c G) S o s In (Rm k (t + 1)) :=
  h.skip fun a b _ he hr => by
    obtain ⟨rfl, hr⟩ := hr
    by_cases e : idx a b = t
    · exact Or.inr (hs b he e)
    · exact Or.inl ⟨rfl, by omega⟩
theorem Flood.take (h : Flood (EdE e8 c G) S o s In (Rm k t)) (hk : Rch (EdE e8 c G) o k) (he : EdE e8 c G k j) (hj : ∀ b, EdE e8 c G k b → idx k b = t → b = j) {In' : Nat → Prop} (hi : ∀ a, In' a ↔ In a ∨ a = j) :
    Flood (EdE e8 c G) S o (putB s j) In' (Rm k (t + 1)) :=
  h.push hk he hi fun a b hab hr => by
    obtain ⟨rfl, hr⟩ := hr
    by_cases e : idx a b = t
    · exact Or.inr (hj b hab e)
    · exact Or.inl ⟨rfl, by omega⟩
end
end Go.Proofs.Ytfdkkkdijgmbbaa
