
/- Chapter 4 of spec: the map with a border, OutlineOf, CornersOf. -/
import Derived.Test.YthbmiibbnbbdgaaMathO
import Derived.Test.YthbmiibbnbbdgaaUn3
import Derived.Test.YthbmiibbnbbdgaaSum
namespace Go.Proofs.Ythbmiibbnbbdgaa
open Go.RowKit Go.Sort
set_option linter.unusedVariables false
/-- The map when the first k cells of the field are done. -/
def mapTo (f : Nat → Rt) (n k a : Nat) : Bool := mapG f n a && decide (20 * (a / 22 - 1) + (a % 22 - 1) < k)
theorem mapG_inner {f : Nat → Rt} {n a : Nat} (h : mapG f n a = true) : 1 ≤ a % 22 ∧ a % 22 ≤ 20 ∧ 1 ≤ a / 22 ∧ a / 22 ≤ 20 := by
  unfold mapG at h; rw [Bool.and_eq_true, decide_eq_true_iff] at h; exact h.1
theorem mapTo_none (f : Nat → Rt) (n a : Nat) : one (mapTo f n 0 a) = 0 := by unfold mapTo; simp [one]
theorem mapTo_all (f : Nat → Rt) (n a : Nat) : mapTo f n 400 a = mapG f n a := by
  unfold mapTo
  cases h : mapG f n a
  · rfl
  · have := mapG_inner h
    rw [Bool.true_and]; exact decide_eq_true (by omega)
theorem mapTo_step (f : Nat → Rt) (n y x a : Nat) (hy : y < 20) (hx : x < 20) (ha : a ≠ (y + 1) * 22 + x + 1) : mapTo f n (20 * y + x) a = mapTo f n (20 * y + (x + 1)) a := by
  unfold mapTo
  cases h : mapG f n a
  · rfl
  · have := mapG_inner h
    rw [Bool.true_and, Bool.true_and, decide_eq_decide]; omega
theorem mapTo_hit (f : Nat → Rt) (n y x : Nat) (hy : y < 20) (hx : x < 20) : mapTo f n (20 * y + (x + 1)) ((y + 1) * 22 + x + 1) = anyTo f x y n := by
  unfold mapTo
  rw [show (y + 1) * 22 + x + 1 = 22 * (y + 1) + (x + 1) by omega, mapG_at f n (x + 1) (y + 1) (by omega), decide_eq_true (p := 20 * ((22 * (y + 1) + (x + 1)) / 22 - 1) + ((22 * (y + 1) + (x + 1)) % 22 - 1) < 20 * y + (x + 1)) (by omega), Bool.and_true,
    decide_eq_true (p := 1 ≤ x + 1 ∧ x + 1 ≤ 20 ∧ 1 ≤ y + 1 ∧ y + 1 ≤ 20) (by omega), Bool.true_and]
  rw [show ((x + 1 : Nat) : Int) - 1 = x by omega, show ((y + 1 : Nat) : Int) - 1 = y by omega]
theorem mapTo_old (f : Nat → Rt) (n y x : Nat) (hy : y < 20) (hx : x < 20) : mapTo f n (20 * y + x) ((y + 1) * 22 + x + 1) = false := by
  unfold mapTo
  rw [show (y + 1) * 22 + x + 1 = 22 * (y + 1) + (x + 1) by omega, decide_eq_false (p := 20 * ((22 * (y + 1) + (x + 1)) / 22 - 1) + ((22 * (y + 1) + (x + 1)) % 22 - 1) < 20 * y + x) (by omega), Bool.and_false]
theorem Iw.c4 {w : World} {A : Option Addr} {n g k : Nat} {f : Nat → Int} (h : Iw w A n f g) (hk : k < n) : w.cell? ⟨g, k, none⟩ = some (.int .i64 (f k)) ∧ w.frozen? ⟨g, k, none⟩ = false ∧ g < w.heap.size := by
  rcases h with h | ⟨_, h0, h1, h2⟩
  · omega
  · exact ⟨h1 k hk, h2 k hk, h0⟩

/-- A map is handed back, in a block of the call's own. -/
def MapPost (G : Nat → Bool) (w : World) (e : Ending) (w' : World) : Prop :=
  ∃ g, e = .returned (.slice (some ⟨g, 0, none⟩) 484 484) ∧ Iw w' (some ⟨g, 0, none⟩) 484 (fun a => one (G a)) g ∧ w.heap.size ≤ g ∧ Below w.heap.size w w'
end Go.Proofs.Ythbmiibbnbbdgaa
