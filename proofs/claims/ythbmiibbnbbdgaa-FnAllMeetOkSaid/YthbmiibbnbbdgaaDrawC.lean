
/- What the laws of chapter 1 draw. -/
import Derived.Test.YthbmiibbnbbdgaaDrawB
namespace Go.Proofs.Ythbmiibbnbbdgaa
open Go.RowKit Go.Sort Go.BigFrame
set_option linter.unusedVariables false

def Near (r : Rt) : Prop := -1 ≤ r.l ∧ r.l ≤ 7 ∧ 0 ≤ r.o ∧ r.o ≤ 7 ∧ 0 ≤ r.r ∧ r.r ≤ 21 ∧ 0 ≤ r.h ∧ r.h ≤ 15
def TwoPost (B N : Nat) (w : World) (e : Ending) (w' : World) : Prop :=
  ∃ r s : Rt, e = .returned (.tuple #[rv r, rv s]) ∧ Near r ∧ Near s ∧ Sole B w w' ∧ Rd w' B (N + 14)
def OneDrawn (w : World) (e : Ending) (w' : World) : Prop :=
  ∃ r : Rt, e = .returned (rv r) ∧ Near r ∧ Below w.heap.size w w'
def TwoDrawn (w : World) (e : Ending) (w' : World) : Prop :=
  ∃ r s : Rt, e = .returned (.tuple #[rv r, rv s]) ∧ Near r ∧ Near s ∧ Below w.heap.size w w'
def MoveDrawn (w : World) (e : Ending) (w' : World) : Prop :=
  ∃ (r : Rt) (x y : Int), e = .returned (.tuple #[rv r, .int .i64 x, .int .i64 y]) ∧ Near r ∧ -5 ≤ x ∧ x ≤ 6 ∧ -5 ≤ y ∧ y ≤ 36 ∧ Below w.heap.size w w'

set_option maxHeartbeats 1000000 in
theorem two_any (B N : Nat) (w : World) (hr : Rd w B N) (hN : N ≤ 990000) :
    Calls Try.prog 33 #[.pointer (some ⟨B, 0, none⟩)] w (TwoPost B N w) := by
  have hB := hr.lt
  go_enter Try.func33, Try.ntmps33
  go_wp2_with fail
  refine (rect_any (B) (N) _ _ ((hr.alloc _).alloc _) (by omega) (by omega)).mono ?_; rintro e w1 hp; obtain ⟨r1, rfl, n1, o1, hs1, hr1⟩ := hp; have hz1 := hs1.size; (try simp at hz1); have _ : w.heap.size < w1.heap.size := (by first | (simp; done) | omega | (simp; omega)); have _ := fun o => hs1.cell (p := ⟨w.heap.size, o, none⟩) (by first | (simp; done) | omega | (simp; omega)) (by first | (simp; done) | omega | (simp; omega)); have _ : w.heap.size + 1 < w1.heap.size := (by first | (simp; done) | omega | (simp; omega)); have _ := fun o => hs1.cell (p := ⟨w.heap.size + 1, o, none⟩) (by first | (simp; done) | omega | (simp; omega)) (by first | (simp; done) | omega | (simp; omega)); have _ := fun o => hs1.frozen (p := ⟨w.heap.size, o, none⟩) (by first | (simp; done) | omega | (simp; omega)) (by first | (simp; done) | omega | (simp; omega)); have _ := fun o => hs1.frozen (p := ⟨w.heap.size + 1, o, none⟩) (by first | (simp; done) | omega | (simp; omega)) (by first | (simp; done) | omega | (simp; omega))
  go_wp2_with fail
  refine (rect_any (B) (N + 7) _ _ (hr1) (by omega) (by omega)).mono ?_; rintro e w2 hp; obtain ⟨r2, rfl, n2, o2, hs2, hr2⟩ := hp; have hz2 := hs2.size; (try simp at hz2); have _ : w.heap.size < w2.heap.size := (by first | (simp; done) | omega | (simp; omega)); have _ := fun o => hs2.cell (p := ⟨w.heap.size, o, none⟩) (by first | (simp; done) | omega | (simp; omega)) (by first | (simp; done) | omega | (simp; omega)); have _ : w.heap.size + 1 < w2.heap.size := (by first | (simp; done) | omega | (simp; omega)); have _ := fun o => hs2.cell (p := ⟨w.heap.size + 1, o, none⟩) (by first | (simp; done) | omega | (simp; omega)) (by first | (simp; done) | omega | (simp; omega)); have _ := fun o => hs2.frozen (p := ⟨w.heap.size, o, none⟩) (by first | (simp; done) | omega | (simp; omega)) (by first | (simp; done) | omega | (simp; omega)); have _ := fun o => hs2.frozen (p := ⟨w.heap.size + 1, o, none⟩) (by first | (simp; done) | omega | (simp; omega)) (by first | (simp; done) | omega | (simp; omega))
  go_wp2
  refine bodyPost_ret (v := .tuple #[rv r1, rv r2]) (by simp (maxDischargeDepth := 8) [results, Try.results33, go_sem, *]) rfl ?_
  exact ⟨r1, r2, rfl, n1, n2, by (repeat (first | with_reducible exact Sole.refl _ _ | with_reducible assumption | ((with_reducible refine Sole.setCell_new ?_ ?_ _); rotate_left; focus (first | with_reducible exact Nat.le_refl _ | omega | (simp; done) | (simp; omega))) | (with_reducible refine Sole.alloc ?_ _) | (with_reducible refine Sole.trans ?_ (by with_reducible assumption)) | (with_reducible refine Sole.trans ?_ (Sole.of_below (by with_reducible assumption))))), (hr2.below (X := B + 1) (by (repeat (first | with_reducible exact Below.refl _ _ | with_reducible assumption | ((with_reducible refine Below.alloc ?_ ?_ _); rotate_left; focus (first | with_reducible exact Nat.le_refl _ | omega | (simp; done) | (simp; omega))) | ((with_reducible refine Below.setCell ?_ ?_ _); rotate_left; focus (first | with_reducible exact Nat.le_refl _ | omega | (simp; done) | (simp; omega))) | (with_reducible refine Below.drew ?_) | ((with_reducible refine Below.trans ?_ (Below.mono (by with_reducible assumption) ?_)); rotate_left; focus (first | with_reducible exact Nat.le_refl _ | omega | (simp; done) | (simp; omega)))))) (by omega)).le (by omega)⟩

set_option maxHeartbeats 1000000 in
theorem dOverOf (a : Option Addr) (len cap : Nat) (w : World) (hc : Came w a len cap) :
    Calls Try.prog 27 #[.slice a len cap] w (OneDrawn w) := by
  go_enter Try.func27, Try.ntmps27
  go_wp2_with fail
  refine (open_any _ _ _ _ (hc.below ((Below.refl _ _).alloc (Nat.le_refl _) _))).mono ?_; rintro e w1 hp; obtain ⟨rfl, hb1, hr1⟩ := hp; have hz1 := hb1.size; (try simp at hz1); have hB := hr1.lt; simp only [World.size_alloc] at hr1 hB; have _ : w.heap.size < w1.heap.size := (by first | (simp; done) | omega | (simp; omega)); have _ := fun o => hb1.cell (p := ⟨w.heap.size, o, none⟩) (by first | (simp; done) | omega | (simp; omega)); have _ := fun o => hb1.frozen (p := ⟨w.heap.size, o, none⟩) (by first | (simp; done) | omega | (simp; omega))
  go_wp2_with fail
  refine (rect_any (w.heap.size + 1) (0) _ _ (hr1) (by omega) (by omega)).mono ?_; rintro e w2 hp; obtain ⟨r2, rfl, n2, o2, hs2, hr2⟩ := hp; have hz2 := hs2.size; (try simp at hz2); have _ : w.heap.size < w2.heap.size := (by first | (simp; done) | omega | (simp; omega)); have _ := fun o => hs2.cell (p := ⟨w.heap.size, o, none⟩) (by first | (simp; done) | omega | (simp; omega)) (by first | (simp; done) | omega | (simp; omega)); have _ := fun o => hs2.frozen (p := ⟨w.heap.size, o, none⟩) (by first | (simp; done) | omega | (simp; omega)) (by first | (simp; done) | omega | (simp; omega))
  go_wp2
  refine bodyPost_ret (v := rv r2) (by simp (maxDischargeDepth := 8) [results, Try.results27, go_sem, *]) rfl ?_
  exact ⟨r2, rfl, n2, by (repeat (first | with_reducible exact Below.refl _ _ | with_reducible assumption | ((with_reducible refine Below.alloc ?_ ?_ _); rotate_left; focus (first | with_reducible exact Nat.le_refl _ | omega | (simp; done) | (simp; omega))) | ((with_reducible refine Below.setCell ?_ ?_ _); rotate_left; focus (first | with_reducible exact Nat.le_refl _ | omega | (simp; done) | (simp; omega))) | (with_reducible refine Below.drew ?_) | ((with_reducible refine Sole.below ?_ (by with_reducible assumption) ?_); rotate_left; focus (first | with_reducible exact Nat.le_refl _ | omega | (simp; done) | (simp; omega))) | ((with_reducible refine Below.trans ?_ (Below.mono (by with_reducible assumption) ?_)); rotate_left; focus (first | with_reducible exact Nat.le_refl _ | omega | (simp; done) | (simp; omega)))))⟩

theorem Near.common {a b : Rt} (ha : Near a) (hb : Near b) : Near (commonR a b) := by
  unfold Near commonR at *; dsimp only; omega
end Go.Proofs.Ythbmiibbnbbdgaa
