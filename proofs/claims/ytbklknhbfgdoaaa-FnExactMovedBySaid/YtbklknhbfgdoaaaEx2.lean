/- The exact laws of chapter 1: further walks. -/
import Derived.Test.YtbklknhbfgdoaaaRectC
namespace Go.Proofs.Ytbklknhbfgdoaaa
open Go.RowKit Go.Sort Go.BigFrame
set_option linter.unusedVariables false

set_option maxHeartbeats 1000000 in
theorem walkExactWithinOk (a b : Rt) (w : World) :
    Calls Try.prog 14 #[rv a, rv b] w fun e w' => e = .returned (.bool true) ∧ Below w.heap.size w w' := by
  go_enter Try.func14, Try.ntmps14
  go_wp2_with fail
  generalize hW : ((w.alloc (.cells #[.int .i64 a.l, .int .i64 a.o, .int .i64 a.r, .int .i64 a.h] 40)).alloc (.cells #[.int .i64 b.l, .int .i64 b.o, .int .i64 b.r, .int .i64 b.h] 40)) = w0
  have hb0 : Below w.heap.size w w0 := by rw [← hW]; (repeat (first | with_reducible exact Below.refl _ _ | with_reducible assumption | ((with_reducible refine Below.alloc ?_ ?_ _); rotate_left; focus (first | with_reducible exact Nat.le_refl _ | omega | (simp; done) | (simp; omega))) | ((with_reducible refine Below.setCell ?_ ?_ _); rotate_left; focus (first | with_reducible exact Nat.le_refl _ | omega | (simp; done) | (simp; omega))) | (with_reducible refine Below.drew ?_) | ((with_reducible refine Below.trans ?_ (Below.mono (by with_reducible assumption) ?_)); rotate_left; focus (first | with_reducible exact Nat.le_refl _ | omega | (simp; done) | (simp; omega)))))
  have hz0 : w.heap.size + 1 + 1 ≤ w0.heap.size := by rw [← hW]; simp
  have hA1 : ∀ o, w0.cell? ⟨w.heap.size, o, none⟩ = ((w.alloc (.cells #[.int .i64 a.l, .int .i64 a.o, .int .i64 a.r, .int .i64 a.h] 40)).alloc (.cells #[.int .i64 b.l, .int .i64 b.o, .int .i64 b.r, .int .i64 b.h] 40)).cell? ⟨w.heap.size, o, none⟩ := fun o => by rw [hW]
  have hA2 : ∀ o, w0.cell? ⟨w.heap.size + 1, o, none⟩ = ((w.alloc (.cells #[.int .i64 a.l, .int .i64 a.o, .int .i64 a.r, .int .i64 a.h] 40)).alloc (.cells #[.int .i64 b.l, .int .i64 b.o, .int .i64 b.r, .int .i64 b.h] 40)).cell? ⟨w.heap.size + 1, o, none⟩ := fun o => by rw [hW]
  clear hW
  (skip); have hq : True := trivial; have hq := fun d os o => (below_regrown w0 d os).cell (p := ⟨w.heap.size, o, none⟩) (by first | (simp; done) | omega | (simp; omega)); have hq := fun d os o => (below_regrown w0 d os).cell (p := ⟨w.heap.size + 1, o, none⟩) (by first | (simp; done) | omega | (simp; omega)); refine wp_region_quiet_below (by kernel_rfl) (by kernel_rfl) ?_; (repeat (quiet_step (first | exact Calls.regrown_of (torect_any _ _) | exact Calls.regrown_of (swi_any _ _ _)))); refine wpQuiet_nil ?_; intro _ hw'; obtain ⟨⟨dq, osq⟩, hw''⟩ := hw'; subst hw''; clear hq; have hb1 := below_regrown w0 dq osq; generalize Sort.grow (redrawn w0 dq) osq = w1 at hb1 ⊢; have hz1 := hb1.size; (try simp at hz1); have _ : w.heap.size < w1.heap.size := (by first | (simp; done) | omega | (simp; omega)); have _ : w.heap.size + 1 < w1.heap.size := (by first | (simp; done) | omega | (simp; omega)); have _ := fun o => hb1.cell (p := ⟨w.heap.size, o, none⟩) (by first | (simp; done) | omega | (simp; omega)); have _ := fun o => hb1.cell (p := ⟨w.heap.size + 1, o, none⟩) (by first | (simp; done) | omega | (simp; omega))
  go_wp2_with fail
  (skip); have hq : True := trivial; have hq := fun d os o => (below_regrown w1 d os).cell (p := ⟨w.heap.size, o, none⟩) (by first | (simp; done) | omega | (simp; omega)); have hq := fun d os o => (below_regrown w1 d os).cell (p := ⟨w.heap.size + 1, o, none⟩) (by first | (simp; done) | omega | (simp; omega)); refine wp_region_quiet_below (by kernel_rfl) (by kernel_rfl) ?_; (repeat (quiet_step (first | exact Calls.regrown_of (torect_any _ _) | exact Calls.regrown_of (iwi_any _ _ _)))); refine wpQuiet_nil ?_; intro _ hw'; obtain ⟨⟨dq, osq⟩, hw''⟩ := hw'; subst hw''; clear hq; have hb2 := below_regrown w1 dq osq; generalize Sort.grow (redrawn w1 dq) osq = w2 at hb2 ⊢; have hz2 := hb2.size; (try simp at hz2); have _ : w.heap.size < w2.heap.size := (by first | (simp; done) | omega | (simp; omega)); have _ : w.heap.size + 1 < w2.heap.size := (by first | (simp; done) | omega | (simp; omega)); have _ := fun o => hb2.cell (p := ⟨w.heap.size, o, none⟩) (by first | (simp; done) | omega | (simp; omega)); have _ := fun o => hb2.cell (p := ⟨w.heap.size + 1, o, none⟩) (by first | (simp; done) | omega | (simp; omega))
  go_wp2
  go_ret
  exact ⟨rfl, by (repeat (first | with_reducible exact Below.refl _ _ | with_reducible assumption | ((with_reducible refine Below.alloc ?_ ?_ _); rotate_left; focus (first | with_reducible exact Nat.le_refl _ | omega | (simp; done) | (simp; omega))) | ((with_reducible refine Below.setCell ?_ ?_ _); rotate_left; focus (first | with_reducible exact Nat.le_refl _ | omega | (simp; done) | (simp; omega))) | (with_reducible refine Below.drew ?_) | ((with_reducible refine Below.trans ?_ (Below.mono (by with_reducible assumption) ?_)); rotate_left; focus (first | with_reducible exact Nat.le_refl _ | omega | (simp; done) | (simp; omega)))))⟩

set_option maxHeartbeats 1000000 in
theorem walkExactMovedBy (a : Rt) (x y : Int) (w : World) :
    Calls Try.prog 15 #[rv a, .int .i64 x, .int .i64 y] w fun e w' => e = .returned (.bool true) ∧ Below w.heap.size w w' := by
  go_enter Try.func15, Try.ntmps15
  go_wp2_with fail
  refine (torect_any _ _).mono ?_; rintro e w1 ⟨rfl, hb1⟩; have hz1 := hb1.size; (try simp at hz1); have _ : w.heap.size < w1.heap.size := (by first | (simp; done) | omega | (simp; omega)); have _ := fun o => hb1.cell (p := ⟨w.heap.size, o, none⟩) (by first | (simp; done) | omega | (simp; omega))
  go_wp2_with fail
  refine (smv_any _ _ _ _).mono ?_; rintro e w2 ⟨rfl, hb2⟩; have hz2 := hb2.size; (try simp at hz2); have _ : w.heap.size < w2.heap.size := (by first | (simp; done) | omega | (simp; omega)); have _ := fun o => hb2.cell (p := ⟨w.heap.size, o, none⟩) (by first | (simp; done) | omega | (simp; omega))
  go_wp2_with fail
  refine (torect_any _ _).mono ?_; rintro e w3 ⟨rfl, hb3⟩; have hz3 := hb3.size; (try simp at hz3); have _ : w.heap.size < w3.heap.size := (by first | (simp; done) | omega | (simp; omega)); have _ : w2.heap.size < w3.heap.size := (by first | (simp; done) | omega | (simp; omega)); have _ := fun o => hb3.cell (p := ⟨w.heap.size, o, none⟩) (by first | (simp; done) | omega | (simp; omega)); have _ := fun o => hb3.cell (p := ⟨w2.heap.size, o, none⟩) (by first | (simp; done) | omega | (simp; omega))
  go_wp2_with fail
  refine (imv_any _ _ _ _).mono ?_; rintro e w4 ⟨rfl, hb4⟩; have hz4 := hb4.size; (try simp at hz4); have _ : w.heap.size < w4.heap.size := (by first | (simp; done) | omega | (simp; omega)); have _ : w2.heap.size < w4.heap.size := (by first | (simp; done) | omega | (simp; omega)); have _ := fun o => hb4.cell (p := ⟨w.heap.size, o, none⟩) (by first | (simp; done) | omega | (simp; omega)); have _ := fun o => hb4.cell (p := ⟨w2.heap.size, o, none⟩) (by first | (simp; done) | omega | (simp; omega))
  go_wp2_with fail
  refine (eqrect_same (mvR a x y) _).mono ?_; rintro e w5 ⟨rfl, hb5⟩; have hz5 := hb5.size; (try simp at hz5)
  go_wp2
  go_ret
  exact ⟨rfl, by (repeat (first | with_reducible exact Below.refl _ _ | with_reducible assumption | ((with_reducible refine Below.alloc ?_ ?_ _); rotate_left; focus (first | with_reducible exact Nat.le_refl _ | omega | (simp; done) | (simp; omega))) | ((with_reducible refine Below.setCell ?_ ?_ _); rotate_left; focus (first | with_reducible exact Nat.le_refl _ | omega | (simp; done) | (simp; omega))) | (with_reducible refine Below.drew ?_) | ((with_reducible refine Below.trans ?_ (Below.mono (by with_reducible assumption) ?_)); rotate_left; focus (first | with_reducible exact Nat.le_refl _ | omega | (simp; done) | (simp; omega)))))⟩

set_option maxHeartbeats 1000000 in
theorem walkExactOverOf (a : Rt) (w : World) :
    Calls Try.prog 16 #[rv a] w fun e w' => e = .returned (.bool true) ∧ Below w.heap.size w w' := by
  go_enter Try.func16, Try.ntmps16
  go_wp2_with fail
  refine (torect_any _ _).mono ?_; rintro e w1 ⟨rfl, hb1⟩; have hz1 := hb1.size; (try simp at hz1); have _ : w.heap.size < w1.heap.size := (by first | (simp; done) | omega | (simp; omega)); have _ := fun o => hb1.cell (p := ⟨w.heap.size, o, none⟩) (by first | (simp; done) | omega | (simp; omega))
  go_wp2_with fail
  refine (sov_any _ _).mono ?_; rintro e w2 ⟨rfl, hb2⟩; have hz2 := hb2.size; (try simp at hz2); have _ : w.heap.size < w2.heap.size := (by first | (simp; done) | omega | (simp; omega)); have _ := fun o => hb2.cell (p := ⟨w.heap.size, o, none⟩) (by first | (simp; done) | omega | (simp; omega))
  go_wp2_with fail
  refine (torect_any _ _).mono ?_; rintro e w3 ⟨rfl, hb3⟩; have hz3 := hb3.size; (try simp at hz3); have _ : w.heap.size < w3.heap.size := (by first | (simp; done) | omega | (simp; omega)); have _ : w2.heap.size < w3.heap.size := (by first | (simp; done) | omega | (simp; omega)); have _ := fun o => hb3.cell (p := ⟨w.heap.size, o, none⟩) (by first | (simp; done) | omega | (simp; omega)); have _ := fun o => hb3.cell (p := ⟨w2.heap.size, o, none⟩) (by first | (simp; done) | omega | (simp; omega))
  go_wp2_with fail
  refine (iov_any _ _).mono ?_; rintro e w4 ⟨rfl, hb4⟩; have hz4 := hb4.size; (try simp at hz4); have _ : w.heap.size < w4.heap.size := (by first | (simp; done) | omega | (simp; omega)); have _ : w2.heap.size < w4.heap.size := (by first | (simp; done) | omega | (simp; omega)); have _ := fun o => hb4.cell (p := ⟨w.heap.size, o, none⟩) (by first | (simp; done) | omega | (simp; omega)); have _ := fun o => hb4.cell (p := ⟨w2.heap.size, o, none⟩) (by first | (simp; done) | omega | (simp; omega))
  go_wp2_with fail
  refine (eqrect_same (ovR a) _).mono ?_; rintro e w5 ⟨rfl, hb5⟩; have hz5 := hb5.size; (try simp at hz5)
  go_wp2
  go_ret
  exact ⟨rfl, by (repeat (first | with_reducible exact Below.refl _ _ | with_reducible assumption | ((with_reducible refine Below.alloc ?_ ?_ _); rotate_left; focus (first | with_reducible exact Nat.le_refl _ | omega | (simp; done) | (simp; omega))) | ((with_reducible refine Below.setCell ?_ ?_ _); rotate_left; focus (first | with_reducible exact Nat.le_refl _ | omega | (simp; done) | (simp; omega))) | (with_reducible refine Below.drew ?_) | ((with_reducible refine Below.trans ?_ (Below.mono (by with_reducible assumption) ?_)); rotate_left; focus (first | with_reducible exact Nat.le_refl _ | omega | (simp; done) | (simp; omega)))))⟩
end Go.Proofs.Ytbklknhbfgdoaaa
