/- Chapter 1: what the functions of impl and of spec on one or two rectangles return, and that they write nothing that was there. Chapter 1: contracts, second part. Chapter 1: contracts, third part: moving; what the laws call besides. -/
import Derived.Test.YtfdkkkdijgmbbaaRows
import Derived.Test.YtfdkkkdijgmbbaaMath
import Derived.WalkKit
import Derived.Below
import Derived.Outline
import Derived.Lib.Hide
import Derived.Lib.MinMax
import Derived.Deep.QuietTactic
import Derived.BigQuiet
import Derived.Lib.QuietBelow
namespace Go.Proofs.Ytfdkkkdijgmbbaa
open Go.RowKit Go.Sort
set_option linter.unusedVariables false

abbrev rv (a : Rt) : Value := .agg #[.int .i64 a.l, .int .i64 a.o, .int .i64 a.r, .int .i64 a.h]

theorem spanB_yes {a b : Int} (h0 : 0 ≤ a) (h1 : a < b) (h2 : b ≤ 20) : spanB a b = true := by
  unfold spanB; simp; omega
theorem spanB_no {a b : Int} (h : ¬ (0 ≤ a ∧ a < b ∧ b ≤ 20)) : spanB a b = false := by
  unfold spanB; simpa using h
theorem spanB_iff {a b : Int} : spanB a b = true ↔ 0 ≤ a ∧ a < b ∧ b ≤ 20 := by
  unfold spanB; simp
theorem okB_no {a : Rt} : okB a = false ↔ ¬ ((0 ≤ a.l ∧ a.l < a.r ∧ a.r ≤ 20) ∧ 0 ≤ a.o ∧ a.o < a.h ∧ a.h ≤ 20) := by
  rw [← okB_iff]; cases okB a <;> simp

theorem bcell {W w1 : World} (hb : Below W.heap.size W w1) : (∀ b o, b < W.heap.size → w1.cell? ⟨b, o, none⟩ = W.cell? ⟨b, o, none⟩) ∧ (∀ b o, b < W.heap.size → w1.frozen? ⟨b, o, none⟩ = W.frozen? ⟨b, o, none⟩) ∧ W.heap.size ≤ w1.heap.size :=
  ⟨fun b o h => hb.cell (p := ⟨b, o, none⟩) h, fun b o h => hb.frozen (p := ⟨b, o, none⟩) h, hb.size⟩
theorem regrown_cells (w : World) (d : Nat) (os : Array Obj) (b o : Nat) (h : b < w.heap.size) : (Sort.grow (redrawn w d) os).cell? ⟨b, o, none⟩ = w.cell? ⟨b, o, none⟩ :=
  (below_regrown w d os).cell (p := ⟨b, o, none⟩) h
theorem ret_int {k : IntKind} {a b : Int} (h : a = b) : Ending.returned (.int k a) = .returned (.int k b) := by rw [h]
theorem ret_bool {a b : Bool} (h : a = b) : Ending.returned (.bool a) = .returned (.bool b) := by rw [h]

set_option maxHeartbeats 400000 in
set_option maxRecDepth 20000 in
theorem span_any (a b : Int) (w : World) :
    Calls Try.prog 55 #[.int .i64 a, .int .i64 b] w fun e w' => e = .returned (.bool (spanB a b)) ∧ w = w' := by
  by_cases h0 : 0 ≤ a
  · by_cases h1 : a < b
    · by_cases h2 : b ≤ 20
      · (have H := Lib.hid (spanB_yes h0 h1 h2); go_enter Try.func55, Try.ntmps55; go_wp2; go_ret; exact ⟨ret_bool (by rw [H.out]), rfl⟩)
      · (have H := Lib.hid (spanB_no (a := a) (b := b) (by omega)); go_enter Try.func55, Try.ntmps55; go_wp2; go_ret; exact ⟨ret_bool (by rw [H.out]), rfl⟩)
    · (have H := Lib.hid (spanB_no (a := a) (b := b) (by omega)); go_enter Try.func55, Try.ntmps55; go_wp2; go_ret; exact ⟨ret_bool (by rw [H.out]), rfl⟩)
  · (have H := Lib.hid (spanB_no (a := a) (b := b) (by omega)); go_enter Try.func55, Try.ntmps55; go_wp2; go_ret; exact ⟨ret_bool (by rw [H.out]), rfl⟩)

set_option maxHeartbeats 400000 in
set_option maxRecDepth 20000 in
theorem iok_any (a : Rt) (w : World) :
    Calls Try.prog 37 #[rv a] w fun e w' => e = .returned (.bool (okB a)) ∧ Below w.heap.size w w' := by
  by_cases h0 : spanB a.l a.r = true
  · have H : Hid (okB a = spanB a.o a.h) := Lib.hid (by unfold okB; rw [h0]; rfl)
    go_enter Try.func37, Try.ntmps37
    go_wp2_with fail
    refine (span_any _ _ _).mono ?_; rintro e w' ⟨rfl, rfl⟩
    go_wp2_with fail
    refine (span_any _ _ _).mono ?_; rintro e w' ⟨rfl, rfl⟩
    go_wp2
    go_ret
    exact ⟨ret_bool (by rw [H.out]), by (repeat (first | with_reducible exact Below.refl _ _ | with_reducible assumption | ((with_reducible refine Below.alloc ?_ ?_ _); rotate_left; focus (first | with_reducible exact Nat.le_refl _ | omega | (simp; done) | (simp; omega))) | ((with_reducible refine Below.setCell ?_ ?_ _); rotate_left; focus (first | with_reducible exact Nat.le_refl _ | omega | (simp; done) | (simp; omega))) | (with_reducible refine Below.drew ?_) | ((with_reducible refine Below.trans ?_ (Below.mono (by with_reducible assumption) ?_)); rotate_left; focus (first | with_reducible exact Nat.le_refl _ | omega | (simp; done) | (simp; omega)))))⟩
  · have h0 : spanB a.l a.r = false := by simpa using h0
    have H : Hid (okB a = false) := Lib.hid (by unfold okB; rw [h0]; rfl)
    go_enter Try.func37, Try.ntmps37
    go_wp2_with fail
    refine (span_any _ _ _).mono ?_; rintro e w' ⟨rfl, rfl⟩
    go_wp2
    go_ret
    exact ⟨ret_bool (by rw [H.out]), by (repeat (first | with_reducible exact Below.refl _ _ | with_reducible assumption | ((with_reducible refine Below.alloc ?_ ?_ _); rotate_left; focus (first | with_reducible exact Nat.le_refl _ | omega | (simp; done) | (simp; omega))) | ((with_reducible refine Below.setCell ?_ ?_ _); rotate_left; focus (first | with_reducible exact Nat.le_refl _ | omega | (simp; done) | (simp; omega))) | (with_reducible refine Below.drew ?_) | ((with_reducible refine Below.trans ?_ (Below.mono (by with_reducible assumption) ?_)); rotate_left; focus (first | with_reducible exact Nat.le_refl _ | omega | (simp; done) | (simp; omega)))))⟩

set_option maxHeartbeats 1600000 in
set_option maxRecDepth 20000 in
theorem sok_any (a : Rt) (w : World) :
    Calls Try.prog 49 #[rv a] w fun e w' => e = .returned (.bool (okB a)) ∧ Below w.heap.size w w' := by
  by_cases c0 : 0 ≤ a.l
  · by_cases c1 : a.l < a.r
    · by_cases c2 : a.r ≤ 20
      · by_cases c3 : 0 ≤ a.o
        · by_cases c4 : a.o < a.h
          · by_cases c5 : a.h ≤ 20
            · have H : Hid (okB a = true) := Lib.hid (okB_iff.2 (by omega))
              go_enter Try.func49, Try.ntmps49
              go_wp2
              go_ret
              exact ⟨ret_bool (by rw [H.out]), by (repeat (first | with_reducible exact Below.refl _ _ | with_reducible assumption | ((with_reducible refine Below.alloc ?_ ?_ _); rotate_left; focus (first | with_reducible exact Nat.le_refl _ | omega | (simp; done) | (simp; omega))) | ((with_reducible refine Below.setCell ?_ ?_ _); rotate_left; focus (first | with_reducible exact Nat.le_refl _ | omega | (simp; done) | (simp; omega))) | (with_reducible refine Below.drew ?_) | ((with_reducible refine Below.trans ?_ (Below.mono (by with_reducible assumption) ?_)); rotate_left; focus (first | with_reducible exact Nat.le_refl _ | omega | (simp; done) | (simp; omega)))))⟩
            · have H : Hid (okB a = false) := Lib.hid (okB_no.2 (by omega))
              go_enter Try.func49, Try.ntmps49
              go_wp2
              go_ret
              exact ⟨ret_bool (by rw [H.out]), by (repeat (first | with_reducible exact Below.refl _ _ | with_reducible assumption | ((with_reducible refine Below.alloc ?_ ?_ _); rotate_left; focus (first | with_reducible exact Nat.le_refl _ | omega | (simp; done) | (simp; omega))) | ((with_reducible refine Below.setCell ?_ ?_ _); rotate_left; focus (first | with_reducible exact Nat.le_refl _ | omega | (simp; done) | (simp; omega))) | (with_reducible refine Below.drew ?_) | ((with_reducible refine Below.trans ?_ (Below.mono (by with_reducible assumption) ?_)); rotate_left; focus (first | with_reducible exact Nat.le_refl _ | omega | (simp; done) | (simp; omega)))))⟩
          · have H : Hid (okB a = false) := Lib.hid (okB_no.2 (by omega))
            go_enter Try.func49, Try.ntmps49
            go_wp2
            go_ret
            exact ⟨ret_bool (by rw [H.out]), by (repeat (first | with_reducible exact Below.refl _ _ | with_reducible assumption | ((with_reducible refine Below.alloc ?_ ?_ _); rotate_left; focus (first | with_reducible exact Nat.le_refl _ | omega | (simp; done) | (simp; omega))) | ((with_reducible refine Below.setCell ?_ ?_ _); rotate_left; focus (first | with_reducible exact Nat.le_refl _ | omega | (simp; done) | (simp; omega))) | (with_reducible refine Below.drew ?_) | ((with_reducible refine Below.trans ?_ (Below.mono (by with_reducible assumption) ?_)); rotate_left; focus (first | with_reducible exact Nat.le_refl _ | omega | (simp; done) | (simp; omega)))))⟩
        · have H : Hid (okB a = false) := Lib.hid (okB_no.2 (by omega))
          go_enter Try.func49, Try.ntmps49
          go_wp2
          go_ret
          exact ⟨ret_bool (by rw [H.out]), by (repeat (first | with_reducible exact Below.refl _ _ | with_reducible assumption | ((with_reducible refine Below.alloc ?_ ?_ _); rotate_left; focus (first | with_reducible exact Nat.le_refl _ | omega | (simp; done) | (simp; omega))) | ((with_reducible refine Below.setCell ?_ ?_ _); rotate_left; focus (first | with_reducible exact Nat.le_refl _ | omega | (simp; done) | (simp; omega))) | (with_reducible refine Below.drew ?_) | ((with_reducible refine Below.trans ?_ (Below.mono (by with_reducible assumption) ?_)); rotate_left; focus (first | with_reducible exact Nat.le_refl _ | omega | (simp; done) | (simp; omega)))))⟩
      · have H : Hid (okB a = false) := Lib.hid (okB_no.2 (by omega))
        go_enter Try.func49, Try.ntmps49
        go_wp2
        go_ret
        exact ⟨ret_bool (by rw [H.out]), by (repeat (first | with_reducible exact Below.refl _ _ | with_reducible assumption | ((with_reducible refine Below.alloc ?_ ?_ _); rotate_left; focus (first | with_reducible exact Nat.le_refl _ | omega | (simp; done) | (simp; omega))) | ((with_reducible refine Below.setCell ?_ ?_ _); rotate_left; focus (first | with_reducible exact Nat.le_refl _ | omega | (simp; done) | (simp; omega))) | (with_reducible refine Below.drew ?_) | ((with_reducible refine Below.trans ?_ (Below.mono (by with_reducible assumption) ?_)); rotate_left; focus (first | with_reducible exact Nat.le_refl _ | omega | (simp; done) | (simp; omega)))))⟩
    · have H : Hid (okB a = false) := Lib.hid (okB_no.2 (by omega))
      go_enter Try.func49, Try.ntmps49
      go_wp2
      go_ret
      exact ⟨ret_bool (by rw [H.out]), by (repeat (first | with_reducible exact Below.refl _ _ | with_reducible assumption | ((with_reducible refine Below.alloc ?_ ?_ _); rotate_left; focus (first | with_reducible exact Nat.le_refl _ | omega | (simp; done) | (simp; omega))) | ((with_reducible refine Below.setCell ?_ ?_ _); rotate_left; focus (first | with_reducible exact Nat.le_refl _ | omega | (simp; done) | (simp; omega))) | (with_reducible refine Below.drew ?_) | ((with_reducible refine Below.trans ?_ (Below.mono (by with_reducible assumption) ?_)); rotate_left; focus (first | with_reducible exact Nat.le_refl _ | omega | (simp; done) | (simp; omega)))))⟩
  · have H : Hid (okB a = false) := Lib.hid (okB_no.2 (by omega))
    go_enter Try.func49, Try.ntmps49
    go_wp2
    go_ret
    exact ⟨ret_bool (by rw [H.out]), by (repeat (first | with_reducible exact Below.refl _ _ | with_reducible assumption | ((with_reducible refine Below.alloc ?_ ?_ _); rotate_left; focus (first | with_reducible exact Nat.le_refl _ | omega | (simp; done) | (simp; omega))) | ((with_reducible refine Below.setCell ?_ ?_ _); rotate_left; focus (first | with_reducible exact Nat.le_refl _ | omega | (simp; done) | (simp; omega))) | (with_reducible refine Below.drew ?_) | ((with_reducible refine Below.trans ?_ (Below.mono (by with_reducible assumption) ?_)); rotate_left; focus (first | with_reducible exact Nat.le_refl _ | omega | (simp; done) | (simp; omega)))))⟩

theorem span_prod {a b : Int} (ha : 0 ≤ a) (ha2 : a ≤ 20) (hb : 0 ≤ b) (hb2 : b ≤ 20) : 0 ≤ a * b ∧ a * b ≤ 400 :=
  ⟨Int.mul_nonneg ha hb, by have := Int.mul_le_mul ha2 hb2 hb (by omega : (0:Int) ≤ 20); omega⟩

def aroundR (a b : Rt) : Rt := ⟨min a.l b.l, min a.o b.o, max a.r b.r, max a.h b.h⟩
def overR (a : Rt) : Rt := ⟨a.o, a.l, a.h, a.r⟩
def movedR (a : Rt) (x y : Int) : Rt := ⟨a.l + x, a.o + y, a.r + x, a.h + y⟩
def cmB (a b : Rt) : Bool := bothB a b && okB (commonR a b)
def cmR (a b : Rt) : Rt := if cmB a b then commonR a b else Rt.zero
def arB (a b : Rt) : Bool := bothB a b
def arR (a b : Rt) : Rt := if bothB a b then aroundR a b else Rt.zero
def stepB (x : Int) : Bool := decide (-20 ≤ x ∧ x ≤ 20)
def stepsB (a : Rt) (x y : Int) : Bool := okB a && (stepB x && stepB y)
def mvB (a : Rt) (x y : Int) : Bool := stepsB a x y && okB (movedR a x y)
def mvR (a : Rt) (x y : Int) : Rt := if mvB a x y then movedR a x y else Rt.zero
def ovR (a : Rt) : Rt := if okB a then overR a else Rt.zero
theorem rv_congr {a b : Rt} (h : a = b) : rv a = rv b := by rw [h]
theorem ret_rv {a b : Rt} (h : b = a) : Ending.returned (rv a) = Ending.returned (rv b) := by rw [h]
theorem ret_rb {a b : Rt} {p q : Bool} (h : b = a) (k : q = p) : Ending.returned (.tuple #[rv a, .bool p]) = Ending.returned (.tuple #[rv b, .bool q]) := by rw [h, k]

end Go.Proofs.Ytfdkkkdijgmbbaa
namespace Go.Proofs.Ytfdkkkdijgmbbaa
open Go.RowKit Go.Sort
set_option linter.unusedVariables false

theorem insideB_iff {a b : Rt} : insideB a b = true ↔ b.l ≤ a.l ∧ b.o ≤ a.o ∧ a.r ≤ b.r ∧ a.h ≤ b.h := by unfold insideB; simp
theorem insideB_no {a b : Rt} (h : ¬ (b.l ≤ a.l ∧ b.o ≤ a.o ∧ a.r ≤ b.r ∧ a.h ≤ b.h)) : insideB a b = false := by unfold insideB; simpa using h
set_option maxHeartbeats 400000 in
set_option maxRecDepth 20000 in
theorem over_any (a : Rt) (w : World) :
    Calls Try.prog 38 #[rv a] w fun e w' => e = .returned (rv (overR a)) ∧ Below w.heap.size w w' := by
  go_enter Try.func38, Try.ntmps38
  go_wp2
  refine bodyPost_ret (v := rv (overR a)) (by simp [overR, results, Try.results38, go_sem, *]) rfl ⟨?_, ?_⟩
  · rfl
  · (repeat (first | exact Below.refl _ _ | assumption | refine Below.alloc ?_ (by (first | exact Nat.le_refl _ | (simp; done) | omega | (simp; omega))) _ | refine Below.setCell ?_ (by (first | exact Nat.le_refl _ | (simp; done) | omega | (simp; omega))) _ | refine Below.drew ?_ | refine Below.trans ?_ (Below.mono (by assumption) (by (first | exact Nat.le_refl _ | (simp; done) | omega | (simp; omega))))))

set_option maxHeartbeats 400000 in
set_option maxRecDepth 20000 in
theorem iov_any (a : Rt) (w : World) :
    Calls Try.prog 15 #[rv a] w fun e w' => e = .returned (rv (ovR a)) ∧ Below w.heap.size w w' := by
  cases h0 : okB a
  · have H : Hid (ovR a = Rt.zero) := Lib.hid (by unfold ovR; rw [h0]; rfl)
    go_enter Try.func15, Try.ntmps15
    go_wp2_with fail
    refine (iok_any _ _).mono ?_; rintro e w1 ⟨rfl, hb1⟩; have hz1 := hb1.size; (try simp at hz1); have _ : w.heap.size < w1.heap.size := (by first | (simp; done) | omega | (simp; omega)); have _ : w.heap.size + 1 < w1.heap.size := (by first | (simp; done) | omega | (simp; omega)); have _ := fun o => hb1.cell (p := ⟨w.heap.size, o, none⟩) (by first | (simp; done) | omega | (simp; omega)); have _ := fun o => hb1.cell (p := ⟨w.heap.size + 1, o, none⟩) (by first | (simp; done) | omega | (simp; omega)); have _ := fun o => hb1.frozen (p := ⟨w.heap.size + 1, o, none⟩) (by first | (simp; done) | omega | (simp; omega))
    go_wp2
    refine bodyPost_ret (v := rv Rt.zero) (by simp [Rt.zero, results, Try.results15, go_sem, *]) rfl ⟨?_, ?_⟩
    · rw [H.out]
    · (repeat (first | exact Below.refl _ _ | assumption | refine Below.alloc ?_ (by (first | exact Nat.le_refl _ | (simp; done) | omega | (simp; omega))) _ | refine Below.setCell ?_ (by (first | exact Nat.le_refl _ | (simp; done) | omega | (simp; omega))) _ | refine Below.drew ?_ | refine Below.trans ?_ (Below.mono (by assumption) (by (first | exact Nat.le_refl _ | (simp; done) | omega | (simp; omega))))))
  · have H : Hid (ovR a = overR a) := Lib.hid (by unfold ovR; rw [h0]; rfl)
    go_enter Try.func15, Try.ntmps15
    go_wp2_with fail
    refine (iok_any _ _).mono ?_; rintro e w1 ⟨rfl, hb1⟩; have hz1 := hb1.size; (try simp at hz1); have _ : w.heap.size < w1.heap.size := (by first | (simp; done) | omega | (simp; omega)); have _ : w.heap.size + 1 < w1.heap.size := (by first | (simp; done) | omega | (simp; omega)); have _ := fun o => hb1.cell (p := ⟨w.heap.size, o, none⟩) (by first | (simp; done) | omega | (simp; omega)); have _ := fun o => hb1.cell (p := ⟨w.heap.size + 1, o, none⟩) (by first | (simp; done) | omega | (simp; omega)); have _ := fun o => hb1.frozen (p := ⟨w.heap.size + 1, o, none⟩) (by first | (simp; done) | omega | (simp; omega))
    go_wp2_with fail
    refine (over_any _ _).mono ?_; rintro e w2 ⟨rfl, hb2⟩; have hz2 := hb2.size; (try simp at hz2); have _ : w.heap.size < w2.heap.size := (by first | (simp; done) | omega | (simp; omega)); have _ : w.heap.size + 1 < w2.heap.size := (by first | (simp; done) | omega | (simp; omega)); have _ := fun o => hb2.cell (p := ⟨w.heap.size, o, none⟩) (by first | (simp; done) | omega | (simp; omega)); have _ := fun o => hb2.cell (p := ⟨w.heap.size + 1, o, none⟩) (by first | (simp; done) | omega | (simp; omega)); have _ := fun o => hb2.frozen (p := ⟨w.heap.size + 1, o, none⟩) (by first | (simp; done) | omega | (simp; omega))
    go_wp2
    refine bodyPost_ret (v := rv (overR a)) (by simp [overR, results, Try.results15, go_sem, *]) rfl ⟨?_, ?_⟩
    · rw [H.out]
    · (repeat (first | exact Below.refl _ _ | assumption | refine Below.alloc ?_ (by (first | exact Nat.le_refl _ | (simp; done) | omega | (simp; omega))) _ | refine Below.setCell ?_ (by (first | exact Nat.le_refl _ | (simp; done) | omega | (simp; omega))) _ | refine Below.drew ?_ | refine Below.trans ?_ (Below.mono (by assumption) (by (first | exact Nat.le_refl _ | (simp; done) | omega | (simp; omega))))))

end Go.Proofs.Ytfdkkkdijgmbbaa
namespace Go.Proofs.Ytfdkkkdijgmbbaa
open Go.RowKit Go.Sort
set_option linter.unusedVariables false
theorem stepB_iff {x : Int} : stepB x = true ↔ -20 ≤ x ∧ x ≤ 20 := by unfold stepB; simp
theorem stepB_no {x : Int} (h : ¬ (-20 ≤ x ∧ x ≤ 20)) : stepB x = false := by unfold stepB; simpa using h

def inB (n lo hi : Int) : Bool := decide (lo ≤ n ∧ n ≤ hi)
theorem inB_iff {n lo hi : Int} : inB n lo hi = true ↔ lo ≤ n ∧ n ≤ hi := by unfold inB; simp
theorem inB_no {n lo hi : Int} (h : ¬ (lo ≤ n ∧ n ≤ hi)) : inB n lo hi = false := by unfold inB; simpa using h
theorem inB_step (x : Int) : inB x (-20) 20 = stepB x := rfl

set_option maxHeartbeats 400000 in
set_option maxRecDepth 20000 in
theorem in_any (n lo hi : Int) (w : World) :
    Calls Try.prog 47 #[.int .i64 n, .int .i64 lo, .int .i64 hi] w fun e w' => e = .returned (.bool (inB n lo hi)) ∧ w = w' := by
  by_cases h1 : lo ≤ n
  · by_cases h2 : n ≤ hi
    · have H : Hid (inB n lo hi = true) := Lib.hid (inB_iff.2 ⟨h1, h2⟩)
      go_enter Try.func47, Try.ntmps47
      go_wp2
      go_ret
      exact ⟨ret_bool (by rw [H.out]), rfl⟩
    · have H : Hid (inB n lo hi = false) := Lib.hid (inB_no (by omega))
      go_enter Try.func47, Try.ntmps47
      go_wp2
      go_ret
      exact ⟨ret_bool (by rw [H.out]), rfl⟩
  · have H : Hid (inB n lo hi = false) := Lib.hid (inB_no (by omega))
    go_enter Try.func47, Try.ntmps47
    go_wp2
    go_ret
    exact ⟨ret_bool (by rw [H.out]), rfl⟩

set_option maxHeartbeats 400000 in
set_option maxRecDepth 20000 in
theorem torect_any (a : Rt) (w : World) :
    Calls Try.prog 50 #[rv a] w fun e w' => e = .returned (rv a) ∧ Below w.heap.size w w' := by
  go_enter Try.func50, Try.ntmps50
  go_wp2
  refine bodyPost_ret (v := rv a) (by simp [results, Try.results50, go_sem, *]) rfl ⟨?_, ?_⟩
  · rfl
  · (repeat (first | exact Below.refl _ _ | assumption | refine Below.alloc ?_ (by (first | exact Nat.le_refl _ | (simp; done) | omega | (simp; omega))) _ | refine Below.setCell ?_ (by (first | exact Nat.le_refl _ | (simp; done) | omega | (simp; omega))) _ | refine Below.drew ?_ | refine Below.trans ?_ (Below.mono (by assumption) (by (first | exact Nat.le_refl _ | (simp; done) | omega | (simp; omega))))))

set_option maxHeartbeats 400000 in
set_option maxRecDepth 20000 in
theorem eqrect_same (a : Rt) (w : World) :
    Calls Try.prog 51 #[rv a, rv a] w fun e w' => e = .returned (.bool true) ∧ Below w.heap.size w w' := by
  go_enter Try.func51, Try.ntmps51
  go_wp2
  go_ret
  exact ⟨rfl, by (repeat (first | exact Below.refl _ _ | assumption | refine Below.alloc ?_ (by (first | exact Nat.le_refl _ | (simp; done) | omega | (simp; omega))) _ | refine Below.setCell ?_ (by (first | exact Nat.le_refl _ | (simp; done) | omega | (simp; omega))) _ | refine Below.drew ?_ | refine Below.trans ?_ (Below.mono (by assumption) (by (first | exact Nat.le_refl _ | (simp; done) | omega | (simp; omega))))))⟩

set_option maxHeartbeats 400000 in
set_option maxRecDepth 20000 in
theorem alive_any (w : World) :
    Calls Try.prog 14 #[] w fun e w' => e = .returned (.bool true) ∧ Below w.heap.size w w' := by
  have o1 : okB ⟨0, 0, 1, 1⟩ = true := by decide
  have o2 : okB Rt.zero = false := by decide
  go_enter Try.func14, Try.ntmps14
  go_wp2_with fail
  refine (iok_any ⟨0, 0, 1, 1⟩ _).mono ?_; rintro e w1 ⟨rfl, hb1⟩; have hz1 := hb1.size; (try simp at hz1)
  go_wp2_with fail
  refine (iok_any Rt.zero _).mono ?_; rintro e w2 ⟨rfl, hb2⟩; have hz2 := hb2.size; (try simp at hz2)
  go_wp2
  go_ret
  exact ⟨rfl, by (repeat (first | exact Below.refl _ _ | assumption | refine Below.alloc ?_ (by (first | exact Nat.le_refl _ | (simp; done) | omega | (simp; omega))) _ | refine Below.setCell ?_ (by (first | exact Nat.le_refl _ | (simp; done) | omega | (simp; omega))) _ | refine Below.drew ?_ | refine Below.trans ?_ (Below.mono (by assumption) (by (first | exact Nat.le_refl _ | (simp; done) | omega | (simp; omega))))))⟩
end Go.Proofs.Ytfdkkkdijgmbbaa
