/- Chapter 1: contracts, third part: moving; what the laws call besides. -/
import Derived.Test.YtbklknhbfgdoaaaRectB
namespace Go.Proofs.Ytbklknhbfgdoaaa
open Go.RowKit Go.Sort
set_option linter.unusedVariables false
theorem stepB_iff {x : Int} : stepB x = true ↔ -20 ≤ x ∧ x ≤ 20 := by unfold stepB; simp
theorem stepB_no {x : Int} (h : ¬ (-20 ≤ x ∧ x ≤ 20)) : stepB x = false := by unfold stepB; simpa using h

set_option maxHeartbeats 400000 in
theorem step_any (x : Int) (w : World) :
    Calls Try.prog 46 #[.int .i64 x] w fun e w' => e = .returned (.bool (stepB x)) ∧ w = w' := by
  by_cases h1 : -20 ≤ x
  · by_cases h2 : x ≤ 20
    · have H : Hid (stepB x = true) := Lib.hid (stepB_iff.2 ⟨h1, h2⟩)
      go_enter Try.func46, Try.ntmps46
      go_wp2
      go_ret
      exact ⟨ret_bool (by rw [H.out]), rfl⟩
    · have H : Hid (stepB x = false) := Lib.hid (stepB_no (by omega))
      go_enter Try.func46, Try.ntmps46
      go_wp2
      go_ret
      exact ⟨ret_bool (by rw [H.out]), rfl⟩
  · have H : Hid (stepB x = false) := Lib.hid (stepB_no (by omega))
    go_enter Try.func46, Try.ntmps46
    go_wp2
    go_ret
    exact ⟨ret_bool (by rw [H.out]), rfl⟩
def inB (n lo hi : Int) : Bool := decide (lo ≤ n ∧ n ≤ hi)
theorem inB_iff {n lo hi : Int} : inB n lo hi = true ↔ lo ≤ n ∧ n ≤ hi := by unfold inB; simp
theorem inB_no {n lo hi : Int} (h : ¬ (lo ≤ n ∧ n ≤ hi)) : inB n lo hi = false := by unfold inB; simpa using h
theorem inB_step (x : Int) : inB x (-20) 20 = stepB x := rfl

set_option maxHeartbeats 400000 in
theorem in_any (n lo hi : Int) (w : World) :
    Calls Try.prog 57 #[.int .i64 n, .int .i64 lo, .int .i64 hi] w fun e w' => e = .returned (.bool (inB n lo hi)) ∧ w = w' := by
  by_cases h1 : lo ≤ n
  · by_cases h2 : n ≤ hi
    · have H : Hid (inB n lo hi = true) := Lib.hid (inB_iff.2 ⟨h1, h2⟩)
      go_enter Try.func57, Try.ntmps57
      go_wp2
      go_ret
      exact ⟨ret_bool (by rw [H.out]), rfl⟩
    · have H : Hid (inB n lo hi = false) := Lib.hid (inB_no (by omega))
      go_enter Try.func57, Try.ntmps57
      go_wp2
      go_ret
      exact ⟨ret_bool (by rw [H.out]), rfl⟩
  · have H : Hid (inB n lo hi = false) := Lib.hid (inB_no (by omega))
    go_enter Try.func57, Try.ntmps57
    go_wp2
    go_ret
    exact ⟨ret_bool (by rw [H.out]), rfl⟩

set_option maxHeartbeats 400000 in
theorem moved_any (a : Rt) (x y : Int) (w : World) (h : stepsB a x y = true) :
    Calls Try.prog 48 #[rv a, .int .i64 x, .int .i64 y] w fun e w' => e = .returned (rv (movedR a x y)) ∧ Below w.heap.size w w' := by
  have hh : okB a = true ∧ stepB x = true ∧ stepB y = true := by unfold stepsB at h; simpa using h
  have ho := okB_iff.1 hh.1
  have hx := stepB_iff.1 hh.2.1
  have hy := stepB_iff.1 hh.2.2
  clear hh h
  obtain ⟨⟨a1, a2, a3⟩, a4, a5, a6⟩ := ho
  obtain ⟨x1, x2⟩ := hx
  obtain ⟨y1, y2⟩ := hy
  go_enter Try.func48, Try.ntmps48
  go_wp2
  refine bodyPost_ret (v := rv (movedR a x y)) (by simp [movedR, results, Try.results48, go_sem, *]) rfl ⟨?_, ?_⟩
  · rfl
  · (repeat (first | exact Below.refl _ _ | assumption | refine Below.alloc ?_ (by (first | exact Nat.le_refl _ | (simp; done) | omega | (simp; omega))) _ | refine Below.setCell ?_ (by (first | exact Nat.le_refl _ | (simp; done) | omega | (simp; omega))) _ | refine Below.drew ?_ | refine Below.trans ?_ (Below.mono (by assumption) (by (first | exact Nat.le_refl _ | (simp; done) | omega | (simp; omega))))))

set_option maxHeartbeats 1000000 in
theorem imv_any (a : Rt) (x y : Int) (w : World) :
    Calls Try.prog 24 #[rv a, .int .i64 x, .int .i64 y] w fun e w' => e = .returned (.tuple #[rv (mvR a x y), .bool (mvB a x y)]) ∧ Below w.heap.size w w' := by
  cases h1 : okB a
  · skip
    have H : Hid (mvR a x y = Rt.zero) := Lib.hid (by unfold mvR mvB stepsB; rw [h1]; rfl)
    have H2 : Hid (mvB a x y = false) := Lib.hid (by unfold mvB stepsB; rw [h1]; rfl)
    go_enter Try.func24, Try.ntmps24
    go_wp2_with fail
    refine (iok_any _ _).mono ?_; rintro e w1 ⟨rfl, hb1⟩; have hz1 := hb1.size; (try simp at hz1); have _ : w.heap.size < w1.heap.size := (by first | (simp; done) | omega | (simp; omega)); have _ : w.heap.size + 1 < w1.heap.size := (by first | (simp; done) | omega | (simp; omega)); have _ := fun o => hb1.cell (p := ⟨w.heap.size, o, none⟩) (by first | (simp; done) | omega | (simp; omega)); have _ := fun o => hb1.cell (p := ⟨w.heap.size + 1, o, none⟩) (by first | (simp; done) | omega | (simp; omega)); have _ := fun o => hb1.frozen (p := ⟨w.heap.size + 1, o, none⟩) (by first | (simp; done) | omega | (simp; omega))
    go_wp2
    refine bodyPost_ret (v := .tuple #[rv Rt.zero, .bool false]) (by simp [Rt.zero, results, Try.results24, go_sem, *]) rfl ⟨?_, ?_⟩
    · rw [H.out, H2.out]
    · (repeat (first | exact Below.refl _ _ | assumption | refine Below.alloc ?_ (by (first | exact Nat.le_refl _ | (simp; done) | omega | (simp; omega))) _ | refine Below.setCell ?_ (by (first | exact Nat.le_refl _ | (simp; done) | omega | (simp; omega))) _ | refine Below.drew ?_ | refine Below.trans ?_ (Below.mono (by assumption) (by (first | exact Nat.le_refl _ | (simp; done) | omega | (simp; omega))))))
  · cases h2 : stepB x
    · skip
      have H : Hid (mvR a x y = Rt.zero) := Lib.hid (by unfold mvR mvB stepsB; rw [h1, h2]; rfl)
      have H2 : Hid (mvB a x y = false) := Lib.hid (by unfold mvB stepsB; rw [h1, h2]; rfl)
      go_enter Try.func24, Try.ntmps24
      go_wp2_with fail
      refine (iok_any _ _).mono ?_; rintro e w1 ⟨rfl, hb1⟩; have hz1 := hb1.size; (try simp at hz1); have _ : w.heap.size < w1.heap.size := (by first | (simp; done) | omega | (simp; omega)); have _ : w.heap.size + 1 < w1.heap.size := (by first | (simp; done) | omega | (simp; omega)); have _ := fun o => hb1.cell (p := ⟨w.heap.size, o, none⟩) (by first | (simp; done) | omega | (simp; omega)); have _ := fun o => hb1.cell (p := ⟨w.heap.size + 1, o, none⟩) (by first | (simp; done) | omega | (simp; omega)); have _ := fun o => hb1.frozen (p := ⟨w.heap.size + 1, o, none⟩) (by first | (simp; done) | omega | (simp; omega))
      go_wp2_with fail
      refine (step_any _ _).mono ?_; rintro e w' ⟨rfl, rfl⟩
      go_wp2
      refine bodyPost_ret (v := .tuple #[rv Rt.zero, .bool false]) (by simp [Rt.zero, results, Try.results24, go_sem, *]) rfl ⟨?_, ?_⟩
      · rw [H.out, H2.out]
      · (repeat (first | exact Below.refl _ _ | assumption | refine Below.alloc ?_ (by (first | exact Nat.le_refl _ | (simp; done) | omega | (simp; omega))) _ | refine Below.setCell ?_ (by (first | exact Nat.le_refl _ | (simp; done) | omega | (simp; omega))) _ | refine Below.drew ?_ | refine Below.trans ?_ (Below.mono (by assumption) (by (first | exact Nat.le_refl _ | (simp; done) | omega | (simp; omega))))))
    · cases h3 : stepB y
      · skip
        have H : Hid (mvR a x y = Rt.zero) := Lib.hid (by unfold mvR mvB stepsB; rw [h1, h2, h3]; rfl)
        have H2 : Hid (mvB a x y = false) := Lib.hid (by unfold mvB stepsB; rw [h1, h2, h3]; rfl)
        go_enter Try.func24, Try.ntmps24
        go_wp2_with fail
        refine (iok_any _ _).mono ?_; rintro e w1 ⟨rfl, hb1⟩; have hz1 := hb1.size; (try simp at hz1); have _ : w.heap.size < w1.heap.size := (by first | (simp; done) | omega | (simp; omega)); have _ : w.heap.size + 1 < w1.heap.size := (by first | (simp; done) | omega | (simp; omega)); have _ := fun o => hb1.cell (p := ⟨w.heap.size, o, none⟩) (by first | (simp; done) | omega | (simp; omega)); have _ := fun o => hb1.cell (p := ⟨w.heap.size + 1, o, none⟩) (by first | (simp; done) | omega | (simp; omega)); have _ := fun o => hb1.frozen (p := ⟨w.heap.size + 1, o, none⟩) (by first | (simp; done) | omega | (simp; omega))
        go_wp2_with fail
        refine (step_any _ _).mono ?_; rintro e w' ⟨rfl, rfl⟩
        go_wp2_with fail
        refine (step_any _ _).mono ?_; rintro e w' ⟨rfl, rfl⟩
        go_wp2
        refine bodyPost_ret (v := .tuple #[rv Rt.zero, .bool false]) (by simp [Rt.zero, results, Try.results24, go_sem, *]) rfl ⟨?_, ?_⟩
        · rw [H.out, H2.out]
        · (repeat (first | exact Below.refl _ _ | assumption | refine Below.alloc ?_ (by (first | exact Nat.le_refl _ | (simp; done) | omega | (simp; omega))) _ | refine Below.setCell ?_ (by (first | exact Nat.le_refl _ | (simp; done) | omega | (simp; omega))) _ | refine Below.drew ?_ | refine Below.trans ?_ (Below.mono (by assumption) (by (first | exact Nat.le_refl _ | (simp; done) | omega | (simp; omega))))))
      · have hs : stepsB a x y = true := by unfold stepsB; rw [h1, h2, h3]; rfl
        have H : Hid (mvR a x y = onlyR (movedR a x y)) := Lib.hid (by unfold mvR mvB onlyR; rw [hs]; rfl)
        have H2 : Hid (mvB a x y = okB (movedR a x y)) := Lib.hid (by unfold mvB; rw [hs]; rfl)
        have Hs := Lib.hid hs
        clear hs
        go_enter Try.func24, Try.ntmps24
        go_wp2_with fail
        refine (iok_any _ _).mono ?_; rintro e w1 ⟨rfl, hb1⟩; have hz1 := hb1.size; (try simp at hz1); have _ : w.heap.size < w1.heap.size := (by first | (simp; done) | omega | (simp; omega)); have _ : w.heap.size + 1 < w1.heap.size := (by first | (simp; done) | omega | (simp; omega)); have _ := fun o => hb1.cell (p := ⟨w.heap.size, o, none⟩) (by first | (simp; done) | omega | (simp; omega)); have _ := fun o => hb1.cell (p := ⟨w.heap.size + 1, o, none⟩) (by first | (simp; done) | omega | (simp; omega)); have _ := fun o => hb1.frozen (p := ⟨w.heap.size + 1, o, none⟩) (by first | (simp; done) | omega | (simp; omega))
        go_wp2_with fail
        refine (step_any _ _).mono ?_; rintro e w' ⟨rfl, rfl⟩
        go_wp2_with fail
        refine (step_any _ _).mono ?_; rintro e w' ⟨rfl, rfl⟩
        go_wp2_with fail
        refine (moved_any _ _ _ _ Hs.out).mono ?_; rintro e w2 ⟨rfl, hb2⟩; have hz2 := hb2.size; (try simp at hz2); have _ : w.heap.size + 1 < w2.heap.size := (by first | (simp; done) | omega | (simp; omega)); have _ := fun o => hb2.cell (p := ⟨w.heap.size + 1, o, none⟩) (by first | (simp; done) | omega | (simp; omega)); have _ := fun o => hb2.frozen (p := ⟨w.heap.size + 1, o, none⟩) (by first | (simp; done) | omega | (simp; omega))
        go_wp2_with fail
        refine (only_any _ _).mono ?_; rintro e w3 ⟨rfl, hb3⟩; have hz3 := hb3.size; (try simp at hz3); have _ : w.heap.size + 1 < w3.heap.size := (by first | (simp; done) | omega | (simp; omega)); have _ := fun o => hb3.cell (p := ⟨w.heap.size + 1, o, none⟩) (by first | (simp; done) | omega | (simp; omega)); have _ := fun o => hb3.frozen (p := ⟨w.heap.size + 1, o, none⟩) (by first | (simp; done) | omega | (simp; omega))
        go_wp2
        refine bodyPost_ret (v := .tuple #[rv (onlyR (movedR a x y)), .bool (okB (movedR a x y))]) (by simp [results, Try.results24, go_sem, *]) rfl ⟨?_, ?_⟩
        · rw [H.out, H2.out]
        · (repeat (first | exact Below.refl _ _ | assumption | refine Below.alloc ?_ (by (first | exact Nat.le_refl _ | (simp; done) | omega | (simp; omega))) _ | refine Below.setCell ?_ (by (first | exact Nat.le_refl _ | (simp; done) | omega | (simp; omega))) _ | refine Below.drew ?_ | refine Below.trans ?_ (Below.mono (by assumption) (by (first | exact Nat.le_refl _ | (simp; done) | omega | (simp; omega))))))

set_option maxHeartbeats 1000000 in
theorem smv_any (a : Rt) (x y : Int) (w : World) :
    Calls Try.prog 37 #[rv a, .int .i64 x, .int .i64 y] w fun e w' => e = .returned (.tuple #[rv (mvR a x y), .bool (mvB a x y)]) ∧ Below w.heap.size w w' := by
  cases h1 : okB a
  · skip
    have H : Hid (mvR a x y = Rt.zero) := Lib.hid (by unfold mvR mvB stepsB; rw [h1]; rfl)
    have H2 : Hid (mvB a x y = false) := Lib.hid (by unfold mvB stepsB; rw [h1]; rfl)
    go_enter Try.func37, Try.ntmps37
    go_wp2_with fail
    refine (sok_any _ _).mono ?_; rintro e w1 ⟨rfl, hb1⟩; have hz1 := hb1.size; (try simp at hz1); have _ : w.heap.size < w1.heap.size := (by first | (simp; done) | omega | (simp; omega)); have _ : w.heap.size + 1 < w1.heap.size := (by first | (simp; done) | omega | (simp; omega)); have _ := fun o => hb1.cell (p := ⟨w.heap.size, o, none⟩) (by first | (simp; done) | omega | (simp; omega)); have _ := fun o => hb1.cell (p := ⟨w.heap.size + 1, o, none⟩) (by first | (simp; done) | omega | (simp; omega)); have _ := fun o => hb1.frozen (p := ⟨w.heap.size + 1, o, none⟩) (by first | (simp; done) | omega | (simp; omega))
    go_wp2
    refine bodyPost_ret (v := .tuple #[rv Rt.zero, .bool false]) (by simp [Rt.zero, results, Try.results37, go_sem, *]) rfl ⟨?_, ?_⟩
    · rw [H.out, H2.out]
    · (repeat (first | exact Below.refl _ _ | assumption | refine Below.alloc ?_ (by (first | exact Nat.le_refl _ | (simp; done) | omega | (simp; omega))) _ | refine Below.setCell ?_ (by (first | exact Nat.le_refl _ | (simp; done) | omega | (simp; omega))) _ | refine Below.drew ?_ | refine Below.trans ?_ (Below.mono (by assumption) (by (first | exact Nat.le_refl _ | (simp; done) | omega | (simp; omega))))))
  · cases h2 : stepB x
    · skip
      have H : Hid (mvR a x y = Rt.zero) := Lib.hid (by unfold mvR mvB stepsB; rw [h1, h2]; rfl)
      have H2 : Hid (mvB a x y = false) := Lib.hid (by unfold mvB stepsB; rw [h1, h2]; rfl)
      go_enter Try.func37, Try.ntmps37
      go_wp2_with fail
      refine (sok_any _ _).mono ?_; rintro e w1 ⟨rfl, hb1⟩; have hz1 := hb1.size; (try simp at hz1); have _ : w.heap.size < w1.heap.size := (by first | (simp; done) | omega | (simp; omega)); have _ : w.heap.size + 1 < w1.heap.size := (by first | (simp; done) | omega | (simp; omega)); have _ := fun o => hb1.cell (p := ⟨w.heap.size, o, none⟩) (by first | (simp; done) | omega | (simp; omega)); have _ := fun o => hb1.cell (p := ⟨w.heap.size + 1, o, none⟩) (by first | (simp; done) | omega | (simp; omega)); have _ := fun o => hb1.frozen (p := ⟨w.heap.size + 1, o, none⟩) (by first | (simp; done) | omega | (simp; omega))
      go_wp2_with fail
      refine (in_any _ _ _ _).mono ?_; rintro e w' ⟨rfl, rfl⟩
      rw [inB_step]
      go_wp2
      refine bodyPost_ret (v := .tuple #[rv Rt.zero, .bool false]) (by simp [Rt.zero, results, Try.results37, go_sem, *]) rfl ⟨?_, ?_⟩
      · rw [H.out, H2.out]
      · (repeat (first | exact Below.refl _ _ | assumption | refine Below.alloc ?_ (by (first | exact Nat.le_refl _ | (simp; done) | omega | (simp; omega))) _ | refine Below.setCell ?_ (by (first | exact Nat.le_refl _ | (simp; done) | omega | (simp; omega))) _ | refine Below.drew ?_ | refine Below.trans ?_ (Below.mono (by assumption) (by (first | exact Nat.le_refl _ | (simp; done) | omega | (simp; omega))))))
    · cases h3 : stepB y
      · skip
        have H : Hid (mvR a x y = Rt.zero) := Lib.hid (by unfold mvR mvB stepsB; rw [h1, h2, h3]; rfl)
        have H2 : Hid (mvB a x y = false) := Lib.hid (by unfold mvB stepsB; rw [h1, h2, h3]; rfl)
        go_enter Try.func37, Try.ntmps37
        go_wp2_with fail
        refine (sok_any _ _).mono ?_; rintro e w1 ⟨rfl, hb1⟩; have hz1 := hb1.size; (try simp at hz1); have _ : w.heap.size < w1.heap.size := (by first | (simp; done) | omega | (simp; omega)); have _ : w.heap.size + 1 < w1.heap.size := (by first | (simp; done) | omega | (simp; omega)); have _ := fun o => hb1.cell (p := ⟨w.heap.size, o, none⟩) (by first | (simp; done) | omega | (simp; omega)); have _ := fun o => hb1.cell (p := ⟨w.heap.size + 1, o, none⟩) (by first | (simp; done) | omega | (simp; omega)); have _ := fun o => hb1.frozen (p := ⟨w.heap.size + 1, o, none⟩) (by first | (simp; done) | omega | (simp; omega))
        go_wp2_with fail
        refine (in_any _ _ _ _).mono ?_; rintro e w' ⟨rfl, rfl⟩
        rw [inB_step]
        go_wp2_with fail
        refine (in_any _ _ _ _).mono ?_; rintro e w' ⟨rfl, rfl⟩
        rw [inB_step]
        go_wp2
        refine bodyPost_ret (v := .tuple #[rv Rt.zero, .bool false]) (by simp [Rt.zero, results, Try.results37, go_sem, *]) rfl ⟨?_, ?_⟩
        · rw [H.out, H2.out]
        · (repeat (first | exact Below.refl _ _ | assumption | refine Below.alloc ?_ (by (first | exact Nat.le_refl _ | (simp; done) | omega | (simp; omega))) _ | refine Below.setCell ?_ (by (first | exact Nat.le_refl _ | (simp; done) | omega | (simp; omega))) _ | refine Below.drew ?_ | refine Below.trans ?_ (Below.mono (by assumption) (by (first | exact Nat.le_refl _ | (simp; done) | omega | (simp; omega))))))
      · obtain ⟨⟨a1, a2, a3⟩, a4, a5, a6⟩ := okB_iff.1 h1
        obtain ⟨x1, x2⟩ := stepB_iff.1 h2
        obtain ⟨y1, y2⟩ := stepB_iff.1 h3
        cases hm : okB (movedR a x y)
        · have H : Hid (mvR a x y = Rt.zero) := Lib.hid (by unfold mvR mvB stepsB; rw [h1, h2, h3, hm]; rfl)
          have H2 : Hid (mvB a x y = false) := Lib.hid (by unfold mvB stepsB; rw [h1, h2, h3, hm]; rfl)
          go_enter Try.func37, Try.ntmps37
          go_wp2_with fail
          refine (sok_any _ _).mono ?_; rintro e w1 ⟨rfl, hb1⟩; have hz1 := hb1.size; (try simp at hz1); have _ : w.heap.size < w1.heap.size := (by first | (simp; done) | omega | (simp; omega)); have _ : w.heap.size + 1 < w1.heap.size := (by first | (simp; done) | omega | (simp; omega)); have _ := fun o => hb1.cell (p := ⟨w.heap.size, o, none⟩) (by first | (simp; done) | omega | (simp; omega)); have _ := fun o => hb1.cell (p := ⟨w.heap.size + 1, o, none⟩) (by first | (simp; done) | omega | (simp; omega)); have _ := fun o => hb1.frozen (p := ⟨w.heap.size + 1, o, none⟩) (by first | (simp; done) | omega | (simp; omega))
          go_wp2_with fail
          refine (in_any _ _ _ _).mono ?_; rintro e w' ⟨rfl, rfl⟩
          rw [inB_step]
          go_wp2_with fail
          refine (in_any _ _ _ _).mono ?_; rintro e w' ⟨rfl, rfl⟩
          rw [inB_step]
          go_wp2_with fail
          have e4 := hm
          refine (sok_any (movedR a x y) _).mono ?_; rintro e w2 ⟨rfl, hb2⟩; have hz2 := hb2.size; (try simp at hz2); have _ : w.heap.size < w2.heap.size := (by first | (simp; done) | omega | (simp; omega)); have _ : w.heap.size + 1 < w2.heap.size := (by first | (simp; done) | omega | (simp; omega)); have _ : w1.heap.size < w2.heap.size := (by first | (simp; done) | omega | (simp; omega)); have _ := fun o => hb2.cell (p := ⟨w.heap.size, o, none⟩) (by first | (simp; done) | omega | (simp; omega)); have _ := fun o => hb2.cell (p := ⟨w.heap.size + 1, o, none⟩) (by first | (simp; done) | omega | (simp; omega)); have _ := fun o => hb2.cell (p := ⟨w1.heap.size, o, none⟩) (by first | (simp; done) | omega | (simp; omega)); have _ := fun o => hb2.frozen (p := ⟨w.heap.size + 1, o, none⟩) (by first | (simp; done) | omega | (simp; omega))
          go_wp2
          refine bodyPost_ret (v := .tuple #[rv Rt.zero, .bool false]) (by simp [Rt.zero, results, Try.results37, go_sem, *]) rfl ⟨?_, ?_⟩
          · rw [H.out, H2.out]
          · (repeat (first | exact Below.refl _ _ | assumption | refine Below.alloc ?_ (by (first | exact Nat.le_refl _ | (simp; done) | omega | (simp; omega))) _ | refine Below.setCell ?_ (by (first | exact Nat.le_refl _ | (simp; done) | omega | (simp; omega))) _ | refine Below.drew ?_ | refine Below.trans ?_ (Below.mono (by assumption) (by (first | exact Nat.le_refl _ | (simp; done) | omega | (simp; omega))))))
        · have H : Hid (mvR a x y = movedR a x y) := Lib.hid (by unfold mvR mvB stepsB; rw [h1, h2, h3, hm]; rfl)
          have H2 : Hid (mvB a x y = true) := Lib.hid (by unfold mvB stepsB; rw [h1, h2, h3, hm]; rfl)
          go_enter Try.func37, Try.ntmps37
          go_wp2_with fail
          refine (sok_any _ _).mono ?_; rintro e w1 ⟨rfl, hb1⟩; have hz1 := hb1.size; (try simp at hz1); have _ : w.heap.size < w1.heap.size := (by first | (simp; done) | omega | (simp; omega)); have _ : w.heap.size + 1 < w1.heap.size := (by first | (simp; done) | omega | (simp; omega)); have _ := fun o => hb1.cell (p := ⟨w.heap.size, o, none⟩) (by first | (simp; done) | omega | (simp; omega)); have _ := fun o => hb1.cell (p := ⟨w.heap.size + 1, o, none⟩) (by first | (simp; done) | omega | (simp; omega)); have _ := fun o => hb1.frozen (p := ⟨w.heap.size + 1, o, none⟩) (by first | (simp; done) | omega | (simp; omega))
          go_wp2_with fail
          refine (in_any _ _ _ _).mono ?_; rintro e w' ⟨rfl, rfl⟩
          rw [inB_step]
          go_wp2_with fail
          refine (in_any _ _ _ _).mono ?_; rintro e w' ⟨rfl, rfl⟩
          rw [inB_step]
          go_wp2_with fail
          have e4 := hm
          refine (sok_any (movedR a x y) _).mono ?_; rintro e w2 ⟨rfl, hb2⟩; have hz2 := hb2.size; (try simp at hz2); have _ : w.heap.size < w2.heap.size := (by first | (simp; done) | omega | (simp; omega)); have _ : w.heap.size + 1 < w2.heap.size := (by first | (simp; done) | omega | (simp; omega)); have _ : w1.heap.size < w2.heap.size := (by first | (simp; done) | omega | (simp; omega)); have _ := fun o => hb2.cell (p := ⟨w.heap.size, o, none⟩) (by first | (simp; done) | omega | (simp; omega)); have _ := fun o => hb2.cell (p := ⟨w.heap.size + 1, o, none⟩) (by first | (simp; done) | omega | (simp; omega)); have _ := fun o => hb2.cell (p := ⟨w1.heap.size, o, none⟩) (by first | (simp; done) | omega | (simp; omega)); have _ := fun o => hb2.frozen (p := ⟨w.heap.size + 1, o, none⟩) (by first | (simp; done) | omega | (simp; omega))
          go_wp2
          refine bodyPost_ret (v := .tuple #[rv (movedR a x y), .bool true]) (by simp [movedR, results, Try.results37, go_sem, *]) rfl ⟨?_, ?_⟩
          · rw [H.out, H2.out]
          · (repeat (first | exact Below.refl _ _ | assumption | refine Below.alloc ?_ (by (first | exact Nat.le_refl _ | (simp; done) | omega | (simp; omega))) _ | refine Below.setCell ?_ (by (first | exact Nat.le_refl _ | (simp; done) | omega | (simp; omega))) _ | refine Below.drew ?_ | refine Below.trans ?_ (Below.mono (by assumption) (by (first | exact Nat.le_refl _ | (simp; done) | omega | (simp; omega))))))

set_option maxHeartbeats 400000 in
theorem torect_any (a : Rt) (w : World) :
    Calls Try.prog 39 #[rv a] w fun e w' => e = .returned (rv a) ∧ Below w.heap.size w w' := by
  go_enter Try.func39, Try.ntmps39
  go_wp2
  refine bodyPost_ret (v := rv a) (by simp [results, Try.results39, go_sem, *]) rfl ⟨?_, ?_⟩
  · rfl
  · (repeat (first | exact Below.refl _ _ | assumption | refine Below.alloc ?_ (by (first | exact Nat.le_refl _ | (simp; done) | omega | (simp; omega))) _ | refine Below.setCell ?_ (by (first | exact Nat.le_refl _ | (simp; done) | omega | (simp; omega))) _ | refine Below.drew ?_ | refine Below.trans ?_ (Below.mono (by assumption) (by (first | exact Nat.le_refl _ | (simp; done) | omega | (simp; omega))))))

set_option maxHeartbeats 400000 in
theorem eqrect_same (a : Rt) (w : World) :
    Calls Try.prog 40 #[rv a, rv a] w fun e w' => e = .returned (.bool true) ∧ Below w.heap.size w w' := by
  go_enter Try.func40, Try.ntmps40
  go_wp2
  go_ret
  exact ⟨rfl, by (repeat (first | exact Below.refl _ _ | assumption | refine Below.alloc ?_ (by (first | exact Nat.le_refl _ | (simp; done) | omega | (simp; omega))) _ | refine Below.setCell ?_ (by (first | exact Nat.le_refl _ | (simp; done) | omega | (simp; omega))) _ | refine Below.drew ?_ | refine Below.trans ?_ (Below.mono (by assumption) (by (first | exact Nat.le_refl _ | (simp; done) | omega | (simp; omega))))))⟩

set_option maxHeartbeats 400000 in
theorem alive_any (w : World) :
    Calls Try.prog 20 #[] w fun e w' => e = .returned (.bool true) ∧ Below w.heap.size w w' := by
  have o1 : okB ⟨0, 0, 1, 1⟩ = true := by decide
  have o2 : okB Rt.zero = false := by decide
  go_enter Try.func20, Try.ntmps20
  go_wp2_with fail
  refine (iok_any ⟨0, 0, 1, 1⟩ _).mono ?_; rintro e w1 ⟨rfl, hb1⟩; have hz1 := hb1.size; (try simp at hz1)
  go_wp2_with fail
  refine (iok_any Rt.zero _).mono ?_; rintro e w2 ⟨rfl, hb2⟩; have hz2 := hb2.size; (try simp at hz2)
  go_wp2
  go_ret
  exact ⟨rfl, by (repeat (first | exact Below.refl _ _ | assumption | refine Below.alloc ?_ (by (first | exact Nat.le_refl _ | (simp; done) | omega | (simp; omega))) _ | refine Below.setCell ?_ (by (first | exact Nat.le_refl _ | (simp; done) | omega | (simp; omega))) _ | refine Below.drew ?_ | refine Below.trans ?_ (Below.mono (by assumption) (by (first | exact Nat.le_refl _ | (simp; done) | omega | (simp; omega))))))⟩
end Go.Proofs.Ytbklknhbfgdoaaa
