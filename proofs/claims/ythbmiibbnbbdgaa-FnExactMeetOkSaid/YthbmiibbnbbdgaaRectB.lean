
/- Chapter 1: contracts, second part. -/
import Derived.Test.YthbmiibbnbbdgaaRect
namespace Go.Proofs.Ythbmiibbnbbdgaa
open Go.RowKit Go.Sort
set_option linter.unusedVariables false

set_option maxHeartbeats 1000000 in
theorem scm_any (a b : Rt) (w : World) :
    Calls Try.prog 36 #[rv a, rv b] w fun e w' => e = .returned (.tuple #[rv (cmR a b), .bool (cmB a b)]) ∧ Below w.heap.size w w' := by
  cases h1 : okB a
  · skip
    have H : Hid (cmR a b = Rt.zero) := Lib.hid (by unfold cmR cmB bothB; rw [h1]; rfl)
    have H2 : Hid (cmB a b = false) := Lib.hid (by unfold cmB bothB; rw [h1]; rfl)
    go_enter Try.func36, Try.ntmps36
    go_wp2_with fail
    refine (scommon_any _ _ _).mono ?_; rintro e w1 ⟨rfl, hb1⟩; have hz1 := hb1.size; (try simp at hz1); have _ : w.heap.size < w1.heap.size := (by first | (simp; done) | omega | (simp; omega)); have _ : w.heap.size + 1 < w1.heap.size := (by first | (simp; done) | omega | (simp; omega)); have _ : w.heap.size + 1 + 1 < w1.heap.size := (by first | (simp; done) | omega | (simp; omega)); have _ := fun o => hb1.cell (p := ⟨w.heap.size, o, none⟩) (by first | (simp; done) | omega | (simp; omega)); have _ := fun o => hb1.cell (p := ⟨w.heap.size + 1, o, none⟩) (by first | (simp; done) | omega | (simp; omega)); have _ := fun o => hb1.cell (p := ⟨w.heap.size + 1 + 1, o, none⟩) (by first | (simp; done) | omega | (simp; omega)); have _ := fun o => hb1.frozen (p := ⟨w.heap.size + 1 + 1, o, none⟩) (by first | (simp; done) | omega | (simp; omega))
    go_wp2_with fail
    refine (sok_any _ _).mono ?_; rintro e w2 ⟨rfl, hb2⟩; have hz2 := hb2.size; (try simp at hz2); have _ : w.heap.size < w2.heap.size := (by first | (simp; done) | omega | (simp; omega)); have _ : w.heap.size + 1 < w2.heap.size := (by first | (simp; done) | omega | (simp; omega)); have _ : w.heap.size + 1 + 1 < w2.heap.size := (by first | (simp; done) | omega | (simp; omega)); have _ : w1.heap.size < w2.heap.size := (by first | (simp; done) | omega | (simp; omega)); have _ := fun o => hb2.cell (p := ⟨w.heap.size, o, none⟩) (by first | (simp; done) | omega | (simp; omega)); have _ := fun o => hb2.cell (p := ⟨w.heap.size + 1, o, none⟩) (by first | (simp; done) | omega | (simp; omega)); have _ := fun o => hb2.cell (p := ⟨w.heap.size + 1 + 1, o, none⟩) (by first | (simp; done) | omega | (simp; omega)); have _ := fun o => hb2.cell (p := ⟨w1.heap.size, o, none⟩) (by first | (simp; done) | omega | (simp; omega)); have _ := fun o => hb2.frozen (p := ⟨w.heap.size + 1 + 1, o, none⟩) (by first | (simp; done) | omega | (simp; omega))
    go_wp2
    refine bodyPost_ret (v := .tuple #[rv (Rt.zero), .bool false]) (by simp [Rt.zero, results, Try.results36, go_sem, *]) rfl ⟨?_, ?_⟩
    · rw [H.out, H2.out]
    · (repeat (first | exact Below.refl _ _ | assumption | refine Below.alloc ?_ (by (first | exact Nat.le_refl _ | (simp; done) | omega | (simp; omega))) _ | refine Below.setCell ?_ (by (first | exact Nat.le_refl _ | (simp; done) | omega | (simp; omega))) _ | refine Below.drew ?_ | refine Below.trans ?_ (Below.mono (by assumption) (by (first | exact Nat.le_refl _ | (simp; done) | omega | (simp; omega))))))
  · cases h2 : okB b
    · skip
      have H : Hid (cmR a b = Rt.zero) := Lib.hid (by unfold cmR cmB bothB; rw [h1, h2]; rfl)
      have H2 : Hid (cmB a b = false) := Lib.hid (by unfold cmB bothB; rw [h1, h2]; rfl)
      go_enter Try.func36, Try.ntmps36
      go_wp2_with fail
      refine (scommon_any _ _ _).mono ?_; rintro e w1 ⟨rfl, hb1⟩; have hz1 := hb1.size; (try simp at hz1); have _ : w.heap.size < w1.heap.size := (by first | (simp; done) | omega | (simp; omega)); have _ : w.heap.size + 1 < w1.heap.size := (by first | (simp; done) | omega | (simp; omega)); have _ : w.heap.size + 1 + 1 < w1.heap.size := (by first | (simp; done) | omega | (simp; omega)); have _ := fun o => hb1.cell (p := ⟨w.heap.size, o, none⟩) (by first | (simp; done) | omega | (simp; omega)); have _ := fun o => hb1.cell (p := ⟨w.heap.size + 1, o, none⟩) (by first | (simp; done) | omega | (simp; omega)); have _ := fun o => hb1.cell (p := ⟨w.heap.size + 1 + 1, o, none⟩) (by first | (simp; done) | omega | (simp; omega)); have _ := fun o => hb1.frozen (p := ⟨w.heap.size + 1 + 1, o, none⟩) (by first | (simp; done) | omega | (simp; omega))
      go_wp2_with fail
      refine (sok_any _ _).mono ?_; rintro e w2 ⟨rfl, hb2⟩; have hz2 := hb2.size; (try simp at hz2); have _ : w.heap.size < w2.heap.size := (by first | (simp; done) | omega | (simp; omega)); have _ : w.heap.size + 1 < w2.heap.size := (by first | (simp; done) | omega | (simp; omega)); have _ : w.heap.size + 1 + 1 < w2.heap.size := (by first | (simp; done) | omega | (simp; omega)); have _ : w1.heap.size < w2.heap.size := (by first | (simp; done) | omega | (simp; omega)); have _ := fun o => hb2.cell (p := ⟨w.heap.size, o, none⟩) (by first | (simp; done) | omega | (simp; omega)); have _ := fun o => hb2.cell (p := ⟨w.heap.size + 1, o, none⟩) (by first | (simp; done) | omega | (simp; omega)); have _ := fun o => hb2.cell (p := ⟨w.heap.size + 1 + 1, o, none⟩) (by first | (simp; done) | omega | (simp; omega)); have _ := fun o => hb2.cell (p := ⟨w1.heap.size, o, none⟩) (by first | (simp; done) | omega | (simp; omega)); have _ := fun o => hb2.frozen (p := ⟨w.heap.size + 1 + 1, o, none⟩) (by first | (simp; done) | omega | (simp; omega))
      go_wp2_with fail
      refine (sok_any _ _).mono ?_; rintro e w3 ⟨rfl, hb3⟩; have hz3 := hb3.size; (try simp at hz3); have _ : w.heap.size < w3.heap.size := (by first | (simp; done) | omega | (simp; omega)); have _ : w.heap.size + 1 < w3.heap.size := (by first | (simp; done) | omega | (simp; omega)); have _ : w.heap.size + 1 + 1 < w3.heap.size := (by first | (simp; done) | omega | (simp; omega)); have _ : w1.heap.size < w3.heap.size := (by first | (simp; done) | omega | (simp; omega)); have _ := fun o => hb3.cell (p := ⟨w.heap.size, o, none⟩) (by first | (simp; done) | omega | (simp; omega)); have _ := fun o => hb3.cell (p := ⟨w.heap.size + 1, o, none⟩) (by first | (simp; done) | omega | (simp; omega)); have _ := fun o => hb3.cell (p := ⟨w.heap.size + 1 + 1, o, none⟩) (by first | (simp; done) | omega | (simp; omega)); have _ := fun o => hb3.cell (p := ⟨w1.heap.size, o, none⟩) (by first | (simp; done) | omega | (simp; omega)); have _ := fun o => hb3.frozen (p := ⟨w.heap.size + 1 + 1, o, none⟩) (by first | (simp; done) | omega | (simp; omega))
      go_wp2
      refine bodyPost_ret (v := .tuple #[rv (Rt.zero), .bool false]) (by simp [Rt.zero, results, Try.results36, go_sem, *]) rfl ⟨?_, ?_⟩
      · rw [H.out, H2.out]
      · (repeat (first | exact Below.refl _ _ | assumption | refine Below.alloc ?_ (by (first | exact Nat.le_refl _ | (simp; done) | omega | (simp; omega))) _ | refine Below.setCell ?_ (by (first | exact Nat.le_refl _ | (simp; done) | omega | (simp; omega))) _ | refine Below.drew ?_ | refine Below.trans ?_ (Below.mono (by assumption) (by (first | exact Nat.le_refl _ | (simp; done) | omega | (simp; omega))))))
    · cases h3 : okB (commonR a b)
      · skip
        have H : Hid (cmR a b = Rt.zero) := Lib.hid (by unfold cmR cmB bothB; rw [h1, h2, h3]; rfl)
        have H2 : Hid (cmB a b = false) := Lib.hid (by unfold cmB bothB; rw [h1, h2, h3]; rfl)
        go_enter Try.func36, Try.ntmps36
        go_wp2_with fail
        refine (scommon_any _ _ _).mono ?_; rintro e w1 ⟨rfl, hb1⟩; have hz1 := hb1.size; (try simp at hz1); have _ : w.heap.size < w1.heap.size := (by first | (simp; done) | omega | (simp; omega)); have _ : w.heap.size + 1 < w1.heap.size := (by first | (simp; done) | omega | (simp; omega)); have _ : w.heap.size + 1 + 1 < w1.heap.size := (by first | (simp; done) | omega | (simp; omega)); have _ := fun o => hb1.cell (p := ⟨w.heap.size, o, none⟩) (by first | (simp; done) | omega | (simp; omega)); have _ := fun o => hb1.cell (p := ⟨w.heap.size + 1, o, none⟩) (by first | (simp; done) | omega | (simp; omega)); have _ := fun o => hb1.cell (p := ⟨w.heap.size + 1 + 1, o, none⟩) (by first | (simp; done) | omega | (simp; omega)); have _ := fun o => hb1.frozen (p := ⟨w.heap.size + 1 + 1, o, none⟩) (by first | (simp; done) | omega | (simp; omega))
        go_wp2_with fail
        refine (sok_any _ _).mono ?_; rintro e w2 ⟨rfl, hb2⟩; have hz2 := hb2.size; (try simp at hz2); have _ : w.heap.size < w2.heap.size := (by first | (simp; done) | omega | (simp; omega)); have _ : w.heap.size + 1 < w2.heap.size := (by first | (simp; done) | omega | (simp; omega)); have _ : w.heap.size + 1 + 1 < w2.heap.size := (by first | (simp; done) | omega | (simp; omega)); have _ : w1.heap.size < w2.heap.size := (by first | (simp; done) | omega | (simp; omega)); have _ := fun o => hb2.cell (p := ⟨w.heap.size, o, none⟩) (by first | (simp; done) | omega | (simp; omega)); have _ := fun o => hb2.cell (p := ⟨w.heap.size + 1, o, none⟩) (by first | (simp; done) | omega | (simp; omega)); have _ := fun o => hb2.cell (p := ⟨w.heap.size + 1 + 1, o, none⟩) (by first | (simp; done) | omega | (simp; omega)); have _ := fun o => hb2.cell (p := ⟨w1.heap.size, o, none⟩) (by first | (simp; done) | omega | (simp; omega)); have _ := fun o => hb2.frozen (p := ⟨w.heap.size + 1 + 1, o, none⟩) (by first | (simp; done) | omega | (simp; omega))
        go_wp2_with fail
        refine (sok_any _ _).mono ?_; rintro e w3 ⟨rfl, hb3⟩; have hz3 := hb3.size; (try simp at hz3); have _ : w.heap.size < w3.heap.size := (by first | (simp; done) | omega | (simp; omega)); have _ : w.heap.size + 1 < w3.heap.size := (by first | (simp; done) | omega | (simp; omega)); have _ : w.heap.size + 1 + 1 < w3.heap.size := (by first | (simp; done) | omega | (simp; omega)); have _ : w1.heap.size < w3.heap.size := (by first | (simp; done) | omega | (simp; omega)); have _ := fun o => hb3.cell (p := ⟨w.heap.size, o, none⟩) (by first | (simp; done) | omega | (simp; omega)); have _ := fun o => hb3.cell (p := ⟨w.heap.size + 1, o, none⟩) (by first | (simp; done) | omega | (simp; omega)); have _ := fun o => hb3.cell (p := ⟨w.heap.size + 1 + 1, o, none⟩) (by first | (simp; done) | omega | (simp; omega)); have _ := fun o => hb3.cell (p := ⟨w1.heap.size, o, none⟩) (by first | (simp; done) | omega | (simp; omega)); have _ := fun o => hb3.frozen (p := ⟨w.heap.size + 1 + 1, o, none⟩) (by first | (simp; done) | omega | (simp; omega))
        go_wp2_with fail
        refine (sok_any _ _).mono ?_; rintro e w4 ⟨rfl, hb4⟩; have hz4 := hb4.size; (try simp at hz4); have _ : w.heap.size < w4.heap.size := (by first | (simp; done) | omega | (simp; omega)); have _ : w.heap.size + 1 < w4.heap.size := (by first | (simp; done) | omega | (simp; omega)); have _ : w.heap.size + 1 + 1 < w4.heap.size := (by first | (simp; done) | omega | (simp; omega)); have _ : w1.heap.size < w4.heap.size := (by first | (simp; done) | omega | (simp; omega)); have _ := fun o => hb4.cell (p := ⟨w.heap.size, o, none⟩) (by first | (simp; done) | omega | (simp; omega)); have _ := fun o => hb4.cell (p := ⟨w.heap.size + 1, o, none⟩) (by first | (simp; done) | omega | (simp; omega)); have _ := fun o => hb4.cell (p := ⟨w.heap.size + 1 + 1, o, none⟩) (by first | (simp; done) | omega | (simp; omega)); have _ := fun o => hb4.cell (p := ⟨w1.heap.size, o, none⟩) (by first | (simp; done) | omega | (simp; omega)); have _ := fun o => hb4.frozen (p := ⟨w.heap.size + 1 + 1, o, none⟩) (by first | (simp; done) | omega | (simp; omega))
        go_wp2
        refine bodyPost_ret (v := .tuple #[rv (Rt.zero), .bool false]) (by simp [Rt.zero, results, Try.results36, go_sem, *]) rfl ⟨?_, ?_⟩
        · rw [H.out, H2.out]
        · (repeat (first | exact Below.refl _ _ | assumption | refine Below.alloc ?_ (by (first | exact Nat.le_refl _ | (simp; done) | omega | (simp; omega))) _ | refine Below.setCell ?_ (by (first | exact Nat.le_refl _ | (simp; done) | omega | (simp; omega))) _ | refine Below.drew ?_ | refine Below.trans ?_ (Below.mono (by assumption) (by (first | exact Nat.le_refl _ | (simp; done) | omega | (simp; omega))))))
      · skip
        have H : Hid (cmR a b = commonR a b) := Lib.hid (by unfold cmR cmB bothB; rw [h1, h2, h3]; rfl)
        have H2 : Hid (cmB a b = true) := Lib.hid (by unfold cmB bothB; rw [h1, h2, h3]; rfl)
        go_enter Try.func36, Try.ntmps36
        go_wp2_with fail
        refine (scommon_any _ _ _).mono ?_; rintro e w1 ⟨rfl, hb1⟩; have hz1 := hb1.size; (try simp at hz1); have _ : w.heap.size < w1.heap.size := (by first | (simp; done) | omega | (simp; omega)); have _ : w.heap.size + 1 < w1.heap.size := (by first | (simp; done) | omega | (simp; omega)); have _ : w.heap.size + 1 + 1 < w1.heap.size := (by first | (simp; done) | omega | (simp; omega)); have _ := fun o => hb1.cell (p := ⟨w.heap.size, o, none⟩) (by first | (simp; done) | omega | (simp; omega)); have _ := fun o => hb1.cell (p := ⟨w.heap.size + 1, o, none⟩) (by first | (simp; done) | omega | (simp; omega)); have _ := fun o => hb1.cell (p := ⟨w.heap.size + 1 + 1, o, none⟩) (by first | (simp; done) | omega | (simp; omega)); have _ := fun o => hb1.frozen (p := ⟨w.heap.size + 1 + 1, o, none⟩) (by first | (simp; done) | omega | (simp; omega))
        go_wp2_with fail
        refine (sok_any _ _).mono ?_; rintro e w2 ⟨rfl, hb2⟩; have hz2 := hb2.size; (try simp at hz2); have _ : w.heap.size < w2.heap.size := (by first | (simp; done) | omega | (simp; omega)); have _ : w.heap.size + 1 < w2.heap.size := (by first | (simp; done) | omega | (simp; omega)); have _ : w.heap.size + 1 + 1 < w2.heap.size := (by first | (simp; done) | omega | (simp; omega)); have _ : w1.heap.size < w2.heap.size := (by first | (simp; done) | omega | (simp; omega)); have _ := fun o => hb2.cell (p := ⟨w.heap.size, o, none⟩) (by first | (simp; done) | omega | (simp; omega)); have _ := fun o => hb2.cell (p := ⟨w.heap.size + 1, o, none⟩) (by first | (simp; done) | omega | (simp; omega)); have _ := fun o => hb2.cell (p := ⟨w.heap.size + 1 + 1, o, none⟩) (by first | (simp; done) | omega | (simp; omega)); have _ := fun o => hb2.cell (p := ⟨w1.heap.size, o, none⟩) (by first | (simp; done) | omega | (simp; omega)); have _ := fun o => hb2.frozen (p := ⟨w.heap.size + 1 + 1, o, none⟩) (by first | (simp; done) | omega | (simp; omega))
        go_wp2_with fail
        refine (sok_any _ _).mono ?_; rintro e w3 ⟨rfl, hb3⟩; have hz3 := hb3.size; (try simp at hz3); have _ : w.heap.size < w3.heap.size := (by first | (simp; done) | omega | (simp; omega)); have _ : w.heap.size + 1 < w3.heap.size := (by first | (simp; done) | omega | (simp; omega)); have _ : w.heap.size + 1 + 1 < w3.heap.size := (by first | (simp; done) | omega | (simp; omega)); have _ : w1.heap.size < w3.heap.size := (by first | (simp; done) | omega | (simp; omega)); have _ := fun o => hb3.cell (p := ⟨w.heap.size, o, none⟩) (by first | (simp; done) | omega | (simp; omega)); have _ := fun o => hb3.cell (p := ⟨w.heap.size + 1, o, none⟩) (by first | (simp; done) | omega | (simp; omega)); have _ := fun o => hb3.cell (p := ⟨w.heap.size + 1 + 1, o, none⟩) (by first | (simp; done) | omega | (simp; omega)); have _ := fun o => hb3.cell (p := ⟨w1.heap.size, o, none⟩) (by first | (simp; done) | omega | (simp; omega)); have _ := fun o => hb3.frozen (p := ⟨w.heap.size + 1 + 1, o, none⟩) (by first | (simp; done) | omega | (simp; omega))
        go_wp2_with fail
        refine (sok_any _ _).mono ?_; rintro e w4 ⟨rfl, hb4⟩; have hz4 := hb4.size; (try simp at hz4); have _ : w.heap.size < w4.heap.size := (by first | (simp; done) | omega | (simp; omega)); have _ : w.heap.size + 1 < w4.heap.size := (by first | (simp; done) | omega | (simp; omega)); have _ : w.heap.size + 1 + 1 < w4.heap.size := (by first | (simp; done) | omega | (simp; omega)); have _ : w1.heap.size < w4.heap.size := (by first | (simp; done) | omega | (simp; omega)); have _ := fun o => hb4.cell (p := ⟨w.heap.size, o, none⟩) (by first | (simp; done) | omega | (simp; omega)); have _ := fun o => hb4.cell (p := ⟨w.heap.size + 1, o, none⟩) (by first | (simp; done) | omega | (simp; omega)); have _ := fun o => hb4.cell (p := ⟨w.heap.size + 1 + 1, o, none⟩) (by first | (simp; done) | omega | (simp; omega)); have _ := fun o => hb4.cell (p := ⟨w1.heap.size, o, none⟩) (by first | (simp; done) | omega | (simp; omega)); have _ := fun o => hb4.frozen (p := ⟨w.heap.size + 1 + 1, o, none⟩) (by first | (simp; done) | omega | (simp; omega))
        go_wp2
        refine bodyPost_ret (v := .tuple #[rv (commonR a b), .bool true]) (by simp [results, Try.results36, go_sem, *]) rfl ⟨?_, ?_⟩
        · rw [H.out, H2.out]
        · (repeat (first | exact Below.refl _ _ | assumption | refine Below.alloc ?_ (by (first | exact Nat.le_refl _ | (simp; done) | omega | (simp; omega))) _ | refine Below.setCell ?_ (by (first | exact Nat.le_refl _ | (simp; done) | omega | (simp; omega))) _ | refine Below.drew ?_ | refine Below.trans ?_ (Below.mono (by assumption) (by (first | exact Nat.le_refl _ | (simp; done) | omega | (simp; omega))))))

theorem insideB_iff {a b : Rt} : insideB a b = true ↔ b.l ≤ a.l ∧ b.o ≤ a.o ∧ a.r ≤ b.r ∧ a.h ≤ b.h := by unfold insideB; simp
theorem insideB_no {a b : Rt} (h : ¬ (b.l ≤ a.l ∧ b.o ≤ a.o ∧ a.r ≤ b.r ∧ a.h ≤ b.h)) : insideB a b = false := by unfold insideB; simpa using h
set_option maxHeartbeats 1600000 in
theorem within_any (a b : Rt) (w : World) :
    Calls Try.prog 70 #[rv a, rv b] w fun e w' => e = .returned (.bool (insideB a b)) ∧ Below w.heap.size w w' := by
  by_cases c0 : b.l ≤ a.l
  · by_cases c1 : b.o ≤ a.o
    · by_cases c2 : a.r ≤ b.r
      · by_cases c3 : a.h ≤ b.h
        · have H : Hid (insideB a b = true) := Lib.hid (insideB_iff.2 (by omega))
          go_enter Try.func70, Try.ntmps70
          go_wp2
          go_ret
          exact ⟨ret_bool (by rw [H.out]), by (repeat (first | exact Below.refl _ _ | assumption | refine Below.alloc ?_ (by (first | exact Nat.le_refl _ | (simp; done) | omega | (simp; omega))) _ | refine Below.setCell ?_ (by (first | exact Nat.le_refl _ | (simp; done) | omega | (simp; omega))) _ | refine Below.drew ?_ | refine Below.trans ?_ (Below.mono (by assumption) (by (first | exact Nat.le_refl _ | (simp; done) | omega | (simp; omega))))))⟩
        · have H : Hid (insideB a b = false) := Lib.hid (insideB_no (by omega))
          go_enter Try.func70, Try.ntmps70
          go_wp2
          go_ret
          exact ⟨ret_bool (by rw [H.out]), by (repeat (first | exact Below.refl _ _ | assumption | refine Below.alloc ?_ (by (first | exact Nat.le_refl _ | (simp; done) | omega | (simp; omega))) _ | refine Below.setCell ?_ (by (first | exact Nat.le_refl _ | (simp; done) | omega | (simp; omega))) _ | refine Below.drew ?_ | refine Below.trans ?_ (Below.mono (by assumption) (by (first | exact Nat.le_refl _ | (simp; done) | omega | (simp; omega))))))⟩
      · have H : Hid (insideB a b = false) := Lib.hid (insideB_no (by omega))
        go_enter Try.func70, Try.ntmps70
        go_wp2
        go_ret
        exact ⟨ret_bool (by rw [H.out]), by (repeat (first | exact Below.refl _ _ | assumption | refine Below.alloc ?_ (by (first | exact Nat.le_refl _ | (simp; done) | omega | (simp; omega))) _ | refine Below.setCell ?_ (by (first | exact Nat.le_refl _ | (simp; done) | omega | (simp; omega))) _ | refine Below.drew ?_ | refine Below.trans ?_ (Below.mono (by assumption) (by (first | exact Nat.le_refl _ | (simp; done) | omega | (simp; omega))))))⟩
    · have H : Hid (insideB a b = false) := Lib.hid (insideB_no (by omega))
      go_enter Try.func70, Try.ntmps70
      go_wp2
      go_ret
      exact ⟨ret_bool (by rw [H.out]), by (repeat (first | exact Below.refl _ _ | assumption | refine Below.alloc ?_ (by (first | exact Nat.le_refl _ | (simp; done) | omega | (simp; omega))) _ | refine Below.setCell ?_ (by (first | exact Nat.le_refl _ | (simp; done) | omega | (simp; omega))) _ | refine Below.drew ?_ | refine Below.trans ?_ (Below.mono (by assumption) (by (first | exact Nat.le_refl _ | (simp; done) | omega | (simp; omega))))))⟩
  · have H : Hid (insideB a b = false) := Lib.hid (insideB_no (by omega))
    go_enter Try.func70, Try.ntmps70
    go_wp2
    go_ret
    exact ⟨ret_bool (by rw [H.out]), by (repeat (first | exact Below.refl _ _ | assumption | refine Below.alloc ?_ (by (first | exact Nat.le_refl _ | (simp; done) | omega | (simp; omega))) _ | refine Below.setCell ?_ (by (first | exact Nat.le_refl _ | (simp; done) | omega | (simp; omega))) _ | refine Below.drew ?_ | refine Below.trans ?_ (Below.mono (by assumption) (by (first | exact Nat.le_refl _ | (simp; done) | omega | (simp; omega))))))⟩

end Go.Proofs.Ythbmiibbnbbdgaa
