
/- Chapter 1: contracts, second part. -/
import Derived.Test.YtipnldbdlimnhaaRect
namespace Go.Proofs.Ytipnldbdlimnhaa
open Go.RowKit Go.Sort
set_option linter.unusedVariables false

theorem insideB_iff {a b : Rt} : insideB a b = true ↔ b.l ≤ a.l ∧ b.o ≤ a.o ∧ a.r ≤ b.r ∧ a.h ≤ b.h := by unfold insideB; simp
theorem insideB_no {a b : Rt} (h : ¬ (b.l ≤ a.l ∧ b.o ≤ a.o ∧ a.r ≤ b.r ∧ a.h ≤ b.h)) : insideB a b = false := by unfold insideB; simpa using h
set_option maxHeartbeats 1600000 in
theorem within_any (a b : Rt) (w : World) :
    Calls Try.prog 58 #[rv a, rv b] w fun e w' => e = .returned (.bool (insideB a b)) ∧ Below w.heap.size w w' := by
  by_cases c0 : b.l ≤ a.l
  · by_cases c1 : b.o ≤ a.o
    · by_cases c2 : a.r ≤ b.r
      · by_cases c3 : a.h ≤ b.h
        · have H : Hid (insideB a b = true) := Lib.hid (insideB_iff.2 (by omega))
          go_enter Try.func58, Try.ntmps58
          go_wp2
          go_ret
          exact ⟨ret_bool (by rw [H.out]), by (repeat (first | exact Below.refl _ _ | assumption | refine Below.alloc ?_ (by (first | exact Nat.le_refl _ | (simp; done) | omega | (simp; omega))) _ | refine Below.setCell ?_ (by (first | exact Nat.le_refl _ | (simp; done) | omega | (simp; omega))) _ | refine Below.drew ?_ | refine Below.trans ?_ (Below.mono (by assumption) (by (first | exact Nat.le_refl _ | (simp; done) | omega | (simp; omega))))))⟩
        · have H : Hid (insideB a b = false) := Lib.hid (insideB_no (by omega))
          go_enter Try.func58, Try.ntmps58
          go_wp2
          go_ret
          exact ⟨ret_bool (by rw [H.out]), by (repeat (first | exact Below.refl _ _ | assumption | refine Below.alloc ?_ (by (first | exact Nat.le_refl _ | (simp; done) | omega | (simp; omega))) _ | refine Below.setCell ?_ (by (first | exact Nat.le_refl _ | (simp; done) | omega | (simp; omega))) _ | refine Below.drew ?_ | refine Below.trans ?_ (Below.mono (by assumption) (by (first | exact Nat.le_refl _ | (simp; done) | omega | (simp; omega))))))⟩
      · have H : Hid (insideB a b = false) := Lib.hid (insideB_no (by omega))
        go_enter Try.func58, Try.ntmps58
        go_wp2
        go_ret
        exact ⟨ret_bool (by rw [H.out]), by (repeat (first | exact Below.refl _ _ | assumption | refine Below.alloc ?_ (by (first | exact Nat.le_refl _ | (simp; done) | omega | (simp; omega))) _ | refine Below.setCell ?_ (by (first | exact Nat.le_refl _ | (simp; done) | omega | (simp; omega))) _ | refine Below.drew ?_ | refine Below.trans ?_ (Below.mono (by assumption) (by (first | exact Nat.le_refl _ | (simp; done) | omega | (simp; omega))))))⟩
    · have H : Hid (insideB a b = false) := Lib.hid (insideB_no (by omega))
      go_enter Try.func58, Try.ntmps58
      go_wp2
      go_ret
      exact ⟨ret_bool (by rw [H.out]), by (repeat (first | exact Below.refl _ _ | assumption | refine Below.alloc ?_ (by (first | exact Nat.le_refl _ | (simp; done) | omega | (simp; omega))) _ | refine Below.setCell ?_ (by (first | exact Nat.le_refl _ | (simp; done) | omega | (simp; omega))) _ | refine Below.drew ?_ | refine Below.trans ?_ (Below.mono (by assumption) (by (first | exact Nat.le_refl _ | (simp; done) | omega | (simp; omega))))))⟩
  · have H : Hid (insideB a b = false) := Lib.hid (insideB_no (by omega))
    go_enter Try.func58, Try.ntmps58
    go_wp2
    go_ret
    exact ⟨ret_bool (by rw [H.out]), by (repeat (first | exact Below.refl _ _ | assumption | refine Below.alloc ?_ (by (first | exact Nat.le_refl _ | (simp; done) | omega | (simp; omega))) _ | refine Below.setCell ?_ (by (first | exact Nat.le_refl _ | (simp; done) | omega | (simp; omega))) _ | refine Below.drew ?_ | refine Below.trans ?_ (Below.mono (by assumption) (by (first | exact Nat.le_refl _ | (simp; done) | omega | (simp; omega))))))⟩

set_option maxHeartbeats 400000 in
theorem iwi_any (a b : Rt) (w : World) :
    Calls Try.prog 25 #[rv a, rv b] w fun e w' => e = .returned (.bool (wiB a b)) ∧ Below w.heap.size w w' := by
  cases h0 : bothB a b
  · have H : Hid (wiB a b = false) := Lib.hid (by unfold wiB; rw [h0]; rfl)
    go_enter Try.func25, Try.ntmps25
    go_wp2_with fail
    refine (both_any _ _ _).mono ?_; rintro e w1 ⟨rfl, hb1⟩; have hz1 := hb1.size; (try simp at hz1)
    go_wp2
    go_ret
    exact ⟨ret_bool (by rw [H.out]), by (repeat (first | exact Below.refl _ _ | assumption | refine Below.alloc ?_ (by (first | exact Nat.le_refl _ | (simp; done) | omega | (simp; omega))) _ | refine Below.setCell ?_ (by (first | exact Nat.le_refl _ | (simp; done) | omega | (simp; omega))) _ | refine Below.drew ?_ | refine Below.trans ?_ (Below.mono (by assumption) (by (first | exact Nat.le_refl _ | (simp; done) | omega | (simp; omega))))))⟩
  · have H : Hid (wiB a b = insideB a b) := Lib.hid (by unfold wiB; rw [h0]; rfl)
    go_enter Try.func25, Try.ntmps25
    go_wp2_with fail
    refine (both_any _ _ _).mono ?_; rintro e w1 ⟨rfl, hb1⟩; have hz1 := hb1.size; (try simp at hz1); have _ : w.heap.size < w1.heap.size := (by first | (simp; done) | omega | (simp; omega)); have _ : w.heap.size + 1 < w1.heap.size := (by first | (simp; done) | omega | (simp; omega)); have _ := fun o => hb1.cell (p := ⟨w.heap.size, o, none⟩) (by first | (simp; done) | omega | (simp; omega)); have _ := fun o => hb1.cell (p := ⟨w.heap.size + 1, o, none⟩) (by first | (simp; done) | omega | (simp; omega))
    go_wp2_with fail
    refine (within_any _ _ _).mono ?_; rintro e w2 ⟨rfl, hb2⟩; have hz2 := hb2.size; (try simp at hz2)
    go_wp2
    go_ret
    exact ⟨ret_bool (by rw [H.out]), by (repeat (first | exact Below.refl _ _ | assumption | refine Below.alloc ?_ (by (first | exact Nat.le_refl _ | (simp; done) | omega | (simp; omega))) _ | refine Below.setCell ?_ (by (first | exact Nat.le_refl _ | (simp; done) | omega | (simp; omega))) _ | refine Below.drew ?_ | refine Below.trans ?_ (Below.mono (by assumption) (by (first | exact Nat.le_refl _ | (simp; done) | omega | (simp; omega))))))⟩

end Go.Proofs.Ytipnldbdlimnhaa
