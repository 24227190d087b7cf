
/- Chapter 1: contracts, third part: moving; what the laws call besides. -/
import Derived.Test.YthbmiibbnbbdgaaRectB
namespace Go.Proofs.Ythbmiibbnbbdgaa
open Go.RowKit Go.Sort
set_option linter.unusedVariables false
theorem stepB_iff {x : Int} : stepB x = true ↔ -20 ≤ x ∧ x ≤ 20 := by unfold stepB; simp
theorem stepB_no {x : Int} (h : ¬ (-20 ≤ x ∧ x ≤ 20)) : stepB x = false := by unfold stepB; simpa using h

def inB (n lo hi : Int) : Bool := decide (lo ≤ n ∧ n ≤ hi)
theorem inB_iff {n lo hi : Int} : inB n lo hi = true ↔ lo ≤ n ∧ n ≤ hi := by unfold inB; simp
theorem inB_no {n lo hi : Int} (h : ¬ (lo ≤ n ∧ n ≤ hi)) : inB n lo hi = false := by unfold inB; simpa using h
theorem inB_step (x : Int) : inB x (-20) 20 = stepB x := rfl

set_option maxHeartbeats 400000 in
theorem in_any (n lo hi : Int) (w : World) :
    Calls Try.prog 65 #[.int .i64 n, .int .i64 lo, .int .i64 hi] w fun e w' => e = .returned (.bool (inB n lo hi)) ∧ w = w' := by
  by_cases h1 : lo ≤ n
  · by_cases h2 : n ≤ hi
    · have H : Hid (inB n lo hi = true) := Lib.hid (inB_iff.2 ⟨h1, h2⟩)
      go_enter Try.func65, Try.ntmps65
      go_wp2
      go_ret
      exact ⟨ret_bool (by rw [H.out]), rfl⟩
    · have H : Hid (inB n lo hi = false) := Lib.hid (inB_no (by omega))
      go_enter Try.func65, Try.ntmps65
      go_wp2
      go_ret
      exact ⟨ret_bool (by rw [H.out]), rfl⟩
  · have H : Hid (inB n lo hi = false) := Lib.hid (inB_no (by omega))
    go_enter Try.func65, Try.ntmps65
    go_wp2
    go_ret
    exact ⟨ret_bool (by rw [H.out]), rfl⟩

set_option maxHeartbeats 400000 in
theorem torect_any (a : Rt) (w : World) :
    Calls Try.prog 28 #[rv a] w fun e w' => e = .returned (rv a) ∧ Below w.heap.size w w' := by
  go_enter Try.func28, Try.ntmps28
  go_wp2
  refine bodyPost_ret (v := rv a) (by simp [results, Try.results28, go_sem, *]) rfl ⟨?_, ?_⟩
  · rfl
  · (repeat (first | exact Below.refl _ _ | assumption | refine Below.alloc ?_ (by (first | exact Nat.le_refl _ | (simp; done) | omega | (simp; omega))) _ | refine Below.setCell ?_ (by (first | exact Nat.le_refl _ | (simp; done) | omega | (simp; omega))) _ | refine Below.drew ?_ | refine Below.trans ?_ (Below.mono (by assumption) (by (first | exact Nat.le_refl _ | (simp; done) | omega | (simp; omega))))))

set_option maxHeartbeats 400000 in
theorem eqrect_same (a : Rt) (w : World) :
    Calls Try.prog 52 #[rv a, rv a] w fun e w' => e = .returned (.bool true) ∧ Below w.heap.size w w' := by
  go_enter Try.func52, Try.ntmps52
  go_wp2
  go_ret
  exact ⟨rfl, by (repeat (first | exact Below.refl _ _ | assumption | refine Below.alloc ?_ (by (first | exact Nat.le_refl _ | (simp; done) | omega | (simp; omega))) _ | refine Below.setCell ?_ (by (first | exact Nat.le_refl _ | (simp; done) | omega | (simp; omega))) _ | refine Below.drew ?_ | refine Below.trans ?_ (Below.mono (by assumption) (by (first | exact Nat.le_refl _ | (simp; done) | omega | (simp; omega))))))⟩

set_option maxHeartbeats 400000 in
theorem alive_any (w : World) :
    Calls Try.prog 14 #[] w fun e w' => e = .returned (.bool true) ∧ Below w.heap.size w w' := by
  have o1 : okB ⟨0, 0, 1, 1⟩ = true := by decide
  have o2 : okB Rt.zero = false := by decide
  go_enter Try.func14, Try.ntmps14
  go_wp2_with fail
  refine (iok_any ⟨0, 0, 1, 1⟩ _).mono ?_; rintro e w1 ⟨rfl, hb1⟩; have hz1 := hb1.size; (try simp at hz1)
  go_wp2_with fail
  refine (iok_any Rt.zero _).mono ?_; rintro e w2 ⟨rfl, hb2⟩; have hz2 := hb2.size; (try simp at hz2)
  go_wp2
  go_ret
  exact ⟨rfl, by (repeat (first | exact Below.refl _ _ | assumption | refine Below.alloc ?_ (by (first | exact Nat.le_refl _ | (simp; done) | omega | (simp; omega))) _ | refine Below.setCell ?_ (by (first | exact Nat.le_refl _ | (simp; done) | omega | (simp; omega))) _ | refine Below.drew ?_ | refine Below.trans ?_ (Below.mono (by assumption) (by (first | exact Nat.le_refl _ | (simp; done) | omega | (simp; omega))))))⟩
end Go.Proofs.Ythbmiibbnbbdgaa
