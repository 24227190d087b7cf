
/- The law of LaidOk: its walk. -/
import Derived.Test.YtipnldbdlimnhaaLaid2
import Derived.Test.YtipnldbdlimnhaaRectC
namespace Go.Proofs.Ytipnldbdlimnhaa
open Go.RowKit Go.Sort Go.BigFrame
set_option linter.unusedVariables false
theorem Rs.one (w : World) (r : Rt) (g : Nat) (hg : w.heap.size = g) : Rs (w.alloc (.cells #[.int .i64 r.l, .int .i64 r.o, .int .i64 r.r, .int .i64 r.h] 27)) (some ⟨g, 0, none⟩) 1 (fun _ => r) := by
  subst hg
  refine Or.inr ⟨w.heap.size, 0, rfl, by simp, fun i hi => ?_⟩
  obtain rfl : i = 0 := by omega
  refine ⟨?_, ?_, ?_, ?_⟩ <;> go_simp
theorem laidF_less {f : Nat → Rt} {n m : Nat} (h : laidF f n = true) (hm : m ≤ n) : laidF f m = true := by
  obtain ⟨h7, hok⟩ := laidF_ok h
  have : ∀ k, k ≤ n → okTo f k = true := by
    intro k
    induction k with
    | zero => intro _; rfl
    | succ k ih => intro hk; simp only [okTo]; rw [ih (by omega), okTo_le hok (by omega)]; rfl
  unfold laidF
  rw [this m hm, show decide (m ≤ 7) = true by simp; omega]
  rfl

set_option maxHeartbeats 1000000 in
theorem walkLaidOk (a : Option Addr) (len cap : Nat) (w : World) (hc : Came w a len cap) :
    Calls Try.prog 3 #[.slice a len cap] w fun e w' => e = .returned (.bool true) ∧ Below w.heap.size w w' := by
  have hm := hc.len_le
  by_cases hl : 1048576 < len
  · go_enter Try.func3, Try.ntmps3
    go_wp2
    go_ret
    exact ⟨rfl, Below.refl _ _⟩
  · go_enter Try.func3, Try.ntmps3
    go_wp2_with fail
    refine (dLaidOk _ _ _ _ hc).mono ?_; rintro e w1 hp; have HP1 := Lib.hid hp; clear hp; obtain ⟨A, m, lcap, g, f, rfl, hm8, ho1, hg1, hh1, hb1⟩ := HP1.out; have hz1 := hb1.size; (try simp at hz1); have HO1 := Lib.hid ho1; have HH1 := Lib.hid hh1; clear ho1 hh1; have hmm : m ≤ maxLen := (by unfold maxLen; omega); have Hmm := Lib.hid hmm; clear hmm
    cases hL : laidF f m
    · go_wp2_with fail
      refine (ilaid_val A m lcap f false hL _ Hmm.out HO1.out.rs).mono ?_; rintro e w2 ⟨rfl, hb2⟩; have hz2 := hb2.size; (try simp at hz2); have HO2 := Lib.hid (HO1.out.below hb2)
      go_wp2_with fail
      refine (slaid_val A m lcap f false hL _ Hmm.out HO2.out.rs).mono ?_; rintro e w3 ⟨rfl, hb3⟩; have hz3 := hb3.size; (try simp at hz3); have HO3 := Lib.hid (HO2.out.below hb3)
      go_wp2_with fail
      refine (ilaid_val _ 0 0 (fun _ => oneR) true rfl _ (Nat.zero_le _) (Or.inl rfl)).mono ?_; rintro e w4 ⟨rfl, hb4⟩; have hz4 := hb4.size; (try simp at hz4); have HO4 := Lib.hid ((HO3.out.below ((Below.refl _ _).alloc (Nat.le_refl _) _)).below hb4)
      go_wp2_with fail
      refine (ilaid_val _ 1 1 (fun _ => oneR) true rfl _ (by unfold maxLen; omega) (Rs.one _ oneR _ rfl)).mono ?_; rintro e w5 ⟨rfl, hb5⟩; have hz5 := hb5.size; (try simp at hz5); have HO5 := Lib.hid ((HO4.out.below ((Below.refl _ _).alloc (Nat.le_refl _) _)).below hb5)
      go_wp2_with fail
      refine (alive_any _).mono ?_; rintro e w6 ⟨rfl, hb6⟩; have hz6 := hb6.size; (try simp at hz6)
      go_wp2
      go_ret
      exact ⟨rfl, by (repeat (first | with_reducible exact Below.refl _ _ | with_reducible assumption | ((with_reducible refine Below.alloc ?_ ?_ _); rotate_left; focus (first | with_reducible exact Nat.le_refl _ | omega | (simp; done) | (simp; omega))) | ((with_reducible refine Below.setCell ?_ ?_ _); rotate_left; focus (first | with_reducible exact Nat.le_refl _ | omega | (simp; done) | (simp; omega))) | (with_reducible refine Below.drew ?_) | ((with_reducible refine Below.trans ?_ (Below.mono (by with_reducible assumption) ?_)); rotate_left; focus (first | with_reducible exact Nat.le_refl _ | omega | (simp; done) | (simp; omega)))))⟩
    · by_cases hm0 : m = 0
      · subst hm0
        go_wp2_with fail
        refine (ilaid_val A 0 lcap f true hL _ Hmm.out HO1.out.rs).mono ?_; rintro e w2 ⟨rfl, hb2⟩; have hz2 := hb2.size; (try simp at hz2); have HO2 := Lib.hid (HO1.out.below hb2)
        go_wp2_with fail
        refine (slaid_val A 0 lcap f true hL _ Hmm.out HO2.out.rs).mono ?_; rintro e w3 ⟨rfl, hb3⟩; have hz3 := hb3.size; (try simp at hz3); have HO3 := Lib.hid (HO2.out.below hb3)
        go_wp2_with fail
        refine (ilaid_val _ 0 0 (fun _ => oneR) true rfl _ (Nat.zero_le _) (Or.inl rfl)).mono ?_; rintro e w4 ⟨rfl, hb4⟩; have hz4 := hb4.size; (try simp at hz4); have HO4 := Lib.hid ((HO3.out.below ((Below.refl _ _).alloc (Nat.le_refl _) _)).below hb4)
        go_wp2_with fail
        refine (ilaid_val _ 1 1 (fun _ => oneR) true rfl _ (by unfold maxLen; omega) (Rs.one _ oneR _ rfl)).mono ?_; rintro e w5 ⟨rfl, hb5⟩; have hz5 := hb5.size; (try simp at hz5); have HO5 := Lib.hid ((HO4.out.below ((Below.refl _ _).alloc (Nat.le_refl _) _)).below hb5)
        go_wp2_with fail
        refine (alive_any _).mono ?_; rintro e w6 ⟨rfl, hb6⟩; have hz6 := hb6.size; (try simp at hz6)
        go_wp2
        go_ret
        exact ⟨rfl, by (repeat (first | with_reducible exact Below.refl _ _ | with_reducible assumption | ((with_reducible refine Below.alloc ?_ ?_ _); rotate_left; focus (first | with_reducible exact Nat.le_refl _ | omega | (simp; done) | (simp; omega))) | ((with_reducible refine Below.setCell ?_ ?_ _); rotate_left; focus (first | with_reducible exact Nat.le_refl _ | omega | (simp; done) | (simp; omega))) | (with_reducible refine Below.drew ?_) | ((with_reducible refine Below.trans ?_ (Below.mono (by with_reducible assumption) ?_)); rotate_left; focus (first | with_reducible exact Nat.le_refl _ | omega | (simp; done) | (simp; omega)))))⟩
      · have hcap := HH1.out.1
        have hn0 : ((m : Int) == 0) = false := by simp; omega
        have ht : ((m : Int) - 1).toNat = m - 1 := by omega
        have hL1 := laidF_less hL (by omega : m - 1 ≤ m)
        go_wp2_with fail
        refine (ilaid_val A m lcap f true hL _ Hmm.out HO1.out.rs).mono ?_; rintro e w2 ⟨rfl, hb2⟩; have hz2 := hb2.size; (try simp at hz2); have HO2 := Lib.hid (HO1.out.below hb2)
        go_wp2_with fail
        refine (slaid_val A m lcap f true hL _ Hmm.out HO2.out.rs).mono ?_; rintro e w3 ⟨rfl, hb3⟩; have hz3 := hb3.size; (try simp at hz3); have HO3 := Lib.hid (HO2.out.below hb3)
        go_wp2_with fail
        refine (ilaid_val _ 0 0 (fun _ => oneR) true rfl _ (Nat.zero_le _) (Or.inl rfl)).mono ?_; rintro e w4 ⟨rfl, hb4⟩; have hz4 := hb4.size; (try simp at hz4); have HO4 := Lib.hid ((HO3.out.below ((Below.refl _ _).alloc (Nat.le_refl _) _)).below hb4)
        go_wp2_with fail
        refine (ilaid_val _ 1 1 (fun _ => oneR) true rfl _ (by unfold maxLen; omega) (Rs.one _ oneR _ rfl)).mono ?_; rintro e w5 ⟨rfl, hb5⟩; have hz5 := hb5.size; (try simp at hz5); have HO5 := Lib.hid ((HO4.out.below ((Below.refl _ _).alloc (Nat.le_refl _) _)).below hb5)
        go_wp2_with fail
        refine (ilaid_val A (m - 1) lcap f true hL1 _ (by unfold maxLen; omega) (HO5.out.less (by omega)).rs).mono ?_; rintro e w6 ⟨rfl, hb6⟩; have hz6 := hb6.size; (try simp at hz6)
        go_wp2_with fail
        refine (alive_any _).mono ?_; rintro e w7 ⟨rfl, hb7⟩; have hz7 := hb7.size; (try simp at hz7)
        go_wp2
        go_ret
        exact ⟨rfl, by (repeat (first | with_reducible exact Below.refl _ _ | with_reducible assumption | ((with_reducible refine Below.alloc ?_ ?_ _); rotate_left; focus (first | with_reducible exact Nat.le_refl _ | omega | (simp; done) | (simp; omega))) | ((with_reducible refine Below.setCell ?_ ?_ _); rotate_left; focus (first | with_reducible exact Nat.le_refl _ | omega | (simp; done) | (simp; omega))) | (with_reducible refine Below.drew ?_) | ((with_reducible refine Below.trans ?_ (Below.mono (by with_reducible assumption) ?_)); rotate_left; focus (first | with_reducible exact Nat.le_refl _ | omega | (simp; done) | (simp; omega)))))⟩
end Go.Proofs.Ytipnldbdlimnhaa
