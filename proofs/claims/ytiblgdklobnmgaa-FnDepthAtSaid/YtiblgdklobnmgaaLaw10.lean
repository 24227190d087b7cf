
/- The laws of DepthAt and DepthsOf: their walks. -/
import Derived.Test.YtiblgdklobnmgaaLaid3
import Derived.Test.YtiblgdklobnmgaaRectC
namespace Go.Proofs.Ytiblgdklobnmgaa
open Go.RowKit Go.Sort Go.BigFrame
set_option linter.unusedVariables false
def cellR (x y : Int) : Rt := ⟨x, y, x + 1, y + 1⟩
/-- What the law of DepthAt says. -/
theorem depth_law {f : Nat → Rt} {m : Nat} {x y : Int} (h : daF f m x y ≠ -1) : 0 ≤ daF f m x y ∧ daF f m x y ≤ m ∧ m ≤ 7 ∧ (woB f m (cellR x y) = true → daF (withF f m (cellR x y)) (m + 1) x y = daF f m x y + 1) := by
  have hc : (laidF f m && (inB x 0 19 && inB y 0 19)) = true := by
    cases hq : (laidF f m && (inB x 0 19 && inB y 0 19))
    · exfalso; apply h; unfold daF; rw [hq]; rfl
    · rfl
  have e : daF f m x y = depF f x y m := by unfold daF; rw [hc]; rfl
  rw [e]
  have hb := depF_bd f x y m
  have hc2 := hc
  rw [Bool.and_eq_true, Bool.and_eq_true] at hc2
  refine ⟨hb.1, hb.2, (laidF_ok hc2.1).1, fun hw => ?_⟩
  unfold woB at hw
  unfold daF
  rw [hw, hc2.2.1, hc2.2.2]
  simp only [Bool.and_self, if_true]
  rw [depF_with, show hasB (cellR x y) x y = true from hasB_iff.2 (by unfold cellR; dsimp only; omega)]
  rfl

set_option maxHeartbeats 4000000 in
theorem walkDepthAt (a : Option Addr) (len cap : Nat) (w : World) (hc : Came w a len cap) :
    Calls Try.prog 3 #[.slice a len cap] w fun e w' => e = .returned (.bool true) ∧ Below w.heap.size w w' := by
  have hm := hc.len_le
  by_cases hl : 1048576 < len
  · go_enter Try.func3, Try.ntmps3
    go_wp2
    go_ret
    exact ⟨rfl, Below.refl _ _⟩
  · go_enter Try.func3, Try.ntmps3
    go_wp2_with fail
    refine (dDepthAt _ _ _ _ hc).mono ?_; rintro e w1 hp; have HP1 := Lib.hid hp; clear hp; obtain ⟨A, m, lcap, g, f, x, y, rfl, hm8, bx, b_y, ho1, hg1, hh1, hb1⟩ := HP1.out; have hz1 := hb1.size; (try simp at hz1); have HO1 := Lib.hid ho1; have HH1 := Lib.hid hh1; clear ho1 hh1; have hmm : m ≤ maxLen := (by unfold maxLen; omega); have Hmm := Lib.hid hmm; clear hmm
    by_cases hD : daF f m x y = -1
    · have HD := Lib.hid hD
      clear hD
      go_wp2_with fail
      refine (ida_val A m lcap f x y (-1) HD.out _ Hmm.out HO1.out.rs).mono ?_; rintro e w2 ⟨rfl, hb2⟩; have hz2 := hb2.size; (try simp at hz2); have HO2 := Lib.hid (HO1.out.below hb2)
      go_wp2_with fail
      refine (sda_val A m lcap f x y (-1) HD.out _ Hmm.out HO2.out.rs).mono ?_; rintro e w3 ⟨rfl, hb3⟩; have hz3 := hb3.size; (try simp at hz3); have HO3 := Lib.hid (HO2.out.below hb3)
      go_wp2_with fail
      refine (alive_any _).mono ?_; rintro e w4 ⟨rfl, hb4⟩; have hz4 := hb4.size; (try simp at hz4)
      go_wp2
      go_ret
      exact ⟨rfl, by (repeat (first | with_reducible exact Below.refl _ _ | with_reducible assumption | ((with_reducible refine Below.alloc ?_ ?_ _); rotate_left; focus (first | with_reducible exact Nat.le_refl _ | omega | (simp; done) | (simp; omega))) | ((with_reducible refine Below.setCell ?_ ?_ _); rotate_left; focus (first | with_reducible exact Nat.le_refl _ | omega | (simp; done) | (simp; omega))) | (with_reducible refine Below.drew ?_) | ((with_reducible refine Below.trans ?_ (Below.mono (by with_reducible assumption) ?_)); rotate_left; focus (first | with_reducible exact Nat.le_refl _ | omega | (simp; done) | (simp; omega)))))⟩
    · obtain ⟨d1, d2, d3, d4⟩ := depth_law hD
      generalize hDD : daF f m x y = D at d1 d2 d4 hD
      have HD := Lib.hid hDD
      have D4 := Lib.hid d4
      clear hDD d4 hD
      cases hB : woB f m (cellR x y)
      · have HM : Hid (cntF (woB f m (cellR x y)) (m + 1) = 0) := Lib.hid (by rw [hB]; rfl)
        go_wp2_with fail
        refine (ida_val A m lcap f x y D HD.out _ Hmm.out HO1.out.rs).mono ?_; rintro e w2 ⟨rfl, hb2⟩; have hz2 := hb2.size; (try simp at hz2); have HO2 := Lib.hid (HO1.out.below hb2)
        go_wp2_with fail
        refine (sda_val A m lcap f x y D HD.out _ Hmm.out HO2.out.rs).mono ?_; rintro e w3 ⟨rfl, hb3⟩; have hz3 := hb3.size; (try simp at hz3); have HO3 := Lib.hid (HO2.out.below hb3)
        go_wp2_with fail
        refine (iwo_v3 A m lcap f (cellR x y) 0 false HM.out hB _ Hmm.out HO3.out.rs HH1.out).mono ?_; rintro e w4 hp; have HP4 := Lib.hid hp; clear hp; obtain ⟨A4, c4, g4, rfl, ho4, hg4, _, hb4⟩ := HP4.out; have hz4 := hb4.size; (try simp at hz4); have O4 := Lib.hid ho4; clear ho4
        go_wp2_with fail
        refine (alive_any _).mono ?_; rintro e w5 ⟨rfl, hb5⟩; have hz5 := hb5.size; (try simp at hz5)
        go_wp2
        go_ret
        exact ⟨rfl, by (repeat (first | with_reducible exact Below.refl _ _ | with_reducible assumption | ((with_reducible refine Below.alloc ?_ ?_ _); rotate_left; focus (first | with_reducible exact Nat.le_refl _ | omega | (simp; done) | (simp; omega))) | ((with_reducible refine Below.setCell ?_ ?_ _); rotate_left; focus (first | with_reducible exact Nat.le_refl _ | omega | (simp; done) | (simp; omega))) | (with_reducible refine Below.drew ?_) | ((with_reducible refine Below.trans ?_ (Below.mono (by with_reducible assumption) ?_)); rotate_left; focus (first | with_reducible exact Nat.le_refl _ | omega | (simp; done) | (simp; omega)))))⟩
      · have HM : Hid (cntF (woB f m (cellR x y)) (m + 1) = m + 1) := Lib.hid (by rw [hB]; rfl)
        have hE := D4.out hB
        have HE := Lib.hid hE
        clear hE
        go_wp2_with fail
        refine (ida_val A m lcap f x y D HD.out _ Hmm.out HO1.out.rs).mono ?_; rintro e w2 ⟨rfl, hb2⟩; have hz2 := hb2.size; (try simp at hz2); have HO2 := Lib.hid (HO1.out.below hb2)
        go_wp2_with fail
        refine (sda_val A m lcap f x y D HD.out _ Hmm.out HO2.out.rs).mono ?_; rintro e w3 ⟨rfl, hb3⟩; have hz3 := hb3.size; (try simp at hz3); have HO3 := Lib.hid (HO2.out.below hb3)
        go_wp2_with fail
        refine (iwo_v3 A m lcap f (cellR x y) (m + 1) true HM.out hB _ Hmm.out HO3.out.rs HH1.out).mono ?_; rintro e w4 hp; have HP4 := Lib.hid hp; clear hp; obtain ⟨A4, c4, g4, rfl, ho4, hg4, _, hb4⟩ := HP4.out; have hz4 := hb4.size; (try simp at hz4); have O4 := Lib.hid ho4; clear ho4
        go_wp2_with fail
        refine (ida_val A4 (m + 1) c4 (withF f m (cellR x y)) x y (D + 1) HE.out _ (by unfold maxLen; omega) O4.out.rs).mono ?_; rintro e w5 ⟨rfl, hb5⟩; have hz5 := hb5.size; (try simp at hz5)
        go_wp2_with fail
        refine (alive_any _).mono ?_; rintro e w6 ⟨rfl, hb6⟩; have hz6 := hb6.size; (try simp at hz6)
        go_wp2
        go_ret
        exact ⟨rfl, by (repeat (first | with_reducible exact Below.refl _ _ | with_reducible assumption | ((with_reducible refine Below.alloc ?_ ?_ _); rotate_left; focus (first | with_reducible exact Nat.le_refl _ | omega | (simp; done) | (simp; omega))) | ((with_reducible refine Below.setCell ?_ ?_ _); rotate_left; focus (first | with_reducible exact Nat.le_refl _ | omega | (simp; done) | (simp; omega))) | (with_reducible refine Below.drew ?_) | ((with_reducible refine Below.trans ?_ (Below.mono (by with_reducible assumption) ?_)); rotate_left; focus (first | with_reducible exact Nat.le_refl _ | omega | (simp; done) | (simp; omega)))))⟩

def sumH (f : Nat → Rt) (m k : Nat) : Int := sumN k (fun d => histF f m d)
def sumW (f : Nat → Rt) (m k : Nat) : Int := sumN k (fun d => (d : Int) * histF f m d)
theorem sumH_bd (f : Nat → Rt) (m k : Nat) : 0 ≤ sumH f m k ∧ sumH f m k ≤ 400 * k := by
  unfold sumH
  induction k with
  | zero => simp [sumN]
  | succ k ih => simp only [sumN]; have := histF_bd f m k; omega
theorem mul_hist (f : Nat → Rt) (m k : Nat) (hk : k ≤ 8) : 0 ≤ (k : Int) * histF f m k ∧ (k : Int) * histF f m k ≤ 3200 := by
  have h := histF_bd f m k
  refine ⟨Int.mul_nonneg (by omega) h.1, ?_⟩
  have h1 : (k : Int) * histF f m k ≤ 8 * histF f m k := Int.mul_le_mul_of_nonneg_right (by omega) h.1
  omega
theorem sumW_bd (f : Nat → Rt) (m k : Nat) (hk : k ≤ 9) : 0 ≤ sumW f m k ∧ sumW f m k ≤ 3200 * k := by
  unfold sumW
  induction k with
  | zero => simp [sumN]
  | succ k ih => simp only [sumN]; have := mul_hist f m k (by omega); have := ih (by omega); omega
theorem depths_law {f : Nat → Rt} {m : Nat} (h : laidF f m = true) : sumH f m (m + 1) = 400 ∧ 400 - histF f m 0 = uaF f m ∧ sumW f m (m + 1) = areasF f m :=
  ⟨hist_all f m, by rw [ua_yes3 h, hist_none], hist_weighted f m (fun i hi => okTo_le (laidF_ok h).2 hi)⟩
set_option maxHeartbeats 4000000 in
theorem walkDepthsOf (a : Option Addr) (len cap : Nat) (w : World) (hc : Came w a len cap) :
    Calls Try.prog 4 #[.slice a len cap] w fun e w' => e = .returned (.bool true) ∧ Below w.heap.size w w' := by
  have hm := hc.len_le
  by_cases hl : 1048576 < len
  · go_enter Try.func4, Try.ntmps4
    go_wp2
    go_ret
    exact ⟨rfl, Below.refl _ _⟩
  · go_enter Try.func4, Try.ntmps4
    go_wp2_with fail
    refine (dDepthsOf _ _ _ _ hc).mono ?_; rintro e w1 hp; have HP1 := Lib.hid hp; clear hp; obtain ⟨A, m, lcap, g, f, rfl, hm8, ho1, hg1, hh1, hb1⟩ := HP1.out; have hz1 := hb1.size; (try simp at hz1); have HO1 := Lib.hid ho1; have HH1 := Lib.hid hh1; clear ho1 hh1; have hmm : m ≤ maxLen := (by unfold maxLen; omega); have Hmm := Lib.hid hmm; clear hmm
    cases hL : laidF f m
    · obtain ⟨M, HM0⟩ : ∃ M, M = 0 := ⟨_, rfl⟩
      have HM : Hid (cntF (laidF f m) (m + 1) = M) := Lib.hid (by rw [hL, HM0]; rfl)
      subst HM0
      go_wp2_with fail
      refine (idepths_val A m lcap f 0 HM.out _ Hmm.out HO1.out.rs).mono ?_; rintro e w2 hp; have HP2 := Lib.hid hp; clear hp; obtain ⟨A2, c2, g2, rfl, hi2, hgg2, hb2⟩ := HP2.out; have hz2 := hb2.size; have HI2 := Lib.hid hi2; clear hi2; have HO2 := Lib.hid (HO1.out.below hb2)
      go_wp2_with fail
      refine (sdepths_val A m lcap f 0 HM.out _ Hmm.out HO2.out.rs).mono ?_; rintro e w3 hp; have HP3 := Lib.hid hp; clear hp; obtain ⟨A3, c3, g3, rfl, hi3, hgg3, hb3⟩ := HP3.out; have hz3 := hb3.size; have HI3 := Lib.hid hi3; clear hi3; have HO3 := Lib.hid (HO2.out.below hb3); have HI23 := Lib.hid (HI2.out.below hb3)
      go_wp2_with fail
      refine (sameints_same A2 A3 0 c2 c3 (fun d => histF f m d) _ (by unfold maxLen; omega) HI23.out.is HI3.out.is).mono ?_; rintro e w4 ⟨rfl, hb4⟩; have hz4 := hb4.size; have HO4 := Lib.hid (HO3.out.below hb4)
      go_wp2_with fail
      refine (ilaid_val A m lcap f false hL _ Hmm.out HO4.out.rs).mono ?_; rintro e w5 ⟨rfl, hb5⟩; have hz5 := hb5.size; (try simp at hz5)
      go_wp2_with fail
      refine (alive_any _).mono ?_; rintro e w6 ⟨rfl, hb6⟩; have hz6 := hb6.size; (try simp at hz6)
      go_wp2
      go_ret
      exact ⟨rfl, by (repeat (first | with_reducible exact Below.refl _ _ | with_reducible assumption | ((with_reducible refine Below.alloc ?_ ?_ _); rotate_left; focus (first | with_reducible exact Nat.le_refl _ | omega | (simp; done) | (simp; omega))) | ((with_reducible refine Below.setCell ?_ ?_ _); rotate_left; focus (first | with_reducible exact Nat.le_refl _ | omega | (simp; done) | (simp; omega))) | (with_reducible refine Below.drew ?_) | ((with_reducible refine Below.trans ?_ (Below.mono (by with_reducible assumption) ?_)); rotate_left; focus (first | with_reducible exact Nat.le_refl _ | omega | (simp; done) | (simp; omega)))))⟩
    · obtain ⟨h7, hok⟩ := laidF_ok hL
      have Hok := Lib.hid hok
      clear hok
      obtain ⟨l1, l2, l3⟩ := depths_law hL
      have LW := Lib.hid (And.intro l1 (And.intro l2 l3))
      clear l1 l2 l3
      have HM : Hid (cntF (laidF f m) (m + 1) = m + 1) := Lib.hid (by rw [hL]; rfl)
      go_wp2_with fail
      refine (idepths_val A m lcap f (m + 1) HM.out _ Hmm.out HO1.out.rs).mono ?_; rintro e w2 hp; have HP2 := Lib.hid hp; clear hp; obtain ⟨A2, c2, g2, rfl, hi2, hgg2, hb2⟩ := HP2.out; have hz2 := hb2.size; have HI2 := Lib.hid hi2; clear hi2; have HO2 := Lib.hid (HO1.out.below hb2)
      go_wp2_with fail
      refine (sdepths_val A m lcap f (m + 1) HM.out _ Hmm.out HO2.out.rs).mono ?_; rintro e w3 hp; have HP3 := Lib.hid hp; clear hp; obtain ⟨A3, c3, g3, rfl, hi3, hgg3, hb3⟩ := HP3.out; have hz3 := hb3.size; have HI3 := Lib.hid hi3; clear hi3; have HO3 := Lib.hid (HO2.out.below hb3); have HI23 := Lib.hid (HI2.out.below hb3)
      go_wp2_with fail
      refine (sameints_same A2 A3 (m + 1) c2 c3 (fun d => histF f m d) _ (by unfold maxLen; omega) HI23.out.is HI3.out.is).mono ?_; rintro e w4 ⟨rfl, hb4⟩; have hz4 := hb4.size; have HO4 := Lib.hid (HO3.out.below hb4); have HI4 := Lib.hid (HI23.out.below hb4)
      have HB4 : Hid (Below w.heap.size w w4) := Lib.hid (by (repeat (first | with_reducible exact Below.refl _ _ | with_reducible assumption | ((with_reducible refine Below.alloc ?_ ?_ _); rotate_left; focus (first | with_reducible exact Nat.le_refl _ | omega | (simp; done) | (simp; omega))) | ((with_reducible refine Below.setCell ?_ ?_ _); rotate_left; focus (first | with_reducible exact Nat.le_refl _ | omega | (simp; done) | (simp; omega))) | (with_reducible refine Below.drew ?_) | ((with_reducible refine Below.trans ?_ (Below.mono (by with_reducible assumption) ?_)); rotate_left; focus (first | with_reducible exact Nat.le_refl _ | omega | (simp; done) | (simp; omega))))))
      have hle4 : w.heap.size ≤ w4.heap.size := HB4.out.size
      have hmp : ¬ ((m : Int) + 1 = 0) := by omega
      go_wp2
      go_loop [5, 6, 7] (fun s t i => ∃ k : Nat, k ≤ m + 1 ∧ i = .int .i64 k ∧ s = .int .i64 (sumH f m k) ∧ t = .int .i64 (sumW f m k)) (fun _ _ i => m + 1 - (intOf i).toNat)
      case atStart => exact ⟨0, Nat.zero_le _, rfl, rfl, rfl⟩
      case round =>
        obtain ⟨k, hk, rfl, rfl, rfl⟩ := hrel
        have HS : Hid (sumH f m (k + 1) = sumH f m k + histF f m k ∧ sumW f m (k + 1) = sumW f m k + (k : Int) * histF f m k) := Lib.hid ⟨rfl, rfl⟩
        obtain ⟨sb1, sb2⟩ := sumH_bd f m k
        obtain ⟨wb1, wb2⟩ := sumW_bd f m k (by omega)
        generalize hT1 : sumH f m k = T1 at sb1 sb2
        generalize hT2 : sumW f m k = T2 at wb1 wb2
        have HT1 := Lib.hid hT1
        have HT2 := Lib.hid hT2
        clear hT1 hT2
        by_cases hlt : k < m + 1
        · obtain ⟨b, off, hA2, hbl, c0⟩ := HI4.out.is.at_ hlt
          subst hA2
          obtain ⟨t1, t2⟩ := histF_bd f m k
          obtain ⟨m1, m2⟩ := mul_hist f m k (by omega)
          generalize hV : histF f m k = V at c0 t1 t2 m1 m2
          have HV := Lib.hid hV
          clear hV
          have hkn : (k : Int) < m + 1 := by omega
          go_wp2
          go_round
          case rel => exact ⟨k + 1, by omega, by go_num, by rw [HS.out.1, HT1.out, HV.out], by rw [HS.out.2, HT2.out, HV.out]⟩
          case measure => simp [intOf]; omega
        · obtain rfl : k = m + 1 := by omega
          have e1 : T1 = 400 := by rw [← HT1.out]; exact LW.out.1
          have e2 : T2 = areasF f m := by rw [← HT2.out]; exact LW.out.2.2
          subst e1
          have E2 := Lib.hid e2
          clear e2
          go_wp2
          go_loopw [8, 9] (fun s i wr => ∃ j : Nat, j ≤ m ∧ i = .int .i64 j ∧ s = .int .i64 (areasF f j) ∧ Below w4.heap.size w4 wr) (fun _ i _ => m - (intOf i).toNat)
          case atStart => exact ⟨0, Nat.zero_le _, rfl, rfl, Below.refl _ _⟩
          case round =>
            obtain ⟨j, hj, rfl, rfl, hbr⟩ := hrel
            have hzr := hbr.size
            have HBr := Lib.hid hbr
            have HSa : Hid (areasF f (j + 1) = areasF f j + areaM (f j)) := Lib.hid rfl
            obtain ⟨ab1, ab2⟩ := areasF_bd Hok.out j hj
            generalize hAl : areasF f j = Al at ab1 ab2
            have HAl := Lib.hid hAl
            clear hAl
            by_cases hlt2 : j < m
            · obtain ⟨b', off', hA', hbl', d0, d1, d2, d3⟩ := (HO4.out.below hbr).rs.at_ hlt2
              subst hA'
              have av := area_bd3 (okTo_le Hok.out hlt2)
              obtain ⟨V, hV⟩ : ∃ V, areaM (f j) = V := ⟨_, rfl⟩
              rw [hV] at av
              obtain ⟨av1, av2⟩ := av
              have HV := Lib.hid hV
              clear hV
              go_wp2_with fail
              refine (iarea_v3 (f j) V HV.out _).mono ?_; rintro e w6 ⟨rfl, hb6⟩; have hz6 := hb6.size; (try simp at hz6)
              go_wp2
              go_roundw
              case rel => exact ⟨j + 1, by omega, by go_num, by rw [HSa.out, HAl.out, HV.out], by (repeat (first | with_reducible exact Below.refl _ _ | with_reducible assumption | ((with_reducible refine Below.alloc ?_ ?_ _); rotate_left; focus (first | with_reducible exact Nat.le_refl _ | omega | (simp; done) | (simp; omega))) | ((with_reducible refine Below.setCell ?_ ?_ _); rotate_left; focus (first | with_reducible exact Nat.le_refl _ | omega | (simp; done) | (simp; omega))) | (with_reducible refine Below.drew ?_) | ((with_reducible refine Below.trans ?_ (Below.mono (by with_reducible assumption) ?_)); rotate_left; focus (first | with_reducible exact Nat.le_refl _ | omega | (simp; done) | (simp; omega)))))⟩
              case measure => simp [intOf]; omega
            · obtain rfl : j = m := by omega
              have e3 : T2 = Al := by rw [E2.out, HAl.out]
              subst e3
              obtain ⟨b, off, hA2, hbl, c0⟩ := (HI4.out.below HBr.out).is.at_ (show 0 < j + 1 by omega)
              subst hA2
              simp only [Nat.add_zero] at c0
              have hu := LW.out.2.1
              obtain ⟨t1, t2⟩ := histF_bd f j ((0 : Nat) : Int)
              have hu2 : uaF f j = 400 - histF f j ((0 : Nat) : Int) := hu.symm
              generalize hV : histF f j ((0 : Nat) : Int) = V at c0 t1 t2 hu2
              have HU2 := Lib.hid hu2
              have HOr := Lib.hid (HO4.out.below HBr.out)
              clear hu hu2 hV
              go_wp2_with fail
              have hq : True := trivial; have hq := fun d os o => (below_regrown wr d os).cell (p := ⟨b, o, none⟩) (by first | (simp; done) | omega | (simp; omega)); refine wp_region_quiet_below (by kernel_rfl) (by kernel_rfl) ?_; (repeat (first | go_big_quiet_step (exact Calls.regrown_of (iua_v3 A j lcap f (400 - V) HU2.out _ Hmm.out (HOr.out.below (below_regrown wr _ _)).rs)) | quiet_step (exact Calls.regrown_of (iua_v3 A j lcap f (400 - V) HU2.out _ Hmm.out (HOr.out.below (below_regrown wr _ _)).rs)))); refine wpQuiet_nil ?_; intro _ hw'; obtain ⟨⟨dq, osq⟩, hw''⟩ := hw'; subst hw''; clear hq; have hb6 := below_regrown wr dq osq; generalize Sort.grow (redrawn wr dq) osq = w6 at hb6 ⊢; have hz6 := hb6.size; (try simp at hz6); have _ : b < w6.heap.size := (by first | (simp; done) | omega | (simp; omega)); have _ := fun o => hb6.cell (p := ⟨b, o, none⟩) (by first | (simp; done) | omega | (simp; omega))
              go_wp2
              go_ret
              exact ⟨rfl, by (repeat (first | with_reducible exact Below.refl _ _ | with_reducible assumption | ((with_reducible refine Below.alloc ?_ ?_ _); rotate_left; focus (first | with_reducible exact Nat.le_refl _ | omega | (simp; done) | (simp; omega))) | ((with_reducible refine Below.setCell ?_ ?_ _); rotate_left; focus (first | with_reducible exact Nat.le_refl _ | omega | (simp; done) | (simp; omega))) | (with_reducible refine Below.drew ?_) | ((with_reducible refine Below.trans ?_ (Below.mono (by with_reducible assumption) ?_)); rotate_left; focus (first | with_reducible exact Nat.le_refl _ | omega | (simp; done) | (simp; omega)))))⟩
end Go.Proofs.Ytiblgdklobnmgaa
