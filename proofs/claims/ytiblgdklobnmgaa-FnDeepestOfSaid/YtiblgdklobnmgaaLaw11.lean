
/- The laws of DeepestOf and AtLeast: their walks. -/
import Derived.Test.YtiblgdklobnmgaaLaw10
import Derived.Test.YtiblgdklobnmgaaEx6
namespace Go.Proofs.Ytiblgdklobnmgaa
open Go.RowKit Go.Sort Go.BigFrame
set_option linter.unusedVariables false
theorem daF_yes {f : Nat → Rt} {m : Nat} {x y : Int} (hl : laidF f m = true) (hx : 0 ≤ x ∧ x ≤ 19) (hy : 0 ≤ y ∧ y ≤ 19) : daF f m x y = depF f x y m := by
  unfold daF; rw [hl, show inB x 0 19 = true from inB_iff.2 hx, show inB y 0 19 = true from inB_iff.2 hy]; rfl
theorem zero_same {d m : Nat} (h : d = 0 ↔ m = 0) : ((d : Int) == 0) = ((m : Int) == 0) := by
  rw [Bool.eq_iff_iff, beq_iff_eq, beq_iff_eq]; omega
/-- What the law of DeepestOf says. -/
theorem best_law {f : Nat → Rt} {m : Nat} (hl : laidF f m = true) :
    ∃ d x y : Nat, deF f m = ((d : Int), (x : Int), (y : Int)) ∧ d ≤ m ∧ daF f m x y = d ∧ (∀ k j, k < m → j < m → 0 ≤ daF f m (f k).l (f j).o ∧ daF f m (f k).l (f j).o ≤ d) ∧ (d = 0 ↔ m = 0) := by
  obtain ⟨h7, hok⟩ := laidF_ok hl
  obtain ⟨d, x, y, h1, h2, h3, h4, h5, h6, h8⟩ := deepest_law f m (fun i hi => okTo_le hok hi)
  refine ⟨d, x, y, by unfold deF; rw [hl]; exact h1, h2, ?_, ?_, h8⟩
  · rw [daF_yes hl (by omega) (by omega)]; exact h5
  · intro k j hk hj
    have a1 := okB_iff.1 (okTo_le hok hk)
    have a2 := okB_iff.1 (okTo_le hok hj)
    rw [daF_yes hl (by omega) (by omega)]
    refine ⟨(depF_bd f _ _ m).1, ?_⟩
    have := h6 (f k).l.toNat (f j).o.toNat (by omega) (by omega)
    rw [show (((f k).l.toNat : Nat) : Int) = (f k).l by omega, show (((f j).o.toNat : Nat) : Int) = (f j).o by omega] at this
    exact this

set_option maxHeartbeats 4000000 in
theorem walkDeepestOf (a : Option Addr) (len cap : Nat) (w : World) (hc : Came w a len cap) :
    Calls Try.prog 5 #[.slice a len cap] w fun e w' => e = .returned (.bool true) ∧ Below w.heap.size w w' := by
  have hm := hc.len_le
  by_cases hl : 1048576 < len
  · go_enter Try.func5, Try.ntmps5
    go_wp2
    go_ret
    exact ⟨rfl, Below.refl _ _⟩
  · go_enter Try.func5, Try.ntmps5
    go_wp2_with fail
    refine (dDeepestOf _ _ _ _ hc).mono ?_; rintro e w1 hp; have HP1 := Lib.hid hp; clear hp; obtain ⟨A, m, lcap, g, f, rfl, hm8, ho1, hg1, hh1, hb1⟩ := HP1.out; have hz1 := hb1.size; (try simp at hz1); have HO1 := Lib.hid ho1; have HH1 := Lib.hid hh1; clear ho1 hh1; have hmm : m ≤ maxLen := (by unfold maxLen; omega); have Hmm := Lib.hid hmm; clear hmm
    cases hL : laidF f m
    · have HD : Hid (deF f m = (-1, -1, -1)) := Lib.hid (by unfold deF; rw [hL]; rfl)
      go_wp2_with fail
      refine (ide_val A m lcap f (-1) (-1) (-1) false HD.out hL _ Hmm.out HO1.out.rs).mono ?_; rintro e w2 ⟨rfl, hb2⟩; have hz2 := hb2.size; (try simp at hz2); have HO2 := Lib.hid (HO1.out.below hb2)
      go_wp2_with fail
      refine (sde_val A m lcap f (-1) (-1) (-1) false HD.out hL _ Hmm.out HO2.out.rs).mono ?_; rintro e w3 ⟨rfl, hb3⟩; have hz3 := hb3.size; (try simp at hz3); have HO3 := Lib.hid (HO2.out.below hb3)
      go_wp2_with fail
      refine (alive_any _).mono ?_; rintro e w4 ⟨rfl, hb4⟩; have hz4 := hb4.size; (try simp at hz4)
      go_wp2
      go_ret
      exact ⟨rfl, by (repeat (first | with_reducible exact Below.refl _ _ | with_reducible assumption | ((with_reducible refine Below.alloc ?_ ?_ _); rotate_left; focus (first | with_reducible exact Nat.le_refl _ | omega | (simp; done) | (simp; omega))) | ((with_reducible refine Below.setCell ?_ ?_ _); rotate_left; focus (first | with_reducible exact Nat.le_refl _ | omega | (simp; done) | (simp; omega))) | (with_reducible refine Below.drew ?_) | ((with_reducible refine Below.trans ?_ (Below.mono (by with_reducible assumption) ?_)); rotate_left; focus (first | with_reducible exact Nat.le_refl _ | omega | (simp; done) | (simp; omega)))))⟩
    · obtain ⟨d, x, y, l1, l2, l3, l4, l5⟩ := best_law hL
      have HD := Lib.hid l1
      have H3 := Lib.hid l3
      have H4 := Lib.hid l4
      have h7 := (laidF_ok hL).1
      clear l1 l3 l4
      go_wp2_with fail
      refine (ide_val A m lcap f d x y true HD.out hL _ Hmm.out HO1.out.rs).mono ?_; rintro e w2 ⟨rfl, hb2⟩; have hz2 := hb2.size; (try simp at hz2); have HO2 := Lib.hid (HO1.out.below hb2)
      go_wp2_with fail
      refine (sde_val A m lcap f d x y true HD.out hL _ Hmm.out HO2.out.rs).mono ?_; rintro e w3 ⟨rfl, hb3⟩; have hz3 := hb3.size; (try simp at hz3); have HO3 := Lib.hid (HO2.out.below hb3)
      have HB3 : Hid (Below w.heap.size w w3) := Lib.hid (by (repeat (first | with_reducible exact Below.refl _ _ | with_reducible assumption | ((with_reducible refine Below.alloc ?_ ?_ _); rotate_left; focus (first | with_reducible exact Nat.le_refl _ | omega | (simp; done) | (simp; omega))) | ((with_reducible refine Below.setCell ?_ ?_ _); rotate_left; focus (first | with_reducible exact Nat.le_refl _ | omega | (simp; done) | (simp; omega))) | (with_reducible refine Below.drew ?_) | ((with_reducible refine Below.trans ?_ (Below.mono (by with_reducible assumption) ?_)); rotate_left; focus (first | with_reducible exact Nat.le_refl _ | omega | (simp; done) | (simp; omega))))))
      have hle3 : w.heap.size ≤ w3.heap.size := HB3.out.size
      go_wp2
      go_loopw [12] (fun i wr => ∃ k : Nat, k ≤ m ∧ i = .int .i64 k ∧ Below w3.heap.size w3 wr) (fun i _ => m - (intOf i).toNat)
      case atStart => exact ⟨0, Nat.zero_le _, rfl, Below.refl _ _⟩
      case round =>
        obtain ⟨k, hk, rfl, hbr⟩ := hrel
        have hzr := hbr.size
        have HBr := Lib.hid hbr
        clear hbr
        by_cases hlt : k < m
        · go_wp2
          obtain ⟨wo, ho⟩ : ∃ wo : World, wo = wr := ⟨_, rfl⟩
          go_loopw [13] (fun i wi => ∃ j : Nat, j ≤ m ∧ i = .int .i64 j ∧ Below w3.heap.size w3 wi) (fun i _ => m - (intOf i).toNat)
          case atStart => exact ⟨0, Nat.zero_le _, rfl, HBr.out⟩
          case round =>
            obtain ⟨j, hj, rfl, hbi⟩ := hrel
            have hzi := hbi.size
            have HBi := Lib.hid hbi
            clear hbi
            by_cases hlt2 : j < m
            · have HOi := Lib.hid (HO3.out.below HBi.out)
              obtain ⟨b, off, hA, hbl, ⟨c0, _, _, _⟩, ⟨_, d1, _, _⟩⟩ := HOi.out.rs.at2 hlt hlt2
              subst hA
              obtain ⟨v1, v2⟩ := H4.out k j hlt hlt2
              generalize hV : daF f m (f k).l (f j).o = V at v1 v2
              have HV := Lib.hid hV
              clear hV
              go_wp2_with fail
              have hq : True := trivial; have hq := fun d os o => (below_regrown wr d os).cell (p := ⟨b, o, none⟩) (by first | (simp; done) | omega | (simp; omega)); refine wp_region_quiet_below (by kernel_rfl) (by kernel_rfl) ?_; (repeat (first | go_big_quiet_step (exact Calls.regrown_of (ida_val _ m lcap f (f k).l (f j).o V HV.out _ Hmm.out (HOi.out.below (below_regrown wr _ _)).rs)) | quiet_step (exact Calls.regrown_of (ida_val _ m lcap f (f k).l (f j).o V HV.out _ Hmm.out (HOi.out.below (below_regrown wr _ _)).rs)))); refine wpQuiet_nil ?_; intro _ hw'; obtain ⟨⟨dq, osq⟩, hw''⟩ := hw'; subst hw''; clear hq; have hb4 := below_regrown wr dq osq; generalize Sort.grow (redrawn wr dq) osq = w4 at hb4 ⊢; have hz4 := hb4.size; (try simp at hz4); have _ : b < w4.heap.size := (by first | (simp; done) | omega | (simp; omega)); have _ := fun o => hb4.cell (p := ⟨b, o, none⟩) (by first | (simp; done) | omega | (simp; omega))
              go_wp2
              go_roundw
              case rel => exact ⟨j + 1, by omega, by go_num, HBi.out.trans (hb4.mono hzi)⟩
              case measure => simp [intOf]; omega
            · obtain rfl : j = m := by omega
              go_wp2
              go_roundw
              case rel => exact ⟨k + 1, by omega, by go_num, HBi.out⟩
              case measure => simp [intOf]; omega
        · obtain rfl : k = m := by omega
          have HOr := Lib.hid (HO3.out.below HBr.out)
          go_wp2_with fail
          refine (ida_val A k lcap f x y d H3.out _ Hmm.out HOr.out.rs).mono ?_; rintro e w4 ⟨rfl, hb4⟩; have hz4 := hb4.size; (try simp at hz4)
          have HB4 := Lib.hid (HB3.out.trans ((HBr.out.trans (hb4.mono hzr)).mono hle3))
          clear hb4
          have HZ := Lib.hid (zero_same l5)
          clear l5
          go_wp2
          go_ret
          exact ⟨ret_bool (by simpa using HZ.out), HB4.out⟩

def tailsF (f : Nat → Rt) (m k : Nat) : Int := sumN k (fun i => tailF f m (i + 1))
theorem tailsF_bd (f : Nat → Rt) (m k : Nat) : 0 ≤ tailsF f m k ∧ tailsF f m k ≤ 400 * k := by
  unfold tailsF
  induction k with
  | zero => simp [sumN]
  | succ k ih => simp only [sumN]; have := tail_bd f m (k + 1); omega
theorem alF_nat {f : Nat → Rt} {m : Nat} (hl : laidF f m = true) (k : Nat) : alF f m (k : Nat) = tailF f m k := by
  unfold alF; rw [hl, show decide (0 ≤ ((k : Nat) : Int)) = true by simp]; rfl
/-- What the law of AtLeast says. -/
theorem tail_law {f : Nat → Rt} {m : Nat} (hl : laidF f m = true) : tailF f m 1 = uaF f m ∧ tailsF f m m = areasF f m :=
  ⟨by rw [ua_yes3 hl, tail_one], tail_areas f m (fun i hi => okTo_le (laidF_ok hl).2 hi)⟩
set_option maxHeartbeats 4000000 in
theorem walkAtLeast (a : Option Addr) (len cap : Nat) (w : World) (hc : Came w a len cap) :
    Calls Try.prog 6 #[.slice a len cap] w fun e w' => e = .returned (.bool true) ∧ Below w.heap.size w w' := by
  have hm := hc.len_le
  by_cases hl : 1048576 < len
  · go_enter Try.func6, Try.ntmps6
    go_wp2
    go_ret
    exact ⟨rfl, Below.refl _ _⟩
  · go_enter Try.func6, Try.ntmps6
    go_wp2_with fail
    refine (dAtLeast _ _ _ _ hc).mono ?_; rintro e w1 hp; have HP1 := Lib.hid hp; clear hp; obtain ⟨A, m, lcap, g, f, x, rfl, hm8, bx, ho1, hg1, hh1, hb1⟩ := HP1.out; have hz1 := hb1.size; (try simp at hz1); have HO1 := Lib.hid ho1; have HH1 := Lib.hid hh1; clear ho1 hh1; have hmm : m ≤ maxLen := (by unfold maxLen; omega); have Hmm := Lib.hid hmm; clear hmm
    by_cases hD : laidF f m = true ∧ 0 ≤ x
    · obtain ⟨hL, hx⟩ := hD
      obtain ⟨X, rfl⟩ : ∃ X : Nat, x = X := ⟨x.toNat, by omega⟩
      obtain ⟨h7, hok⟩ := laidF_ok hL
      have Hok := Lib.hid hok
      have LW := Lib.hid (tail_law hL)
      have HA0 := Lib.hid (alF_nat hL X)
      have HA1 := Lib.hid (alF_nat hL (X + 1))
      have HAl := Lib.hid (fun k => alF_nat hL k)
      have hlt := tail_less f m X
      obtain ⟨t1, t2⟩ := tail_bd f m X
      obtain ⟨t3, t4⟩ := tail_bd f m (X + 1)
      generalize hV0 : tailF f m X = V0 at hlt t1 t2
      generalize hV1 : tailF f m (X + 1) = V1 at hlt t3 t4
      have HV0 : Hid (alF f m (X : Nat) = V0) := Lib.hid (by rw [HA0.out, hV0])
      have HV1 : Hid (alF f m ((X : Int) + 1) = V1) := Lib.hid (by rw [← hV1, ← HA1.out]; rfl)
      obtain ⟨U, hU⟩ : ∃ U, uaF f m = U := ⟨_, rfl⟩
      have HU := Lib.hid hU
      have HT1 : Hid (alF f m 1 = U) := Lib.hid (by rw [← hU, ← LW.out.1, ← alF_nat hL 1]; rfl)
      clear hok hV0 hV1 hU
      go_wp2_with fail
      refine (ial_val A m lcap f (X : Nat) V0 HV0.out _ Hmm.out HO1.out.rs).mono ?_; rintro e w2 ⟨rfl, hb2⟩; have hz2 := hb2.size; (try simp at hz2); have HO2 := Lib.hid (HO1.out.below hb2)
      go_wp2_with fail
      refine (sal_val A m lcap f (X : Nat) V0 HV0.out _ Hmm.out HO2.out.rs).mono ?_; rintro e w3 ⟨rfl, hb3⟩; have hz3 := hb3.size; (try simp at hz3); have HO3 := Lib.hid (HO2.out.below hb3)
      have HB3 : Hid (Below w.heap.size w w3) := Lib.hid (by (repeat (first | with_reducible exact Below.refl _ _ | with_reducible assumption | ((with_reducible refine Below.alloc ?_ ?_ _); rotate_left; focus (first | with_reducible exact Nat.le_refl _ | omega | (simp; done) | (simp; omega))) | ((with_reducible refine Below.setCell ?_ ?_ _); rotate_left; focus (first | with_reducible exact Nat.le_refl _ | omega | (simp; done) | (simp; omega))) | (with_reducible refine Below.drew ?_) | ((with_reducible refine Below.trans ?_ (Below.mono (by with_reducible assumption) ?_)); rotate_left; focus (first | with_reducible exact Nat.le_refl _ | omega | (simp; done) | (simp; omega))))))
      have hle3 : w.heap.size ≤ w3.heap.size := HB3.out.size
      go_wp2
      go_loopw [6, 7, 8] (fun s t i wr => ∃ k : Nat, k ≤ m ∧ i = .int .i64 k ∧ s = .int .i64 (tailsF f m k) ∧ t = .int .i64 (areasF f k) ∧ Below w3.heap.size w3 wr) (fun _ _ i _ => m - (intOf i).toNat)
      case atStart => exact ⟨0, Nat.zero_le _, rfl, rfl, rfl, Below.refl _ _⟩
      case round =>
        obtain ⟨k, hk, rfl, rfl, rfl, hbr⟩ := hrel
        have hzr := hbr.size
        have HBr := Lib.hid hbr
        have HS : Hid (tailsF f m (k + 1) = tailsF f m k + tailF f m (k + 1) ∧ areasF f (k + 1) = areasF f k + areaM (f k)) := Lib.hid ⟨rfl, rfl⟩
        obtain ⟨sb1, sb2⟩ := tailsF_bd f m k
        obtain ⟨ab1, ab2⟩ := areasF_bd Hok.out k hk
        generalize hT : tailsF f m k = T at sb1 sb2
        generalize hAr : areasF f k = R at ab1 ab2
        have HT := Lib.hid hT
        have HR := Lib.hid hAr
        have HOr := Lib.hid (HO3.out.below hbr)
        clear hT hAr
        by_cases hlt2 : k < m
        · obtain ⟨b, off, hA, hbl, d0, d1, d2, d3⟩ := HOr.out.rs.at_ hlt2
          subst hA
          have av := area_bd3 (okTo_le Hok.out hlt2)
          obtain ⟨V, hV⟩ : ∃ V, areaM (f k) = V := ⟨_, rfl⟩
          rw [hV] at av
          obtain ⟨av1, av2⟩ := av
          have HV := Lib.hid hV
          obtain ⟨q1, q2⟩ := tail_bd f m (k + 1)
          generalize hQ : tailF f m (k + 1) = Q at q1 q2
          have HQ := Lib.hid hQ
          have HK : Hid (alF f m ((k : Int) + 1) = Q) := Lib.hid (by rw [← hQ, ← HAl.out (k + 1)]; rfl)
          clear hV hQ hbr
          go_wp2_with fail
          refine (ial_val _ m lcap f ((k : Int) + 1) Q HK.out _ Hmm.out HOr.out.rs).mono ?_; rintro e w4 ⟨rfl, hb4⟩; have hz4 := hb4.size; (try simp at hz4); have _ : b < w4.heap.size := (by first | (simp; done) | omega | (simp; omega)); have _ := fun o => hb4.cell (p := ⟨b, o, none⟩) (by first | (simp; done) | omega | (simp; omega))
          go_wp2_with fail
          refine (iarea_v3 (f k) V HV.out _).mono ?_; rintro e w5 ⟨rfl, hb5⟩; have hz5 := hb5.size; (try simp at hz5)
          have B5 : Hid (Below w3.heap.size w3 w5) := Lib.hid ((HBr.out.trans (hb4.mono hzr)).trans (hb5.mono (by omega)))
          clear hb4 hb5
          go_wp2
          go_roundw
          case rel => exact ⟨k + 1, by omega, by go_num, by rw [HS.out.1, HT.out, HQ.out], by rw [HS.out.2, HR.out, HV.out], B5.out⟩
          case measure => simp [intOf]; omega
        · obtain rfl : k = m := by omega
          have e1 : T = R := by rw [← HT.out, ← HR.out]; exact LW.out.2
          subst e1
          clear hbr
          go_wp2_with fail
          refine (ial_val A k lcap f ((X : Int) + 1) V1 HV1.out _ Hmm.out HOr.out.rs).mono ?_; rintro e w4 ⟨rfl, hb4⟩; have hz4 := hb4.size; (try simp at hz4)
          have HO4 := Lib.hid (HOr.out.below hb4)
          go_wp2_with fail
          refine (ial_val A k lcap f 1 U HT1.out _ Hmm.out HO4.out.rs).mono ?_; rintro e w5 ⟨rfl, hb5⟩; have hz5 := hb5.size; (try simp at hz5)
          have HO5 := Lib.hid (HO4.out.below hb5)
          go_wp2_with fail
          refine (iua_v3 A k lcap f U HU.out _ Hmm.out HO5.out.rs).mono ?_; rintro e w6 ⟨rfl, hb6⟩; have hz6 := hb6.size; (try simp at hz6)
          go_wp2_with fail
          refine (alive_any _).mono ?_; rintro e w7 ⟨rfl, hb7⟩; have hz7 := hb7.size; (try simp at hz7)
          go_wp2
          go_ret
          refine ⟨rfl, ?_⟩
          have h4 := HBr.out.trans (hb4.mono hzr)
          have h5 := h4.trans (hb5.mono (by omega))
          have h6 := h5.trans (hb6.mono (by omega))
          have h7 := h6.trans (hb7.mono (by omega))
          exact HB3.out.trans (h7.mono hle3)
    · have HN : Hid (alF f m x = -1) := Lib.hid (by
        unfold alF
        cases hL : laidF f m
        · rfl
        · rw [show decide (0 ≤ x) = false by simp; exact Int.not_le.1 fun h => hD ⟨hL, h⟩]; rfl)
      clear hD
      go_wp2_with fail
      refine (ial_val A m lcap f x (-1) HN.out _ Hmm.out HO1.out.rs).mono ?_; rintro e w2 ⟨rfl, hb2⟩; have hz2 := hb2.size; (try simp at hz2); have HO2 := Lib.hid (HO1.out.below hb2)
      go_wp2_with fail
      refine (sal_val A m lcap f x (-1) HN.out _ Hmm.out HO2.out.rs).mono ?_; rintro e w3 ⟨rfl, hb3⟩; have hz3 := hb3.size; (try simp at hz3); have HO3 := Lib.hid (HO2.out.below hb3)
      go_wp2_with fail
      refine (alive_any _).mono ?_; rintro e w4 ⟨rfl, hb4⟩; have hz4 := hb4.size; (try simp at hz4)
      go_wp2
      go_ret
      exact ⟨rfl, by (repeat (first | with_reducible exact Below.refl _ _ | with_reducible assumption | ((with_reducible refine Below.alloc ?_ ?_ _); rotate_left; focus (first | with_reducible exact Nat.le_refl _ | omega | (simp; done) | (simp; omega))) | ((with_reducible refine Below.setCell ?_ ?_ _); rotate_left; focus (first | with_reducible exact Nat.le_refl _ | omega | (simp; done) | (simp; omega))) | (with_reducible refine Below.drew ?_) | ((with_reducible refine Below.trans ?_ (Below.mono (by with_reducible assumption) ?_)); rotate_left; focus (first | with_reducible exact Nat.le_refl _ | omega | (simp; done) | (simp; omega)))))⟩
end Go.Proofs.Ytiblgdklobnmgaa
